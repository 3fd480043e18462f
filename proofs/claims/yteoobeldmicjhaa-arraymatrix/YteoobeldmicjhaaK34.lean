/-
  Contract: array.dot. Contract: array.work of Dot, over what dot does. Two dimensions: what may be asked, and what is read. Contracts: array.Do of a Dot of two matrices, and of a Turn of one.
-/
import Derived.Test.YteoobeldmicjhaaK31
import Derived.Test.YteoobeldmicjhaaK33
import Derived.Test.YteoobeldmicjhaaK23
namespace Go.Proofs.Yteoobeldmicjhaa.V
open Go.RowKit

/-- New numbers. -/
def fInts (N n : Nat) (xs : List Int) : Fact := ⟨fun v w => ∃ G, v = .slice (some ⟨G, 0, none⟩) n n ∧ Ints w (some ⟨G, 0, none⟩) n xs ∧ N ≤ G, false⟩
theorem fInts_good (N n : Nat) (xs : List Int) : (fInts N n xs).Good := ⟨fun _ _ _ ⟨G, h1, h2, h3⟩ hb => ⟨G, h1, h2.below hb, h3⟩, fun h => by cases h⟩
/-- A new variable. -/
def fBox (N : Nat) (t : TypeId) (z : Value) : Fact := ⟨fun v w => ∃ C, v = .pointer (some ⟨C, 0, none⟩) ∧ Boxed w C t z ∧ N ≤ C, true⟩
theorem fBox_good (N : Nat) (t : TypeId) (z : Value) : (fBox N t z).Good := ⟨fun _ _ _ ⟨C, h1, h2, h3⟩ hb => ⟨C, h1, Boxed.below h2 hb, h3⟩, fun _ v w b ⟨C, h1, h2, h3⟩ hb => by
  rw [h1] at hb
  simp only [blk, Option.some.injEq] at hb
  rw [← hb]
  exact Boxed.lt h2⟩

/-- A list of numbers. -/
def fList (xs : List Int) : Fact := ⟨fun v w => ∃ X n c, v = .slice X n c ∧ Ints w X n xs, false⟩
theorem fList_good (xs : List Int) : (fList xs).Good := ⟨fun _ _ _ ⟨X, n, c, h1, h2⟩ hb => ⟨X, n, c, h1, h2.below hb⟩, fun h => by cases h⟩
theorem ints_box {w : World} {G n C : Nat} {xs : List Int} {t : TypeId} {z : Value} (h : Ints w (some ⟨G, 0, none⟩) n xs) (hb : Boxed w C t z) (hz : ∀ k i, z ≠ .int k i) (u : Value) : Ints (w.setCell ⟨C, 0, none⟩ u) (some ⟨G, 0, none⟩) n xs := by
  obtain ⟨h1, h2, h3, h4⟩ := h
  refine ⟨h1, h2, h3, ?_⟩
  by_cases h0 : n = 0
  · exact .inl h0
  · rcases h4 with h4 | ⟨b, off, e, hc⟩
    · exact .inl h4
    · cases e
      have hne : G ≠ C := by
        intro e
        subst e
        have h5 := hc 0 (by omega)
        rw [Nat.add_zero, hb.cell] at h5
        exact hz _ _ (Option.some.inj h5)
      exact .inr ⟨_, _, rfl, fun j hj => setc_cell (hc j hj) hne⟩
/-- What a Dot puts. -/
def dotF (x y : List Int) (long rows cols n : Nat) : List Int := (List.range n).map fun i => innS (sub x (i / cols * long) long) (sub y ((i / cols / rows * cols + i % cols) * long) long) long
theorem dotF_at (x y : List Int) (long rows cols n i : Nat) (h : i < n) : (dotF x y long rows cols n)[i]?.getD 0 = innS (sub x (i / cols * long) long) (sub y ((i / cols / rows * cols + i % cols) * long) long) long := by simp [dotF, h]
theorem dotF_length (x y : List Int) (long rows cols n : Nat) : (dotF x y long rows cols n).length = n := by simp [dotF]

set_option maxRecDepth 100000 in
set_option maxHeartbeats 4000000 in
theorem dot_any (k x : Int) (vd : Value) (pa : Option Addr) (pl pc : Nat) (ps : List Int) (la : Option Addr) (ll lc : Nat) (lo : List Int) (ha : Option Addr) (hl hc : Nat) (hi : List Int) (ta : Option Addr) (tl tc : Nat) (st : List Int) (da : Option Addr) (dl dc : Nat) (ds : List Int) (xa : Option Addr) (n1 xc : Nat) (xs : List Int) (ea : Option Addr) (el ec : Nat) (es : List Int) (ya : Option Addr) (n2 yc : Nat) (ys : List Int) (Q1 Q2 : List Int) (long rows cols g n : Nat) (w : World)
    (hp : Lst w pa pl pc ps) (hlo : Lst w la ll lc lo) (hhi : Lst w ha hl hc hi) (hst : Lst w ta tl tc st) (hd : Ints w da dl ds) (he : Ints w ea el es) (hx : Ints w xa n1 xs) (hy : Ints w ya n2 ys) (hz1 : sizeE ds = 0) (hz2 : sizeE es = 0) (hn1 : n1 ≤ 65536) (hn2 : n2 ≤ 65536) (hn : n ≤ 65536) (hdB : dotB ps st lo hi ds es = true)
    (ht1 : turnE 0 ds (stepsV ds) (lo ++ freeL (lo ++ ps) ds.length ++ ps) = 0) (hQ1 : Q1 = readsV 0 (taken ds (lo ++ freeL (lo ++ ps) ds.length ++ ps)) (taken (stepsV ds) (lo ++ freeL (lo ++ ps) ds.length ++ ps))) (hw1 : wrongE 0 (taken ds (lo ++ freeL (lo ++ ps) ds.length ++ ps)) (taken (stepsV ds) (lo ++ freeL (lo ++ ps) ds.length ++ ps)) = 0) (hql1 : Q1.length = n1) (hqb1 : ∀ i, i < n1 → 0 ≤ Q1[i]?.getD 0 ∧ Q1[i]?.getD 0 < n1) (hs1 : lo.length + (freeL (lo ++ ps) ds.length).length + ps.length ≤ 6)
    (ht2 : turnE 0 es (stepsV es) (hi ++ freeL (hi ++ st) es.length ++ st) = 0) (hQ2 : Q2 = readsV 0 (taken es (hi ++ freeL (hi ++ st) es.length ++ st)) (taken (stepsV es) (hi ++ freeL (hi ++ st) es.length ++ st))) (hw2 : wrongE 0 (taken es (hi ++ freeL (hi ++ st) es.length ++ st)) (taken (stepsV es) (hi ++ freeL (hi ++ st) es.length ++ st)) = 0) (hql2 : Q2.length = n2) (hqb2 : ∀ i, i < n2 → 0 ≤ Q2[i]?.getD 0 ∧ Q2[i]?.getD 0 < n2) (hs2 : hi.length + (freeL (hi ++ st) es.length).length + st.length ≤ 6)
    (hlong : prod (taken ds ps) = (long : Int)) (hrows : prod (taken ds (freeL (lo ++ ps) ds.length)) = (rows : Int)) (hcols : prod (taken es (freeL (hi ++ st) es.length)) = (cols : Int)) (hr0 : 0 < rows) (hc0 : 0 < cols) (hl6 : long ≤ 65536) (hr6 : rows ≤ 65536) (hc6 : cols ≤ 65536) (hbnd : ∀ i, i < n → i / cols * long + long ≤ n1 ∧ (i / cols / rows * cols + i % cols) * long + long ≤ n2 ∧ i / cols / rows * cols + i % cols ≤ 65536)
    (hrow : w.rowIs g 2 n (fun _ => .int .i64 0)) :
    Calls Try.prog 19 #[.slice (some ⟨g, 0, none⟩) n n, .agg #[.int .i64 k, vd, .slice pa pl pc, .slice la ll lc, .slice ha hl hc, .slice ta tl tc, .int .i64 x], .agg #[.slice da dl dc, .slice xa n1 xc], .agg #[.slice ea el ec, .slice ya n2 yc]] w fun e w' => e = .returned (.tuple #[]) ∧ w'.rowIs g 2 n (fun j => .int .i64 ((dotF (lookL xs Q1) (lookL ys Q2) long rows cols n)[j]?.getD 0)) ∧ Save g w w' := by
  have h6 : dl ≤ 6 := by have := (sizeE_ok hz1).1; have := hd.1; omega
  have h6' : el ≤ 6 := by have := (sizeE_ok hz2).1; have := he.1; omega
  have HON := hide (show onceB (lo ++ ps) ds.length = true ∧ onceB (hi ++ st) es.length = true from by unfold dotB at hdB; simp only [Bool.and_eq_true] at hdB; exact ⟨hdB.1, hdB.2.1⟩)
  have HTP : Hid (∀ W, Below w.heap.size w W → Calls Try.prog 45 #[.slice da dl dc, .slice pa pl pc] W fun e w' => GivesL W e w' (taken ds ps) ∧ Below W.heap.size W w') := fun W hW => these_any _ _ _ ds _ _ _ ps _ (hd.below hW) (hp.1.below hW) (fun y hy => by have := (once_iff.1 ((onceB_iff _ _).1 HON.out.1)).1 y (List.mem_append_right _ hy); rw [hd.1] at this; exact this) (by have := hp.1.1; omega)
  have HTA : Hid (∀ W X sn sc, Below w.heap.size w W → Lst W X sn sc (freeL (lo ++ ps) ds.length) → Calls Try.prog 45 #[.slice da dl dc, .slice X sn sc] W fun e w' => GivesL W e w' (taken ds (freeL (lo ++ ps) ds.length)) ∧ Below W.heap.size W w') := fun W X sn sc hW hX => these_any _ _ _ ds _ _ _ _ _ (hd.below hW) hX.1 (fun y hy => by have := freeL_bd _ _ y hy; rw [hd.1] at this; exact this) (by have := hX.1.1; omega)
  have HTB : Hid (∀ W Y sm sd, Below w.heap.size w W → Lst W Y sm sd (freeL (hi ++ st) es.length) → Calls Try.prog 45 #[.slice ea el ec, .slice Y sm sd] W fun e w' => GivesL W e w' (taken es (freeL (hi ++ st) es.length)) ∧ Below W.heap.size W w') := fun W Y sm sd hW hY => these_any _ _ _ es _ _ _ _ _ (he.below hW) hY.1 (fun y hy => by have := freeL_bd _ _ y hy; rw [he.1] at this; exact this) (by have := hY.1.1; omega)
  have HLO1 : Hid (IntKind.i64.wrap (prod (taken ds ps)) = (long : Int)) := by rw [Hid, hlong, wrap_in _ (by omega) (by omega)]
  have HLO2 : Hid (IntKind.i64.wrap (prod (taken ds (freeL (lo ++ ps) ds.length))) = (rows : Int)) := by rw [Hid, hrows, wrap_in _ (by omega) (by omega)]
  have HLO3 : Hid (IntKind.i64.wrap (prod (taken es (freeL (hi ++ st) es.length))) = (cols : Int)) := by rw [Hid, hcols, wrap_in _ (by omega) (by omega)]
  have HBN := hide hbnd
  have HP := hide hp
  have HLO := hide hlo
  have HHI := hide hhi
  have HST := hide hst
  have HD := hide hd
  have HE := hide he
  have HX := hide hx
  have HY := hide hy
  have HR := hide hrow
  have hgl : g < w.heap.size := hrow.lt
  have HB1 := (Below.refl w.heap.size w).alloc (Nat.le_refl _) (.cells #[.int .i64 k, vd, .slice pa pl pc, .slice la ll lc, .slice ha hl hc, .slice ta tl tc, .int .i64 x] 30)
  have HB2 := HB1.alloc HB1.size (.cells #[.slice da dl dc, .slice xa n1 xc] 25)
  have HB3 := hide (HB2.alloc HB2.size (.cells #[.slice ea el ec, .slice ya n2 yc] 25))
  have HOP := hide (((OpAt.new w k vd (.slice pa pl pc) (.slice la ll lc) (.slice ha hl hc) (.slice ta tl tc) x).alloc (.cells #[.slice da dl dc, .slice xa n1 xc] 25)).alloc (.cells #[.slice ea el ec, .slice ya n2 yc] 25))
  have r1 := (ArrAt.new (w.alloc (.cells #[.int .i64 k, vd, .slice pa pl pc, .slice la ll lc, .slice ha hl hc, .slice ta tl tc, .int .i64 x] 30)) (.slice da dl dc) (.slice xa n1 xc)).alloc (.cells #[.slice ea el ec, .slice ya n2 yc] 25)
  have r2 := ArrAt.new ((w.alloc (.cells #[.int .i64 k, vd, .slice pa pl pc, .slice la ll lc, .slice ha hl hc, .slice ta tl tc, .int .i64 x] 30)).alloc (.cells #[.slice da dl dc, .slice xa n1 xc] 25)) (.slice ea el ec) (.slice ya n2 yc)
  simp only [World.size_alloc] at r1 r2
  have HAA := hide r1
  have HAB := hide r2
  obtain ⟨o0, o1, o2, o3, o4, o5, o6⟩ := HOP.out.cells
  obtain ⟨⟨p0, p1⟩, _⟩ := HAA.out.cells
  obtain ⟨⟨p2, p3⟩, _⟩ := HAB.out.cells
  have HSD := hide (sides_any k x vd pa pl pc ps la ll lc lo ha hl hc hi ta tl tc st da dl dc ds ea el ec es _ (hp.below HB3.out) (hlo.below HB3.out) (hhi.below HB3.out) (hst.below HB3.out) (hd.below HB3.out) (he.below HB3.out) h6 h6')
  have HDB := hide hdB
  have HL1 : Hid (∀ W X sn sc, Below w.heap.size w W → Lst W X sn sc (freeL (lo ++ ps) ds.length) → Calls Try.prog 44 #[.agg #[.slice la ll lc, .slice X sn sc, .slice pa pl pc], .agg #[.slice da dl dc, .slice xa n1 xc]] W fun e w' => (∃ G, e = .returned (.slice (some ⟨G, 0, none⟩) n1 n1) ∧ Ints w' (some ⟨G, 0, none⟩) n1 (lookL xs Q1) ∧ W.heap.size ≤ G) ∧ Below W.heap.size W w') := fun W X sn sc hW hX => laid_any la ll lc lo X sn sc _ pa pl pc ps da dl dc ds xa n1 xc xs Q1 W (hlo.below hW) hX (hp.below hW) (hd.below hW) (hx.below hW) hn1 (by have := hX.1.1; have := hlo.1.1; have := hp.1.1; omega) hz1 ht1 hQ1 hw1 hql1 hqb1
  have HL2 : Hid (∀ W Y sm sd, Below w.heap.size w W → Lst W Y sm sd (freeL (hi ++ st) es.length) → Calls Try.prog 44 #[.agg #[.slice ha hl hc, .slice Y sm sd, .slice ta tl tc], .agg #[.slice ea el ec, .slice ya n2 yc]] W fun e w' => (∃ G, e = .returned (.slice (some ⟨G, 0, none⟩) n2 n2) ∧ Ints w' (some ⟨G, 0, none⟩) n2 (lookL ys Q2) ∧ W.heap.size ≤ G) ∧ Below W.heap.size W w') := fun W Y sm sd hW hY => laid_any ha hl hc hi Y sm sd _ ta tl tc st ea el ec es ya n2 yc ys Q2 W (hhi.below hW) hY (hst.below hW) (he.below hW) (hy.below hW) hn2 (by have := hY.1.1; have := hhi.1.1; have := hst.1.1; omega) hz2 ht2 hQ2 hw2 hql2 hqb2
  clear hp hlo hhi hst hd he hx hy hz1 hz2 hdB ht1 hQ1 hw1 hql1 hqb1 ht2 hQ2 hw2 hql2 hqb2 hrow r1 r2 HB1 HB2 hs1 hs2 hlong hrows hcols hbnd hl6
  go_enter Try.func19, Try.ntmps19
  go_wp2_with (go_at_call 43; refine HSD.out.mono ?_; rintro e w1 ⟨hsp, hb⟩; obtain ⟨_, X, sn, sc, Y, sm, sd, rfl, hX, hY⟩ := hsp.resolve_right (fun h => by have := h.1; rw [HDB.out] at this; cases this); have HB4 := hide (Below.on HB3.out hb); have HAA4 := hide (HAA.out.below hb); have HAB4 := hide (HAB.out.below hb); have HX4 := hide hX; have HY4 := hide hY; clear hX hY hb hsp o0 o1 o2 o3 o4 o5 o6 p0 p1 p2 p3)
  have HW1 := hide (((Below.refl w1.heap.size w1).alloc (Nat.le_refl _) (.cells #[.slice la ll lc, .slice X sn sc, .slice pa pl pc] 75)).alloc (by simp) (.cells #[.slice ha hl hc, .slice Y sm sd, .slice ta tl tc] 75))
  have HBW := hide (Below.on HB4.out HW1.out)
  have HSL := hide ((SideAt.new w1 (.slice la ll lc) (.slice X sn sc) (.slice pa pl pc)).alloc (.cells #[.slice ha hl hc, .slice Y sm sd, .slice ta tl tc] 75))
  have hsr := SideAt.new (w1.alloc (.cells #[.slice la ll lc, .slice X sn sc, .slice pa pl pc] 75)) (.slice ha hl hc) (.slice Y sm sd) (.slice ta tl tc)
  simp only [World.size_alloc] at hsr
  have HSR := hide hsr
  have HAA5 := hide (HAA4.out.below HW1.out)
  have HAB5 := hide (HAB4.out.below HW1.out)
  have hwsz : w1.heap.size + 1 + 1 = ((w1.alloc (.cells #[.slice la ll lc, .slice X sn sc, .slice pa pl pc] 75)).alloc (.cells #[.slice ha hl hc, .slice Y sm sd, .slice ta tl tc] 75)).heap.size := by simp
  generalize hWW : (w1.alloc (.cells #[.slice la ll lc, .slice X sn sc, .slice pa pl pc] 75)).alloc (.cells #[.slice ha hl hc, .slice Y sm sd, .slice ta tl tc] 75) = W1 at HW1 HBW HSL HSR HAA5 HAB5 hwsz hsr ⊢
  have HWS := hide hwsz
  obtain ⟨⟨s0, s1, s2⟩, _⟩ := HSL.out.cells
  obtain ⟨⟨t0, t1, t2⟩, _⟩ := HSR.out.cells
  obtain ⟨⟨a0, a1⟩, _⟩ := HAA5.out.cells
  obtain ⟨⟨b0, b1⟩, _⟩ := HAB5.out.cells
  clear hWW hsr hwsz
  refine region_made 8 10 [fIs (.agg #[.slice la ll lc, .slice X sn sc, .slice pa pl pc]), fIs (.agg #[.slice da dl dc, .slice xa n1 xc]), fInts W1.heap.size n1 (lookL xs Q1), fIs (.agg #[.slice ha hl hc, .slice Y sm sd, .slice ta tl tc]), fIs (.agg #[.slice ea el ec, .slice ya n2 yc]), fInts W1.heap.size n2 (lookL ys Q2), fBox W1.heap.size 23 (.slice none 0 0), fBox W1.heap.size 23 (.slice none 0 0)] (by kernel_rfl) (by kernel_rfl) (by kernel_rfl) (fun _ ⟨_, _⟩ ⟨_, _⟩ _ e h => by cases e; exact h) ⟨fIs_good _, fIs_good _, fInts_good _ _ _, fIs_good _, fIs_good _, fInts_good _ _ _, fBox_good _ _ _, fBox_good _ _ _, trivial⟩ ?mk ?rest
  case mk =>
    refine ⟨fun u wz hb hd => ?_, fun u wz hb hd => ?_, fun u wz hb hd => ?_, fun u wz hb hd => ?_, fun u wz hb hd => ?_, fun u wz hb hd => ?_, fun u wz hb hd => ?_, fun u wz hb hd => ?_, trivial⟩
    all_goals simp only [Act.put, List.setIfInBounds_toArray, List.set_cons_zero, List.set_cons_succ]
    · skip
      have s0' := (hb.cell (p := ⟨w1.heap.size, 0, none⟩) (lt_of_cell s0)).trans s0
      have s1' := (hb.cell (p := ⟨w1.heap.size, 1, none⟩) (lt_of_cell s1)).trans s1
      have s2' := (hb.cell (p := ⟨w1.heap.size, 2, none⟩) (lt_of_cell s2)).trans s2
      go_simp
      exact ⟨rfl, Below.refl _ _, fun h => by cases h⟩
    · skip
      have a0' := (hb.cell (p := ⟨w.heap.size + 1, 0, none⟩) (lt_of_cell a0)).trans a0
      have a1' := (hb.cell (p := ⟨w.heap.size + 1, 1, none⟩) (lt_of_cell a1)).trans a1
      go_simp
      exact ⟨rfl, Below.refl _ _, fun h => by cases h⟩
    · have e0 : u 0 = .agg #[.slice la ll lc, .slice X sn sc, .slice pa pl pc] := hd 0 (by omega) (by kernel_rfl)
      have e1 : u 1 = .agg #[.slice da dl dc, .slice xa n1 xc] := hd 1 (by omega) (by kernel_rfl)
      rw [e0, e1]
      go_simp
      refine (HL1.out wz X sn sc (Below.on HBW.out hb) (HX4.out.below (Below.on HW1.out hb))).mono ?_
      rintro e w2 ⟨⟨G, rfl, h1, h2⟩, hb2⟩
      have hs := hb.size
      exact ⟨⟨G, rfl, h1, by omega⟩, hb2, fun h => by cases h⟩
    · skip
      have t0' := (hb.cell (p := ⟨w1.heap.size + 1, 0, none⟩) (lt_of_cell t0)).trans t0
      have t1' := (hb.cell (p := ⟨w1.heap.size + 1, 1, none⟩) (lt_of_cell t1)).trans t1
      have t2' := (hb.cell (p := ⟨w1.heap.size + 1, 2, none⟩) (lt_of_cell t2)).trans t2
      go_simp
      exact ⟨rfl, Below.refl _ _, fun h => by cases h⟩
    · skip
      have b0' := (hb.cell (p := ⟨w.heap.size + 1 + 1, 0, none⟩) (lt_of_cell b0)).trans b0
      have b1' := (hb.cell (p := ⟨w.heap.size + 1 + 1, 1, none⟩) (lt_of_cell b1)).trans b1
      go_simp
      exact ⟨rfl, Below.refl _ _, fun h => by cases h⟩
    · have e0 : u 3 = .agg #[.slice ha hl hc, .slice Y sm sd, .slice ta tl tc] := hd 3 (by omega) (by kernel_rfl)
      have e1 : u 4 = .agg #[.slice ea el ec, .slice ya n2 yc] := hd 4 (by omega) (by kernel_rfl)
      rw [e0, e1]
      go_simp
      refine (HL2.out wz Y sm sd (Below.on HBW.out hb) (HY4.out.below (Below.on HW1.out hb))).mono ?_
      rintro e w2 ⟨⟨G, rfl, h1, h2⟩, hb2⟩
      have hs := hb.size
      exact ⟨⟨G, rfl, h1, by omega⟩, hb2, fun h => by cases h⟩
    · go_simp
      exact ⟨⟨_, rfl, Boxed.new _ _ _, hb.size⟩, (Below.refl _ _).alloc (Nat.le_refl _) _, fun _ b hb => by simp [blk] at hb; omega⟩
    · go_simp
      exact ⟨⟨_, rfl, Boxed.new _ _ _, hb.size⟩, (Below.refl _ _).alloc (Nat.le_refl _) _, fun _ b hb => by simp [blk] at hb; omega⟩
  case rest =>
    intro u wz hb hf hp
    have f0 : u 0 = .agg #[.slice la ll lc, .slice X sn sc, .slice pa pl pc] := hf 0 (by omega)
    have f1 : u 1 = .agg #[.slice da dl dc, .slice xa n1 xc] := hf 1 (by omega)
    obtain ⟨G1, f2, i2, n2'⟩ := hf 2 (by omega)
    have f3 : u 3 = .agg #[.slice ha hl hc, .slice Y sm sd, .slice ta tl tc] := hf 3 (by omega)
    have f4 : u 4 = .agg #[.slice ea el ec, .slice ya n2 yc] := hf 4 (by omega)
    obtain ⟨G2, f5, i5, n5'⟩ := hf 5 (by omega)
    obtain ⟨C1, f6, i6, n6'⟩ := hf 6 (by omega)
    obtain ⟨C2, f7, i7, n7'⟩ := hf 7 (by omega)
    have hcc : C1 ≠ C2 := by
      have := hp 6 7 (by omega) (by omega) (by omega) rfl rfl C1 (by rw [f6]; rfl)
      rw [f7] at this
      intro e; exact this (by rw [e]; rfl)
    refine UptoW.rest 2 8 (by rfl) (by kernel_rfl) ?_
    simp only [List.take, List.drop, putOps, Act.put, List.setIfInBounds_toArray, List.set_cons_zero, List.set_cons_succ, Nat.reduceAdd, f0, f1, f2, f3, f4, f5, f6, f7]
    clear f0 f1 f2 f3 f4 f5 f6 f7 hf hp
    clear s0 s1 s2 t0 t1 t2 a0 a1 b0 b1
    have c1 := Boxed.cell i6
    have z1 := Boxed.frozen i6
    refine wpList_plain rfl (fun K hK => ?_)
    go_simp
    refine hK _ _ ?_
    clear hK K c1 z1
    have i7' := Boxed.other i7 (Ne.symm hcc) (.slice (some ⟨G1, 0, none⟩) n1 n1)
    have c2 := Boxed.cell i7'
    have z2 := Boxed.frozen i7'
    refine wpList_plain rfl (fun K hK => ?_)
    go_simp
    refine hK _ _ (wpList_nil ?_)
    clear hK K c2 z2
    have I1 := ints_box (ints_box i2 i6 (fun _ _ e => by cases e) (.slice (some ⟨G1, 0, none⟩) n1 n1)) i7' (fun _ _ e => by cases e) (.slice (some ⟨G2, 0, none⟩) n2 n2)
    have I2 := ints_box (ints_box i5 i6 (fun _ _ e => by cases e) (.slice (some ⟨G1, 0, none⟩) n1 n1)) i7' (fun _ _ e => by cases e) (.slice (some ⟨G2, 0, none⟩) n2 n2)
    have D1 := Boxed.other (Boxed.set (.slice (some ⟨G1, 0, none⟩) n1 n1) i6) hcc (.slice (some ⟨G2, 0, none⟩) n2 n2)
    have D2 := Boxed.set (.slice (some ⟨G2, 0, none⟩) n2 n2) i7'
    have BL := (hb.setCell (p := ⟨C1, 0, none⟩) n6' (.slice (some ⟨G1, 0, none⟩) n1 n1)).setCell (p := ⟨C2, 0, none⟩) n7' (.slice (some ⟨G2, 0, none⟩) n2 n2)
    clear i2 i5 i6 i7 i7' hb
    generalize (wz.setCell ⟨C1, 0, none⟩ (.slice (some ⟨G1, 0, none⟩) n1 n1)).setCell ⟨C2, 0, none⟩ (.slice (some ⟨G2, 0, none⟩) n2 n2) = W2 at *
    have HI1 := hide I1
    have HI2 := hide I2
    have HD1 := hide D1
    have HD2 := hide D2
    have HBL := hide BL
    have HBW2 := hide (Below.on HBW.out BL)
    have HSL2 := hide (HSL.out.below BL)
    have HSR2 := hide (HSR.out.below BL)
    have HAA2 := hide (HAA5.out.below BL)
    have HAB2 := hide (HAB5.out.below BL)
    obtain ⟨⟨s0, s1, s2⟩, _⟩ := HSL2.out.cells
    obtain ⟨⟨t0, t1, t2⟩, _⟩ := HSR2.out.cells
    obtain ⟨⟨a0, a1⟩, _⟩ := HAA2.out.cells
    obtain ⟨⟨b0, b1⟩, _⟩ := HAB2.out.cells
    have HCC := hide (And.intro n6' (And.intro n7' hcc))
    clear I1 I2 D1 D2 BL n6' n7' hcc
    go_wp2_with (first
      | (go_at_call 45; refine (HTP.out _ HBW2.out).mono ?_; rintro e w3 ⟨⟨v3, rfl, X3, n3, c3, rfl, hl3, _⟩, hb3⟩; have HL3 := hide hl3; have HB3' := hide hb3; clear hl3 hb3)
      | (go_at_call 13; refine (count_wrap _ _ _ _ _ HL3.out.1).mono ?_; rintro e w' ⟨rfl, hw'⟩; obtain rfl := hw'.symm; rw [HLO1.out]))
    have D3 := Boxed.new w3 3 (.int .i64 (long : Int))
    have bl3 := HB3'.out.alloc HB3'.out.size (.cells #[.int .i64 (long : Int)] 3)
    have hw3 := HB3'.out.size
    clear s0 s1 s2 t0 t1 t2 a0 a1 b0 b1
    generalize w3.alloc (.cells #[.int .i64 (long : Int)] 3) = W4 at *
    have HBW4 := hide (Below.on HBW2.out bl3)
    have HW14 := hide (Below.on HW1.out (Below.on HBL.out bl3))
    have HSL4 := hide (HSL2.out.below bl3)
    have HSR4 := hide (HSR2.out.below bl3)
    have HAA4' := hide (HAA2.out.below bl3)
    have HAB4' := hide (HAB2.out.below bl3)
    have HD14 := hide (Boxed.below HD1.out bl3)
    have HD24 := hide (Boxed.below HD2.out bl3)
    have HD3 := hide D3
    have HI14 := hide (HI1.out.below bl3)
    have HI24 := hide (HI2.out.below bl3)
    clear D3 bl3
    obtain ⟨⟨s0, s1, s2⟩, _⟩ := HSL4.out.cells
    obtain ⟨⟨t0, t1, t2⟩, _⟩ := HSR4.out.cells
    obtain ⟨⟨a0, a1⟩, _⟩ := HAA4'.out.cells
    obtain ⟨⟨b0, b1⟩, _⟩ := HAB4'.out.cells
    refine region_made 14 16 [fIs (.pointer (some ⟨w.heap.size + 1, 0, none⟩)), fIs (.slice da dl dc), fIs (.pointer (some ⟨w1.heap.size, 1, none⟩)), fIs (.slice X sn sc), fList (taken ds (freeL (lo ++ ps) ds.length)), fIs (.int .i64 rows), fIs (.pointer (some ⟨w.heap.size + 1 + 1, 0, none⟩)), fIs (.slice ea el ec), fIs (.pointer (some ⟨w1.heap.size + 1, 1, none⟩)), fIs (.slice Y sm sd), fList (taken es (freeL (hi ++ st) es.length)), fIs (.int .i64 cols), fBox W4.heap.size 3 (.int .i64 0), fBox W4.heap.size 3 (.int .i64 0)] (by kernel_rfl) (by kernel_rfl) (by kernel_rfl) (fun _ ⟨_, _⟩ ⟨_, _⟩ _ e h => by cases e; exact h) ⟨fIs_good _, fIs_good _, fIs_good _, fIs_good _, fList_good _, fIs_good _, fIs_good _, fIs_good _, fIs_good _, fIs_good _, fList_good _, fIs_good _, fBox_good _ _ _, fBox_good _ _ _, trivial⟩ ?mk ?rest
    case mk =>
      refine ⟨fun u wz hb hd => ?_, fun u wz hb hd => ?_, fun u wz hb hd => ?_, fun u wz hb hd => ?_, fun u wz hb hd => ?_, fun u wz hb hd => ?_, fun u wz hb hd => ?_, fun u wz hb hd => ?_, fun u wz hb hd => ?_, fun u wz hb hd => ?_, fun u wz hb hd => ?_, fun u wz hb hd => ?_, fun u wz hb hd => ?_, fun u wz hb hd => ?_, trivial⟩
      all_goals simp only [Act.put, List.setIfInBounds_toArray, List.set_cons_zero, List.set_cons_succ]
      · go_simp
        exact ⟨rfl, Below.refl _ _, fun h => by cases h⟩
      · have e0 : u 0 = .pointer (some ⟨w.heap.size + 1, 0, none⟩) := hd 0 (by omega) (by kernel_rfl)
        have a0' := (hb.cell (p := ⟨w.heap.size + 1, 0, none⟩) (lt_of_cell a0)).trans a0
        rw [e0]
        go_simp
        exact ⟨rfl, Below.refl _ _, fun h => by cases h⟩
      · go_simp
        exact ⟨rfl, Below.refl _ _, fun h => by cases h⟩
      · have e0 : u 2 = .pointer (some ⟨w1.heap.size, 1, none⟩) := hd 2 (by omega) (by kernel_rfl)
        have s1' := (hb.cell (p := ⟨w1.heap.size, 1, none⟩) (lt_of_cell s1)).trans s1
        rw [e0]
        go_simp
        exact ⟨rfl, Below.refl _ _, fun h => by cases h⟩
      · have e0 : u 1 = .slice da dl dc := hd 1 (by omega) (by kernel_rfl)
        have e1 : u 3 = .slice X sn sc := hd 3 (by omega) (by kernel_rfl)
        rw [e0, e1]
        go_simp
        refine (HTA.out wz X sn sc (Below.on HBW4.out hb) (HX4.out.below (Below.on HW14.out hb))).mono ?_
        rintro e w2 ⟨⟨v2, rfl, X2, k2, c2, rfl, hl2, _⟩, hb2⟩
        exact ⟨⟨X2, k2, c2, rfl, hl2.1⟩, hb2, fun h => by cases h⟩
      · obtain ⟨X2, k2, c2, e0, hl2⟩ := hd 4 (by omega) (by kernel_rfl)
        rw [e0]
        go_simp
        refine (count_wrap _ _ _ _ _ hl2).mono ?_
        rintro e w' ⟨rfl, hw'⟩
        obtain rfl := hw'.symm
        rw [HLO2.out]
        exact ⟨rfl, Below.refl _ _, fun h => by cases h⟩
      · go_simp
        exact ⟨rfl, Below.refl _ _, fun h => by cases h⟩
      · have e0 : u 6 = .pointer (some ⟨w.heap.size + 1 + 1, 0, none⟩) := hd 6 (by omega) (by kernel_rfl)
        have b0' := (hb.cell (p := ⟨w.heap.size + 1 + 1, 0, none⟩) (lt_of_cell b0)).trans b0
        rw [e0]
        go_simp
        exact ⟨rfl, Below.refl _ _, fun h => by cases h⟩
      · go_simp
        exact ⟨rfl, Below.refl _ _, fun h => by cases h⟩
      · have e0 : u 8 = .pointer (some ⟨w1.heap.size + 1, 1, none⟩) := hd 8 (by omega) (by kernel_rfl)
        have t1' := (hb.cell (p := ⟨w1.heap.size + 1, 1, none⟩) (lt_of_cell t1)).trans t1
        rw [e0]
        go_simp
        exact ⟨rfl, Below.refl _ _, fun h => by cases h⟩
      · have e0 : u 7 = .slice ea el ec := hd 7 (by omega) (by kernel_rfl)
        have e1 : u 9 = .slice Y sm sd := hd 9 (by omega) (by kernel_rfl)
        rw [e0, e1]
        go_simp
        refine (HTB.out wz Y sm sd (Below.on HBW4.out hb) (HY4.out.below (Below.on HW14.out hb))).mono ?_
        rintro e w2 ⟨⟨v2, rfl, X2, k2, c2, rfl, hl2, _⟩, hb2⟩
        exact ⟨⟨X2, k2, c2, rfl, hl2.1⟩, hb2, fun h => by cases h⟩
      · obtain ⟨X2, k2, c2, e0, hl2⟩ := hd 10 (by omega) (by kernel_rfl)
        rw [e0]
        go_simp
        refine (count_wrap _ _ _ _ _ hl2).mono ?_
        rintro e w' ⟨rfl, hw'⟩
        obtain rfl := hw'.symm
        rw [HLO3.out]
        exact ⟨rfl, Below.refl _ _, fun h => by cases h⟩
      · go_simp
        exact ⟨⟨_, rfl, Boxed.new _ _ _, hb.size⟩, (Below.refl _ _).alloc (Nat.le_refl _) _, fun _ b hb => by simp [blk] at hb; omega⟩
      · go_simp
        exact ⟨⟨_, rfl, Boxed.new _ _ _, hb.size⟩, (Below.refl _ _).alloc (Nat.le_refl _) _, fun _ b hb => by simp [blk] at hb; omega⟩
    case rest =>
      intro u wz hb hf hp
      have f0 : u 0 = (.pointer (some ⟨w.heap.size + 1, 0, none⟩)) := hf 0 (by omega)
      have f1 : u 1 = (.slice da dl dc) := hf 1 (by omega)
      have f2 : u 2 = (.pointer (some ⟨w1.heap.size, 1, none⟩)) := hf 2 (by omega)
      have f3 : u 3 = (.slice X sn sc) := hf 3 (by omega)
      obtain ⟨XX4, kk4, cc4, f4, _⟩ := hf 4 (by omega)
      have f5 : u 5 = (.int .i64 rows) := hf 5 (by omega)
      have f6 : u 6 = (.pointer (some ⟨w.heap.size + 1 + 1, 0, none⟩)) := hf 6 (by omega)
      have f7 : u 7 = (.slice ea el ec) := hf 7 (by omega)
      have f8 : u 8 = (.pointer (some ⟨w1.heap.size + 1, 1, none⟩)) := hf 8 (by omega)
      have f9 : u 9 = (.slice Y sm sd) := hf 9 (by omega)
      obtain ⟨XX10, kk10, cc10, f10, _⟩ := hf 10 (by omega)
      have f11 : u 11 = (.int .i64 cols) := hf 11 (by omega)
      obtain ⟨E12, f12, i12, m12⟩ := hf 12 (by omega)
      obtain ⟨E13, f13, i13, m13⟩ := hf 13 (by omega)
      have hcc : E12 ≠ E13 := by
        have := hp 12 13 (by omega) (by omega) (by omega) rfl rfl E12 (by rw [f12]; rfl)
        rw [f13] at this
        intro e; exact this (by rw [e]; rfl)
      refine UptoW.rest 2 14 (by rfl) (by kernel_rfl) ?_
      simp only [List.take, List.drop, putOps, Act.put, List.setIfInBounds_toArray, List.set_cons_zero, List.set_cons_succ, Nat.reduceAdd, f0, f1, f2, f3, f4, f5, f6, f7, f8, f9, f10, f11, f12, f13]
      clear f0 f1 f2 f3 f4 f5 f6 f7 f8 f9 f10 f11 f12 f13 hf hp
      clear s0 s1 s2 t0 t1 t2 a0 a1 b0 b1
      have c1 := Boxed.cell i12
      have z1 := Boxed.frozen i12
      refine wpList_plain rfl (fun K hK => ?_)
      go_simp
      refine hK _ _ ?_
      clear hK K c1 z1
      have i7' := Boxed.other i13 (Ne.symm hcc) (.int .i64 (rows : Int))
      have c2 := Boxed.cell i7'
      have z2 := Boxed.frozen i7'
      refine wpList_plain rfl (fun K hK => ?_)
      go_simp
      refine hK _ _ (wpList_nil ?_)
      clear hK K c2 z2
      have D4 := Boxed.other (Boxed.set (.int .i64 (rows : Int)) i12) hcc (.int .i64 (cols : Int))
      have D5 := Boxed.set (.int .i64 (cols : Int)) i7'
      have BL := (hb.setCell (p := ⟨E12, 0, none⟩) m12 (.int .i64 (rows : Int))).setCell (p := ⟨E13, 0, none⟩) m13 (.int .i64 (cols : Int))
      clear i12 i13 i7' hb
      generalize (wz.setCell ⟨E12, 0, none⟩ (.int .i64 (rows : Int))).setCell ⟨E13, 0, none⟩ (.int .i64 (cols : Int)) = W5 at *
      have HD4 := hide D4
      have HD5 := hide D5
      have HB5 := hide (Below.on HBW4.out BL)
      have HD1' := hide (Boxed.below HD14.out BL)
      have HD2' := hide (Boxed.below HD24.out BL)
      have HD3' := hide (Boxed.below HD3.out BL)
      have HI1' := hide (HI14.out.below BL)
      have HI2' := hide (HI24.out.below BL)
      have hw1 : w.heap.size ≤ W1.heap.size := HBW.out.size
      have hw2 : W1.heap.size ≤ W2.heap.size := HBL.out.size
      have hw4 : w.heap.size ≤ W4.heap.size := HBW4.out.size
      have HG := hide (And.intro (Nat.le_trans hw1 n2') (Nat.le_trans hw1 n5'))
      have HSZ := hide (And.intro (Nat.le_trans hw1 HCC.out.1) (And.intro (Nat.le_trans hw1 HCC.out.2.1) (And.intro (Nat.le_trans hw4 m12) (And.intro (Nat.le_trans hw4 m13) (show w.heap.size ≤ w3.heap.size by omega)))))
      clear D4 D5 BL hw1 hw2 hw4 m12 m13 hcc
      have hcf : ∀ (args : Array Value) (w : World), (callFunc 46 args).run Try.prog w = .ok (.enter 46 args) w := enters Try.func46 (by kernel_rfl) (by kernel_rfl)
      have HCF := hide hcf
      clear hcf
      go_wp2_with ((go_at_call 23; refine (fill_any 46 #[.pointer (some ⟨E13, 0, none⟩), .pointer (some ⟨E12, 0, none⟩), .pointer (some ⟨C1, 0, none⟩), .pointer (some ⟨w3.heap.size, 0, none⟩), .pointer (some ⟨C2, 0, none⟩)] g n (dotF (lookL xs Q1) (lookL ys Q2) long rows cols n) [] (dotF_length _ _ _ _ _ _) _ (by omega) HCF.out ((HR.out.of_block (HB5.out.block g hgl)).congr (fun j _ => by simp [onWay])) (fun i W hi hW => by {
        rw [dotF_at _ _ _ _ _ _ _ hi]
        have hz := HSZ.out
        have hg := HG.out
        have hbn := HBN.out i hi
        exact dot1_any i (i / cols) (i / cols / rows) (i % cols) (i / cols / rows * cols + i % cols) (i / cols * long) ((i / cols / rows * cols + i % cols) * long) long cols rows E13 E12 C1 w3.heap.size C2 G1 0 n1 n1 (lookL xs Q1) G2 0 n2 n2 (lookL ys Q2) W ((hW.1 E13 (by omega)).trans HD5.out) ((hW.1 E12 (by omega)).trans HD4.out) ((hW.1 C1 (by omega)).trans HD1'.out) ((hW.1 w3.heap.size (by omega)).trans HD3'.out) ((hW.1 C2 (by omega)).trans HD2'.out) (hW.ints HI1'.out (fun b o e => by cases e; omega)) (hW.ints HI2'.out (fun b o e => by cases e; omega)) (Nat.le_refl _) (Nat.le_refl _) (by omega) (by omega) hc0 hr0 rfl rfl rfl rfl rfl rfl (by omega) hbn.1 hbn.2.1 hbn.2.2 hc6 hr6 hn1 hn2 })).mono ?_; rintro e w9 ⟨rfl, hr9, hbut, h09⟩; have H09 := hide h09; have HR9 := hide (onWay_all hr9); have HBU := hide hbut; clear hr9 hbut h09))
      all_goals exact bodyPost_end (v := .tuple #[]) (by simp [results, Try.results19, go_sem]) rfl ⟨rfl, HR9.out, Save.of_below HB5.out HBU.out H09.out⟩
end Go.Proofs.Yteoobeldmicjhaa.V
namespace Go.Proofs.Yteoobeldmicjhaa.V
open Go.RowKit

set_option maxRecDepth 100000 in
set_option maxHeartbeats 4000000 in
theorem work_dot (x : Int) (vd va vl vh vs : Value) (Z : Option Addr) (nz cz g n : Nat) (b off cap : Nat) (c0 c1 c2 c3 : Value) (f : List Int) (w : World)
    (h0 : w.cell? ⟨b, off, none⟩ = some c0) (h1 : w.cell? ⟨b, off + 1, none⟩ = some c1) (h2 : w.cell? ⟨b, off + 2, none⟩ = some c2) (h3 : w.cell? ⟨b, off + 3, none⟩ = some c3) (hbg : b ≠ g) (hrow : w.rowIs g 2 n (fun _ => .int .i64 0))
    (hdot : ∀ W, Below w.heap.size w W → W.rowIs g 2 n (fun _ => .int .i64 0) → Calls Try.prog 19 #[.slice (some ⟨g, 0, none⟩) n n, .agg #[.int .i64 16, vd, va, vl, vh, vs, .int .i64 x], .agg #[c0, c1], .agg #[c2, c3]] W fun e W' => e = .returned (.tuple #[]) ∧ W'.rowIs g 2 n (fun j => .int .i64 (f[j]?.getD 0)) ∧ Save g W W') :
    Calls Try.prog 14 #[.agg #[.slice Z nz cz, .slice (some ⟨g, 0, none⟩) n n], .agg #[.int .i64 16, vd, va, vl, vh, vs, .int .i64 x], .slice (some ⟨b, off, none⟩) 2 cap] w fun e w' => e = .returned (.tuple #[]) ∧ w'.rowIs g 2 n (fun j => .int .i64 (f[j]?.getD 0)) ∧ Save g w w' := by
  have hgl : g < w.heap.size := hrow.lt
  have HB1 := hide ((Below.refl w.heap.size w).alloc (Nat.le_refl _) (.cells #[.slice Z nz cz, .slice (some ⟨g, 0, none⟩) n n] 25))
  have HB2 := hide (HB1.out.alloc HB1.out.size (.cells #[.int .i64 16, vd, va, vl, vh, vs, .int .i64 x] 30))
  have HAR := hide ((ArrAt.new w (.slice Z nz cz) (.slice (some ⟨g, 0, none⟩) n n)).alloc (.cells #[.int .i64 16, vd, va, vl, vh, vs, .int .i64 x] 30))
  have hop := OpAt.new (w.alloc (.cells #[.slice Z nz cz, .slice (some ⟨g, 0, none⟩) n n] 25)) 16 vd va vl vh vs x
  simp only [World.size_alloc] at hop
  have HOP := hide hop
  obtain ⟨⟨r0, r1⟩, _⟩ := HAR.out.cells
  obtain ⟨o0, o1, o2, o3, o4, o5, o6⟩ := HOP.out.cells
  have k0 := (HB2.out.cell (p := ⟨b, off, none⟩) (lt_of_cell h0)).trans h0
  have k1 := (HB2.out.cell (p := ⟨b, off + 1, none⟩) (lt_of_cell h1)).trans h1
  have k2 := (HB2.out.cell (p := ⟨b, off + 2, none⟩) (lt_of_cell h2)).trans h2
  have k3 := (HB2.out.cell (p := ⟨b, off + 3, none⟩) (lt_of_cell h3)).trans h3
  have HR := hide hrow
  have HDT := hide hdot
  clear h0 h1 h2 h3 hrow hop hdot
  go_enter Try.func14, Try.ntmps14
  go_wp2_with fail
  go_region_held3 (fun w' => (w'.cell? ⟨w.heap.size, 1, none⟩ = some (.slice (some ⟨g, 0, none⟩) n n) ∧ w'.cell? ⟨w.heap.size + 1, 0, none⟩ = some (.int .i64 16) ∧ w'.cell? ⟨w.heap.size + 1, 1, none⟩ = some vd ∧ w'.cell? ⟨w.heap.size + 1, 2, none⟩ = some va ∧ w'.cell? ⟨w.heap.size + 1, 3, none⟩ = some vl ∧ w'.cell? ⟨w.heap.size + 1, 4, none⟩ = some vh ∧ w'.cell? ⟨w.heap.size + 1, 5, none⟩ = some vs ∧ w'.cell? ⟨w.heap.size + 1, 6, none⟩ = some (.int .i64 x)) ∧ (w'.cell? ⟨b, off, none⟩ = some c0 ∧ w'.cell? ⟨b, off + 1, none⟩ = some c1 ∧ w'.cell? ⟨b, off + 2, none⟩ = some c2 ∧ w'.cell? ⟨b, off + 3, none⟩ = some c3)) (refine ⟨⟨?_, ?_, ?_, ?_, ?_, ?_, ?_, ?_⟩, ?_, ?_, ?_, ?_⟩ <;> with_reducible (repeat (first | assumption | apply drew_cell))) ((go_at_call 19; refine (HDT.out _ HB2.out.drew (HR.out.of_block (HB2.out.drew.block g hgl))).mono ?_; rintro e w4 ⟨rfl, hr4, hsv⟩; have HR4 := hide hr4; have HSV := hide hsv; have hA4 : ArrAt w4 w.heap.size _ _ := (hsv.1 w.heap.size (by simp; omega) (by omega)).trans HAR.out; have hO4 : OpAt w4 (w.heap.size + 1) _ _ _ _ _ _ _ := (hsv.1 (w.heap.size + 1) (by simp) (by omega)).trans HOP.out; have hb4 := hsv.1 b (by have := lt_of_cell k0; simp at this; simp; omega) hbg; obtain ⟨⟨r40, r41⟩, _⟩ := hA4.cells; obtain ⟨o40, o41, o42, o43, o44, o45, o46⟩ := hO4.cells; have k40 := (World.cell?_of_block (a := ⟨b, off, none⟩) hb4).trans k0; have k41 := (World.cell?_of_block (a := ⟨b, off + 1, none⟩) hb4).trans k1; have k42 := (World.cell?_of_block (a := ⟨b, off + 2, none⟩) hb4).trans k2; have k43 := (World.cell?_of_block (a := ⟨b, off + 3, none⟩) hb4).trans k3; clear hsv hr4 hb4 hA4 hO4))
  all_goals go_wp2
  all_goals exact bodyPost_end (v := .tuple #[]) (by simp [results, Try.results14, go_sem]) rfl ⟨rfl, HR4.out, ⟨fun c hc hne => (HSV.out.1 c (by simp; omega) hne).trans (HB2.out.block c hc), (HB2.out.drew.mono (Nat.zero_le _)).trans HSV.out.2⟩⟩
end Go.Proofs.Yteoobeldmicjhaa.V
namespace Go.Proofs.Yteoobeldmicjhaa.V
open Go.RowKit

theorem sizeE_swap (a b : Int) : sizeE [a, b] = sizeE [b, a] := by
  have h1 : [a, b].any badDim = [b, a].any badDim := by simp [Bool.or_comm]
  have h2 : ((0 : Int) ∈ [a, b]) = ((0 : Int) ∈ [b, a]) := by simp [or_comm]
  have h3 : prod [a, b] = prod [b, a] := by simp [prod, Int.mul_comm]
  have h4 : [a, b].length = [b, a].length := rfl
  unfold sizeE
  rw [h1, h3, h4]
  simp only [h2]
theorem steps2 {p q : Nat} (hp : 0 < p) (hq : 0 < q) : stepsV [(p : Int), (q : Int)] = [(q : Int), 1] := by
  have h0 : ¬ (0 : Int) ∈ [(p : Int), (q : Int)] := by simp; omega
  have e : ∀ k, stepV [(p : Int), (q : Int)] k = beh [(p : Int), (q : Int)] k := fun k => by unfold stepV; rw [if_neg h0]
  show (List.range 2).map (stepV [(p : Int), (q : Int)]) = _
  simp [List.range_succ, e, beh, prod]
theorem two_of_len {l : List Int} (h : l.length = 2) : ∃ a b, l = [a, b] := by
  match l, h with
  | [a, b], _ => exact ⟨a, b, rfl⟩
theorem taken01 (a b : Int) : taken [a, b] [0, 1] = [a, b] := rfl
theorem taken10 (a b : Int) : taken [a, b] [1, 0] = [b, a] := rfl
theorem wrong_swap {a b s t : Int} (h : wrongE 0 [a, b] [s, t] = 0) : wrongE 0 [b, a] [t, s] = 0 := by
  obtain ⟨h1, h2, h3⟩ := wrongE_ok h
  unfold wrongE
  rw [if_neg (by rw [sizeE_swap, h1]; simp), if_neg (by simp), if_neg]
  unfold beyondB at *
  simp only [List.any_cons, List.any_nil, Bool.or_false, Bool.or_eq_false_iff] at h3
  simp [h3]

/-- A matrix, as it lies. -/
theorem flat_len {p q n : Nat} (h : arrE [(p : Int), (q : Int)] n = 0) : n = p * q := by
  have h1 := (arrE_ok h).2.1
  have hp : prod [(p : Int), (q : Int)] = ((p * q : Nat) : Int) := by simp [prod]
  rw [hp] at h1
  omega
theorem arrE_swap {p q n : Nat} (h : arrE [(p : Int), (q : Int)] n = 0) : arrE [(q : Int), (p : Int)] n = 0 := by
  have h0 := (arrE_ok h).1
  have h1 := flat_len h
  have hz : sizeE [(q : Int), (p : Int)] = 0 := by rw [sizeE_swap]; exact h0
  unfold arrE
  rw [if_neg (by rw [hz]; simp), if_neg]
  rw [size_prod hz]
  simp [prod, h1, Int.mul_comm]
theorem arrE_two {p q : Nat} (h : sizeE [(p : Int), (q : Int)] = 0) : arrE [(p : Int), (q : Int)] (p * q) = 0 := by
  unfold arrE
  rw [if_neg (by rw [h]; simp), if_neg]
  rw [size_prod h]
  simp [prod]
theorem readsA {p q m : Nat} (h : m < p * q) : (readsV 0 (taken [(p : Int), (q : Int)] [0, 1]) (taken (stepsV [(p : Int), (q : Int)]) [0, 1]))[m]?.getD 0 = (m : Int) := by
  obtain ⟨hp, hq⟩ := pos_of_lt_mul h
  rw [steps2 hp hq, taken01, taken01, reads2 _ _ _ _ _ h]
  have := Nat.div_add_mod m q
  rw [Nat.mul_comm] at this
  rw [Int.mul_one, ← Int.natCast_mul, ← Int.natCast_add, this]
theorem readsB {q r m : Nat} (h : m < r * q) : (readsV 0 (taken [(q : Int), (r : Int)] [1, 0]) (taken (stepsV [(q : Int), (r : Int)]) [1, 0]))[m]?.getD 0 = ((m % q * r + m / q : Nat) : Int) := by
  obtain ⟨hr, hq⟩ := pos_of_lt_mul h
  rw [steps2 hq hr, taken10, taken10, reads2 _ _ _ _ _ h]
  rw [Int.mul_one, ← Int.natCast_mul, ← Int.natCast_add, Nat.add_comm]
theorem readsA_len (p q : Nat) : (readsV 0 (taken [(p : Int), (q : Int)] [0, 1]) (taken (stepsV [(p : Int), (q : Int)]) [0, 1])).length = p * q := by
  obtain ⟨s, t, e⟩ := two_of_len (stepsV_len [(p : Int), (q : Int)])
  rw [e, taken01, taken01, reads2_len]
theorem readsB_len (q r : Nat) : (readsV 0 (taken [(q : Int), (r : Int)] [1, 0]) (taken (stepsV [(q : Int), (r : Int)]) [1, 0])).length = r * q := by
  obtain ⟨s, t, e⟩ := two_of_len (stepsV_len [(q : Int), (r : Int)])
  rw [e, taken10, taken10, reads2_len]
theorem place_lt {q r m : Nat} (h : m < r * q) : m % q * r + m / q < q * r := row_lt (Nat.mod_lt _ (pos_of_lt_mul h).2) (div_row h)
theorem look_turn (xs : List Int) (p q : Nat) : lookL xs (readsV 0 (taken [(p : Int), (q : Int)] [1, 0]) (taken (stepsV [(p : Int), (q : Int)]) [1, 0])) = turnL xs p q := by
  apply List.ext_getElem?
  intro i
  by_cases hi : i < q * p
  · have l1 : i < (lookL xs (readsV 0 (taken [(p : Int), (q : Int)] [1, 0]) (taken (stepsV [(p : Int), (q : Int)]) [1, 0]))).length := by rw [lookL_length, readsB_len]; exact hi
    have l2 : i < (turnL xs p q).length := by rw [turnL_length]; exact hi
    have h1 := lookL_at xs _ i (by rw [readsB_len]; exact hi)
    rw [readsB hi, Int.toNat_natCast, ← turnL_at xs p q i hi] at h1
    rw [List.getElem?_eq_getElem l1, List.getElem?_eq_getElem l2] at h1 ⊢
    simpa using h1
  · rw [List.getElem?_eq_none (by rw [lookL_length, readsB_len]; omega), List.getElem?_eq_none (by rw [turnL_length]; omega)]
theorem sub_at (xs : List Int) (f l k : Nat) (h : k < l) : (sub xs f l)[k]?.getD 0 = xs[f + k]?.getD 0 := by
  simp [sub, List.getElem?_take_of_lt h]
/-- What a Dot puts, of two matrices. -/
theorem dot_mat (xs ys : List Int) (p q r : Nat) : dotF (lookL xs (readsV 0 (taken [(p : Int), (q : Int)] [0, 1]) (taken (stepsV [(p : Int), (q : Int)]) [0, 1]))) (lookL ys (readsV 0 (taken [(q : Int), (r : Int)] [1, 0]) (taken (stepsV [(q : Int), (r : Int)]) [1, 0]))) q p r (p * r) = matL xs ys p q r := by
  unfold dotF matL
  refine List.map_congr_left (fun i hi => ?_)
  have hi' : i < p * r := by simpa using hi
  have h1 : i / r < p := div_row hi'
  have h2 : i % r < r := Nat.mod_lt _ (pos_of_lt_mul hi').2
  rw [innS_sum]
  congr 1
  refine sumN_ext q (fun k hk => ?_)
  rw [sub_at _ _ _ _ hk, sub_at _ _ _ _ hk, Nat.div_eq_of_lt h1, Nat.zero_mul, Nat.zero_add]
  have g1 : i / r * q + k < p * q := row_lt h1 hk
  have g2 : i % r * q + k < r * q := row_lt h2 hk
  rw [lookL_at _ _ _ (by rw [readsA_len]; exact g1), lookL_at _ _ _ (by rw [readsB_len]; exact g2), readsA g1, readsB g2, Int.toNat_natCast, Int.toNat_natCast, row_mod _ _ _ hk, row_div _ _ _ hk]

/-- What Do tells of a Dot of two matrices. -/
theorem mat_ok {v : Nat → ArrV} {a b c d : Int} (h0 : (v 0).ds = [a, b]) (h1 : (v 1).ds = [c, d]) (h : doE 16 [] [1] [] [] [0] 2 v = 0) : arrE [a, b] (v 0).xl = 0 ∧ arrE [c, d] (v 1).xl = 0 ∧ b = c ∧ sizeE [a, d] = 0 := by
  obtain ⟨c1, c2, c3⟩ := doE_ok h
  have k0 := arrsE_ok 2 c2 0 (by omega)
  have k1 := arrsE_ok 2 c2 1 (by omega)
  rw [h0] at k0
  rw [h1] at k1
  have hz := dimsP_ok c3
  have hdo : dimsOf 2 v = [[a, b], [c, d]] := by simp [dimsOf, List.range_succ, h0, h1]
  rw [hdo] at c3 hz
  have e1 : takesE 16 [[a, b], [c, d]].length = 0 := by show takesE 16 2 = 0; decide
  have e2 : sizesE [[a, b], [c, d]] = 0 := by simp [sizesE, (arrE_ok k0).1, (arrE_ok k1).1]
  have e3 : shapeP 16 [] [1] [] [] [0] [[a, b], [c, d]] = dotP [1] [0] [] [] [a, b] [c, d] := rfl
  have e4 : dotL [1] [0] [] [] [a, b] [c, d] = [a, d] := rfl
  unfold dimsP at c3 hz
  rw [if_neg (by rw [e1]; simp), if_neg (by rw [e2]; simp), e3] at c3 hz
  by_cases hB : dotB [1] [0] [] [] [a, b] [c, d] = true
  · have e5 : dotP [1] [0] [] [] [a, b] [c, d] = ([a, d], 0) := by unfold dotP; rw [if_pos hB, e4]
    rw [e5, if_neg (by simp)] at c3 hz
    have hbc : b = c := by
      unfold dotB at hB
      simp only [Bool.and_eq_true, decide_eq_true_eq] at hB
      have := hB.2.2.2
      have e6 : taken [a, b] [1] = [b] := rfl
      have e7 : taken [c, d] [0] = [c] := rfl
      rw [e6, e7] at this
      simpa using this
    refine ⟨k0, k1, hbc, ?_⟩
    by_cases hs : sizeE [a, d] = 0
    · exact hs
    · rw [if_pos hs] at c3; exact absurd c3 hs
  · have e5 : dotP [1] [0] [] [] [a, b] [c, d] = ([], 6) := by unfold dotP; rw [if_neg hB]
    rw [e5, if_pos (by simp)] at c3
    exact absurd c3 (by simp)
theorem ok_mat {v : Nat → ArrV} {p q r : Nat} (h0 : (v 0).ds = [(p : Int), (q : Int)]) (h1 : (v 1).ds = [(q : Int), (r : Int)]) (k0 : arrE [(p : Int), (q : Int)] (v 0).xl = 0) (k1 : arrE [(q : Int), (r : Int)] (v 1).xl = 0) (hs : sizeE [(p : Int), (r : Int)] = 0) : doE 16 [] [1] [] [] [0] 2 v = 0 ∧ (dimsP 16 [] [1] [] [] [0] (dimsOf 2 v)).1 = [(p : Int), (r : Int)] ∧ dotB [1] [0] [] [] [(p : Int), (q : Int)] [(q : Int), (r : Int)] = true := by
  have hdo : dimsOf 2 v = [[(p : Int), (q : Int)], [(q : Int), (r : Int)]] := by simp [dimsOf, List.range_succ, h0, h1]
  have e1 : takesE 16 [[(p : Int), (q : Int)], [(q : Int), (r : Int)]].length = 0 := by show takesE 16 2 = 0; decide
  have e0 : takesE 16 2 = 0 := by decide
  have e2 : sizesE [[(p : Int), (q : Int)], [(q : Int), (r : Int)]] = 0 := by simp [sizesE, (arrE_ok k0).1, (arrE_ok k1).1]
  have e3 : shapeP 16 [] [1] [] [] [0] [[(p : Int), (q : Int)], [(q : Int), (r : Int)]] = dotP [1] [0] [] [] [(p : Int), (q : Int)] [(q : Int), (r : Int)] := rfl
  have e4 : dotL [1] [0] [] [] [(p : Int), (q : Int)] [(q : Int), (r : Int)] = [(p : Int), (r : Int)] := rfl
  have hB : dotB [1] [0] [] [] [(p : Int), (q : Int)] [(q : Int), (r : Int)] = true := by
    unfold dotB
    have e6 : taken [(p : Int), (q : Int)] [1] = [(q : Int)] := rfl
    have e7 : taken [(q : Int), (r : Int)] [0] = [(q : Int)] := rfl
    have e8 : taken [(p : Int), (q : Int)] [] = taken [(q : Int), (r : Int)] [] := rfl
    have e9 : onceB ([] ++ [1]) [(p : Int), (q : Int)].length = true := by show onceB [1] 2 = true; decide
    have e10 : onceB ([] ++ [0]) [(q : Int), (r : Int)].length = true := by show onceB [0] 2 = true; decide
    rw [e9, e10, e6, e7, e8]; simp
  have e5 : dotP [1] [0] [] [] [(p : Int), (q : Int)] [(q : Int), (r : Int)] = ([(p : Int), (r : Int)], 0) := by unfold dotP; rw [if_pos hB, e4]
  have hdp : dimsP 16 [] [1] [] [] [0] (dimsOf 2 v) = ([(p : Int), (r : Int)], 0) := by
    rw [hdo]
    unfold dimsP
    rw [if_neg (by rw [e1]; simp), if_neg (by rw [e2]; simp), e3, e5, if_neg (by simp), if_neg (by simp [hs])]
  refine ⟨?_, by rw [hdp], hB⟩
  unfold doE
  rw [if_neg (by rw [e0]; simp), if_neg, hdp]
  rw [arrsE_all 2 (fun j hj => by
    have : j = 0 ∨ j = 1 := by omega
    rcases this with rfl | rfl
    · rw [h0]; exact k0
    · rw [h1]; exact k1)]
  simp
/-- What Do tells of a Turn of a matrix. -/
theorem ok_turn {v : Nat → ArrV} {p q : Nat} (h0 : (v 0).ds = [(p : Int), (q : Int)]) (k0 : arrE [(p : Int), (q : Int)] (v 0).xl = 0) : turnE 0 [(p : Int), (q : Int)] (stepsV [(p : Int), (q : Int)]) [1, 0] = 0 ∧ doE 11 [] [1, 0] [] [] [] 1 v = 0 ∧ (dimsP 11 [] [1, 0] [] [] [] (dimsOf 1 v)).1 = [(q : Int), (p : Int)] := by
  have hz := (arrE_ok k0).1
  have hdo : dimsOf 1 v = [[(p : Int), (q : Int)]] := by simp [dimsOf, List.range_succ, h0]
  have ht : turnE 0 [(p : Int), (q : Int)] (stepsV [(p : Int), (q : Int)]) [1, 0] = 0 := by
    unfold turnE
    rw [if_neg (by rw [wrong_whole hz]; simp), if_pos]
    show permB [1, 0] 2 = true
    decide
  have e1 : takesE 11 [[(p : Int), (q : Int)]].length = 0 := by show takesE 11 1 = 0; decide
  have e0 : takesE 11 1 = 0 := by decide
  have e2 : sizesE [[(p : Int), (q : Int)]] = 0 := by simp [sizesE, hz]
  have e3 : shapeP 11 [] [1, 0] [] [] [] [[(p : Int), (q : Int)]] = (okL (turnE 0 [(p : Int), (q : Int)] (stepsV [(p : Int), (q : Int)]) [1, 0]) (taken [(p : Int), (q : Int)] [1, 0]), turnE 0 [(p : Int), (q : Int)] (stepsV [(p : Int), (q : Int)]) [1, 0]) := rfl
  have hdp : dimsP 11 [] [1, 0] [] [] [] (dimsOf 1 v) = ([(q : Int), (p : Int)], 0) := by
    rw [hdo]
    unfold dimsP
    rw [if_neg (by rw [e1]; simp), if_neg (by rw [e2]; simp), e3, ht, if_neg (by simp)]
    simp only [okL, if_true]
    rw [taken10, if_neg (by rw [sizeE_swap, hz]; simp)]
  refine ⟨ht, ?_, by rw [hdp]⟩
  unfold doE
  rw [if_neg (by rw [e0]; simp), if_neg, hdp]
  rw [arrsE_all 1 (fun j hj => by
    obtain rfl : j = 0 := by omega
    rw [h0]; exact k0)]
  simp
end Go.Proofs.Yteoobeldmicjhaa.V
namespace Go.Proofs.Yteoobeldmicjhaa.V
open Go.RowKit

theorem lst_none (w : World) : Lst w none 0 0 [] := ⟨ints_nil w, Nat.le_refl _, fun _ => rfl⟩
theorem lst_of {w : World} {Z : Option Addr} {n c : Nat} {xs : List Int} (h : Ints w Z n xs) (hc : n ≤ c) (h0 : 0 < n) : Lst w Z n c xs := ⟨h, hc, fun e => by
  obtain ⟨b, off, e', _⟩ := h.at h0
  rw [e] at e'; cases e'⟩
/-- The arrays of a product. -/
def twoV2 (da : Option Addr) (dl dc : Nat) (ds : List Int) (xa : Option Addr) (n xc : Nat) (ea : Option Addr) (el ec : Nat) (es : List Int) (ya : Option Addr) (m yc : Nat) (j : Nat) : ArrV := if j = 0 then ⟨da, dl, dc, ds, xa, n, xc⟩ else ⟨ea, el, ec, es, ya, m, yc⟩
theorem arrs_two {w : World} {b off : Nat} {da : Option Addr} {dl dc : Nat} {ds : List Int} {xa : Option Addr} {n xc : Nat} {ea : Option Addr} {el ec : Nat} {es : List Int} {ya : Option Addr} {m yc : Nat} (c0 : w.cell? ⟨b, off, none⟩ = some (.slice da dl dc)) (c1 : w.cell? ⟨b, off + 1, none⟩ = some (.slice xa n xc)) (c2 : w.cell? ⟨b, off + 2, none⟩ = some (.slice ea el ec)) (c3 : w.cell? ⟨b, off + 3, none⟩ = some (.slice ya m yc)) (hd : Lst w da dl dc ds) (he : Lst w ea el ec es) :
    Arrs w (some ⟨b, off, none⟩) 2 (twoV2 da dl dc ds xa n xc ea el ec es ya m yc) := .inr ⟨b, off, rfl, fun j hj => by
  have : j = 0 ∨ j = 1 := by omega
  rcases this with rfl | rfl
  · exact ⟨c0, c1, hd⟩
  · exact ⟨c2, c3, he⟩⟩

theorem Do_mat (P S : Nat) (b off cap : Nat) (da : Option Addr) (dl dc : Nat) (xa : Option Addr) (n1 xc : Nat) (xs : List Int) (ea : Option Addr) (el ec : Nat) (ya : Option Addr) (n2 yc : Nat) (ys : List Int) (p q r : Nat) (w : World)
    (hP : Ints w (some ⟨P, 0, none⟩) 1 [1]) (hS : Ints w (some ⟨S, 0, none⟩) 1 [0])
    (c0 : w.cell? ⟨b, off, none⟩ = some (.slice da dl dc)) (c1 : w.cell? ⟨b, off + 1, none⟩ = some (.slice xa n1 xc)) (c2 : w.cell? ⟨b, off + 2, none⟩ = some (.slice ea el ec)) (c3 : w.cell? ⟨b, off + 3, none⟩ = some (.slice ya n2 yc))
    (hd : Lst w da dl dc [(p : Int), (q : Int)]) (he : Lst w ea el ec [(q : Int), (r : Int)]) (hx : Ints w xa n1 xs) (hy : Ints w ya n2 ys) (e1 : arrE [(p : Int), (q : Int)] n1 = 0) (e2 : arrE [(q : Int), (r : Int)] n2 = 0) (e3 : sizeE [(p : Int), (r : Int)] = 0) :
    Calls Try.prog 8 #[.agg #[.int .i64 16, .slice none 0 0, .slice (some ⟨P, 0, none⟩) 1 1, .slice none 0 0, .slice none 0 0, .slice (some ⟨S, 0, none⟩) 1 1, .int .i64 0], .slice (some ⟨b, off, none⟩) 2 cap] w fun e w' =>
      (∃ (Z : Option Addr) (nz cz G : Nat), e = .returned (.tuple #[.agg #[.slice Z nz cz, .slice (some ⟨G, 0, none⟩) (p * r) (p * r)], .int .i64 0]) ∧ (Ints w' Z nz [(p : Int), (r : Int)] ∧ nz ≤ cz) ∧ Ints w' (some ⟨G, 0, none⟩) (p * r) (matL xs ys p q r) ∧ w.heap.size ≤ G) ∧ Below w.heap.size w w' := by
  have hdl : dl = 2 := hd.1.1.symm
  have hel : el = 2 := he.1.1.symm
  have hn1 := flat_len e1
  have hn2 := flat_len e2
  have hn16 := (arrE_ok e1).2.2
  have hn26 := (arrE_ok e2).2.2
  have hz1 := (arrE_ok e1).1
  have hz2 := (arrE_ok e2).1
  have hn6 := (arrE_ok (arrE_two e3)).2.2
  obtain ⟨hE, hL, hB⟩ := ok_mat (v := twoV2 da dl dc [(p : Int), (q : Int)] xa n1 xc ea el ec [(q : Int), (r : Int)] ya n2 yc) (p := p) (q := q) (r := r) rfl rfl e1 e2 e3
  refine Do_good 16 0 none 0 0 [] (some ⟨P, 0, none⟩) 1 1 [1] none 0 0 [] none 0 0 [] (some ⟨S, 0, none⟩) 1 1 [0] (some ⟨b, off, none⟩) 2 cap (twoV2 da dl dc [(p : Int), (q : Int)] xa n1 xc ea el ec [(q : Int), (r : Int)] ya n2 yc) [(p : Int), (r : Int)] (p * r) (matL xs ys p q r) w (lst_none w) (lst_of hP (Nat.le_refl _) (by omega)) (lst_none w) (lst_none w) (lst_of hS (Nat.le_refl _) (by omega)) (by omega) (by omega) (by omega) (by omega) (by omega) (arrs_two c0 c1 c2 c3 hd he) (by omega) hE hL.symm (by simp [prod]) (matL_length _ _ _ _ _) (matL_bd _ _ _ _ _) ?_
  intro hpos W Z nz cz g hW hg _ _ hrow
  obtain ⟨hp0, hr0⟩ := pos_of_lt_mul hpos
  have hp4 : p ≤ 65536 := Nat.le_trans (Nat.le_mul_of_pos_right p hr0) hn6
  have hr4 : r ≤ 65536 := Nat.le_trans (Nat.le_mul_of_pos_left r hp0) hn6
  have hq4 : q ≤ 65536 := by
    refine Nat.le_trans (Nat.le_mul_of_pos_left q hp0) ?_
    rw [← hn1]; exact hn16
  have hb := lt_of_cell c0
  refine work_dot 0 (.slice none 0 0) (.slice (some ⟨P, 0, none⟩) 1 1) (.slice none 0 0) (.slice none 0 0) (.slice (some ⟨S, 0, none⟩) 1 1) Z nz cz g (p * r) b off cap (.slice da dl dc) (.slice xa n1 xc) (.slice ea el ec) (.slice ya n2 yc) (matL xs ys p q r) W ((hW.cell (p := ⟨b, off, none⟩) (lt_of_cell c0)).trans c0) ((hW.cell (p := ⟨b, off + 1, none⟩) (lt_of_cell c1)).trans c1) ((hW.cell (p := ⟨b, off + 2, none⟩) (lt_of_cell c2)).trans c2) ((hW.cell (p := ⟨b, off + 3, none⟩) (lt_of_cell c3)).trans c3) (by simp at hb; omega) hrow (fun W2 hW2 hrow2 => ?_)
  have hWW := hW.trans (hW2.mono hW.size)
  have key := dot_any 16 0 (.slice none 0 0) (some ⟨P, 0, none⟩) 1 1 [1] none 0 0 [] none 0 0 [] (some ⟨S, 0, none⟩) 1 1 [0] da dl dc [(p : Int), (q : Int)] xa n1 xc xs ea el ec [(q : Int), (r : Int)] ya n2 yc ys (readsV 0 (taken [(p : Int), (q : Int)] [0, 1]) (taken (stepsV [(p : Int), (q : Int)]) [0, 1])) (readsV 0 (taken [(q : Int), (r : Int)] [1, 0]) (taken (stepsV [(q : Int), (r : Int)]) [1, 0])) q p r g (p * r) W2
    (lst_of (hP.below hWW) (Nat.le_refl _) (by omega)) (lst_none W2) (lst_none W2) (lst_of (hS.below hWW) (Nat.le_refl _) (by omega)) (hd.1.below hWW) (he.1.below hWW) (hx.below hWW) (hy.below hWW) hz1 hz2 hn16 hn26 hn6 hB
    ?_ rfl ?_ (by rw [readsA_len, hn1]) (fun i hi => ?_) (by show 0 + 1 + 1 ≤ 6; omega)
    ?_ rfl ?_ (by rw [readsB_len, hn2, Nat.mul_comm]) (fun i hi => ?_) (by show 0 + 1 + 1 ≤ 6; omega)
    (by show (q : Int) * 1 = q; omega) (by show (p : Int) * 1 = p; omega) (by show (r : Int) * 1 = r; omega) hp0 hr0 hq4 hp4 hr4 (fun i hi => ?_) hrow2
  · rw [dot_mat] at key
    exact key
  · show turnE 0 [(p : Int), (q : Int)] (stepsV [(p : Int), (q : Int)]) [0, 1] = 0
    unfold turnE
    rw [if_neg (by rw [wrong_whole hz1]; simp), if_pos]
    show permB [0, 1] 2 = true
    decide
  · show wrongE 0 (taken [(p : Int), (q : Int)] [0, 1]) (taken (stepsV [(p : Int), (q : Int)]) [0, 1]) = 0
    have hw := wrong_whole hz1
    obtain ⟨s, t, e⟩ := two_of_len (stepsV_len [(p : Int), (q : Int)])
    rw [e] at hw ⊢
    exact hw
  · rw [readsA (by rw [← hn1]; exact hi)]; omega
  · show turnE 0 [(q : Int), (r : Int)] (stepsV [(q : Int), (r : Int)]) [1, 0] = 0
    unfold turnE
    rw [if_neg (by rw [wrong_whole hz2]; simp), if_pos]
    show permB [1, 0] 2 = true
    decide
  · show wrongE 0 (taken [(q : Int), (r : Int)] [1, 0]) (taken (stepsV [(q : Int), (r : Int)]) [1, 0]) = 0
    have hw := wrong_whole hz2
    obtain ⟨s, t, e⟩ := two_of_len (stepsV_len [(q : Int), (r : Int)])
    rw [e] at hw ⊢
    exact wrong_swap hw
  · have hi' : i < r * q := by rw [Nat.mul_comm, ← hn2]; exact hi
    have := place_lt hi'
    rw [readsB hi']
    rw [← hn2] at this
    exact ⟨Int.natCast_nonneg _, Int.ofNat_lt.2 this⟩
  · have h1 : i / r < p := div_row hi
    have h2 : i % r < r := Nat.mod_lt _ hr0
    rw [Nat.div_eq_of_lt h1, Nat.zero_mul, Nat.zero_add]
    refine ⟨?_, ?_, by omega⟩
    · rw [hn1]
      have : (i / r + 1) * q ≤ p * q := Nat.mul_le_mul_right _ h1
      rw [Nat.add_mul, Nat.one_mul] at this
      exact this
    · rw [hn2, Nat.mul_comm q r]
      have : (i % r + 1) * q ≤ r * q := Nat.mul_le_mul_right _ h2
      rw [Nat.add_mul, Nat.one_mul] at this
      exact this
theorem Do_turn2 (P : Nat) (b off cap : Nat) (da : Option Addr) (dl dc : Nat) (xa : Option Addr) (n xc : Nat) (xs : List Int) (p q : Nat) (w : World) (hP : Ints w (some ⟨P, 0, none⟩) 2 [1, 0])
    (c0 : w.cell? ⟨b, off, none⟩ = some (.slice da dl dc)) (c1 : w.cell? ⟨b, off + 1, none⟩ = some (.slice xa n xc)) (hd : Lst w da dl dc [(p : Int), (q : Int)]) (hx : Ints w xa n xs) (e1 : arrE [(p : Int), (q : Int)] n = 0) :
    Calls Try.prog 8 #[.agg #[.int .i64 11, .slice none 0 0, .slice (some ⟨P, 0, none⟩) 2 2, .slice none 0 0, .slice none 0 0, .slice none 0 0, .int .i64 0], .slice (some ⟨b, off, none⟩) 1 cap] w fun e w' =>
      (∃ (Z : Option Addr) (nz cz G : Nat), e = .returned (.tuple #[.agg #[.slice Z nz cz, .slice (some ⟨G, 0, none⟩) (q * p) (q * p)], .int .i64 0]) ∧ (Ints w' Z nz [(q : Int), (p : Int)] ∧ nz ≤ cz) ∧ Ints w' (some ⟨G, 0, none⟩) (q * p) (turnL xs p q) ∧ w.heap.size ≤ G) ∧ Below w.heap.size w w' := by
  have hn := flat_len e1
  have hn6 := (arrE_ok e1).2.2
  have hz := (arrE_ok e1).1
  have hb := lt_of_cell c0
  obtain ⟨ht, hE, hL⟩ := ok_turn (v := fun _ => ⟨da, dl, dc, [(p : Int), (q : Int)], xa, n, xc⟩) (p := p) (q := q) rfl e1
  refine Do_good 11 0 none 0 0 [] (some ⟨P, 0, none⟩) 2 2 [1, 0] none 0 0 [] none 0 0 [] none 0 0 [] (some ⟨b, off, none⟩) 1 cap (fun _ => ⟨da, dl, dc, [(p : Int), (q : Int)], xa, n, xc⟩) [(q : Int), (p : Int)] (q * p) (turnL xs p q) w (lst_none w) (lst_of hP (Nat.le_refl _) (by omega)) (lst_none w) (lst_none w) (lst_none w) (by omega) (by omega) (by omega) (by omega) (by omega) (.inr ⟨b, off, rfl, fun j hj => by obtain rfl : j = 0 := by { omega }; exact ⟨c0, c1, hd⟩⟩) (by omega) hE hL.symm (by simp [prod]) (turnL_length _ _ _) (turnL_bd hx.2.2.1 _ _) ?_
  intro hpos W Z nz cz g hW hg _ _ hrow
  have hn0 : 0 < n := by rw [hn, Nat.mul_comm]; exact hpos
  have key := work_look 11 0 (.inr (.inl rfl)) (.slice none 0 0) (.slice (some ⟨P, 0, none⟩) 2 2) (.slice none 0 0) (.slice none 0 0) (.slice none 0 0) Z nz cz g (q * p) b off 1 cap (.slice da dl dc) xa n xc xs (readsV 0 (taken [(p : Int), (q : Int)] [1, 0]) (taken (stepsV [(p : Int), (q : Int)]) [1, 0])) W (by omega) ((hW.cell (p := ⟨b, off, none⟩) (lt_of_cell c0)).trans c0) ((hW.cell (p := ⟨b, off + 1, none⟩) (lt_of_cell c1)).trans c1) (hx.below hW) (fun b' o' e' => by
      obtain ⟨b2, o2, e2, hb2, _⟩ := hx.at hn0
      rw [e'] at e2; cases e2
      omega) hrow (by rw [Nat.mul_comm, ← hn]; omega) (readsB_len p q) (fun i hi => by
      have := place_lt hi
      rw [readsB hi]
      rw [← hn] at this
      exact ⟨Int.natCast_nonneg _, Int.ofNat_lt.2 this⟩) (fun W2 hW2 => lookedAt_gen 11 0 (.slice none 0 0) (.slice (some ⟨P, 0, none⟩) 2 2) (.slice none 0 0) (.slice none 0 0) (.slice none 0 0) da dl dc (.slice xa n xc) 0 (taken [(p : Int), (q : Int)] [1, 0]) (taken (stepsV [(p : Int), (q : Int)]) [1, 0]) W2 (fun W3 hW3 => by
        have h1 := hW.trans (hW2.mono hW.size)
        have h2 := h1.trans (hW3.mono h1.size)
        exact seen11 da dl dc [(p : Int), (q : Int)] (some ⟨P, 0, none⟩) 2 2 [1, 0] W3 (hd.1.below h2) (hP.below h2) hz ht) (by
        have hw := wrong_whole hz
        obtain ⟨s, t, e⟩ := two_of_len (stepsV_len [(p : Int), (q : Int)])
        rw [e] at hw ⊢
        exact wrong_swap hw))
  rw [look_turn] at key
  exact key
end Go.Proofs.Yteoobeldmicjhaa.V
