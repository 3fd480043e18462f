/-
  Contract: array.dot.
-/
import Derived.Test.YtoagnhppjlcpkaaGreatGArrLook
import Derived.Test.YtoagnhppjlcpkaaGreatGLapse
import Derived.Test.YtoagnhppjlcpkaaGreatGArrDoBad
namespace Go.Proofs.YtoagnhppjlcpkaaGreat.V
set_option maxRecDepth 20000
open Go.RowKit

/-- New numbers. -/
def fInts (N n : Nat) (xs : List Int) : Fact := ⟨fun v w => ∃ G, v = .slice (some ⟨G, 0, none⟩) n n ∧ Ints w (some ⟨G, 0, none⟩) n xs ∧ N ≤ G, false⟩
theorem fInts_good (N n : Nat) (xs : List Int) : (fInts N n xs).Good := ⟨fun _ _ _ ⟨G, h1, h2, h3⟩ hb => ⟨G, h1, h2.below hb, h3⟩, fun h => by cases h⟩
/-- A new variable. -/
def fBox (N : Nat) (t : TypeId) (z : Value) : Fact := ⟨fun v w => ∃ C, v = .pointer (some ⟨C, 0, none⟩) ∧ Boxed w C t z ∧ N ≤ C, true⟩
theorem fBox_good (N : Nat) (t : TypeId) (z : Value) : (fBox N t z).Good := ⟨fun _ _ _ ⟨C, h1, h2, h3⟩ hb => ⟨C, h1, Boxed.below h2 hb, h3⟩, fun _ v w b ⟨C, h1, h2, h3⟩ hb => by
  rw [h1] at hb
  simp only [blk, Option.some.injEq] at hb
  rw [← hb]
  exact Boxed.lt h2⟩

/-- A list of numbers. -/
def fList (xs : List Int) : Fact := ⟨fun v w => ∃ X n c, v = .slice X n c ∧ Ints w X n xs, false⟩
theorem fList_good (xs : List Int) : (fList xs).Good := ⟨fun _ _ _ ⟨X, n, c, h1, h2⟩ hb => ⟨X, n, c, h1, h2.below hb⟩, fun h => by cases h⟩
theorem ints_box {w : World} {G n C : Nat} {xs : List Int} {t : TypeId} {z : Value} (h : Ints w (some ⟨G, 0, none⟩) n xs) (hb : Boxed w C t z) (hz : ∀ k i, z ≠ .int k i) (u : Value) : Ints (w.setCell ⟨C, 0, none⟩ u) (some ⟨G, 0, none⟩) n xs := by
  obtain ⟨h1, h2, h3, h4⟩ := h
  refine ⟨h1, h2, h3, ?_⟩
  by_cases h0 : n = 0
  · exact .inl h0
  · rcases h4 with h4 | ⟨b, off, e, hc⟩
    · exact .inl h4
    · cases e
      have hne : G ≠ C := by
        intro e
        subst e
        have h5 := hc 0 (by omega)
        rw [Nat.add_zero, hb.cell] at h5
        exact hz _ _ (Option.some.inj h5)
      exact .inr ⟨_, _, rfl, fun j hj => setc_cell (hc j hj) hne⟩
/-- What a Dot puts. -/
def dotF (x y : List Int) (long rows cols n : Nat) : List Int := (List.range n).map fun i => innS (sub x (i / cols * long) long) (sub y ((i / cols / rows * cols + i % cols) * long) long) long
theorem dotF_at (x y : List Int) (long rows cols n i : Nat) (h : i < n) : (dotF x y long rows cols n)[i]?.getD 0 = innS (sub x (i / cols * long) long) (sub y ((i / cols / rows * cols + i % cols) * long) long) long := by simp [dotF, h]
theorem dotF_length (x y : List Int) (long rows cols n : Nat) : (dotF x y long rows cols n).length = n := by simp [dotF]

set_option maxRecDepth 100000 in
set_option maxHeartbeats 4000000 in
theorem dot_any (k x : Int) (vd : Value) (pa : Option Addr) (pl pc : Nat) (ps : List Int) (la : Option Addr) (ll lc : Nat) (lo : List Int) (ha : Option Addr) (hl hc : Nat) (hi : List Int) (ta : Option Addr) (tl tc : Nat) (st : List Int) (da : Option Addr) (dl dc : Nat) (ds : List Int) (xa : Option Addr) (n1 xc : Nat) (xs : List Int) (ea : Option Addr) (el ec : Nat) (es : List Int) (ya : Option Addr) (n2 yc : Nat) (ys : List Int) (Q1 Q2 : List Int) (long rows cols g n : Nat) (w : World)
    (hp : Lst w pa pl pc ps) (hlo : Lst w la ll lc lo) (hhi : Lst w ha hl hc hi) (hst : Lst w ta tl tc st) (hd : Ints w da dl ds) (he : Ints w ea el es) (hx : Ints w xa n1 xs) (hy : Ints w ya n2 ys) (hz1 : sizeE ds = 0) (hz2 : sizeE es = 0) (hn1 : n1 ≤ 65536) (hn2 : n2 ≤ 65536) (hn : n ≤ 65536) (hdB : dotB ps st lo hi ds es = true)
    (ht1 : turnE 0 ds (stepsV ds) (lo ++ freeL (lo ++ ps) ds.length ++ ps) = 0) (hQ1 : Q1 = readsV 0 (taken ds (lo ++ freeL (lo ++ ps) ds.length ++ ps)) (taken (stepsV ds) (lo ++ freeL (lo ++ ps) ds.length ++ ps))) (hw1 : wrongE 0 (taken ds (lo ++ freeL (lo ++ ps) ds.length ++ ps)) (taken (stepsV ds) (lo ++ freeL (lo ++ ps) ds.length ++ ps)) = 0) (hql1 : Q1.length = n1) (hqb1 : ∀ i, i < n1 → 0 ≤ Q1[i]?.getD 0 ∧ Q1[i]?.getD 0 < n1) (hs1 : lo.length + (freeL (lo ++ ps) ds.length).length + ps.length ≤ 6)
    (ht2 : turnE 0 es (stepsV es) (hi ++ freeL (hi ++ st) es.length ++ st) = 0) (hQ2 : Q2 = readsV 0 (taken es (hi ++ freeL (hi ++ st) es.length ++ st)) (taken (stepsV es) (hi ++ freeL (hi ++ st) es.length ++ st))) (hw2 : wrongE 0 (taken es (hi ++ freeL (hi ++ st) es.length ++ st)) (taken (stepsV es) (hi ++ freeL (hi ++ st) es.length ++ st)) = 0) (hql2 : Q2.length = n2) (hqb2 : ∀ i, i < n2 → 0 ≤ Q2[i]?.getD 0 ∧ Q2[i]?.getD 0 < n2) (hs2 : hi.length + (freeL (hi ++ st) es.length).length + st.length ≤ 6)
    (hlong : prod (taken ds ps) = (long : Int)) (hrows : prod (taken ds (freeL (lo ++ ps) ds.length)) = (rows : Int)) (hcols : prod (taken es (freeL (hi ++ st) es.length)) = (cols : Int)) (hr0 : 0 < rows) (hc0 : 0 < cols) (hl6 : long ≤ 65536) (hr6 : rows ≤ 65536) (hc6 : cols ≤ 65536) (hbnd : ∀ i, i < n → i / cols * long + long ≤ n1 ∧ (i / cols / rows * cols + i % cols) * long + long ≤ n2 ∧ i / cols / rows * cols + i % cols ≤ 65536)
    (hrow : w.rowIs g 2 n (fun _ => .int .i64 0)) :
    Calls Tryz.prog 31 #[.slice (some ⟨g, 0, none⟩) n n, .agg #[.int .i64 k, vd, .slice pa pl pc, .slice la ll lc, .slice ha hl hc, .slice ta tl tc, .int .i64 x], .agg #[.slice da dl dc, .slice xa n1 xc], .agg #[.slice ea el ec, .slice ya n2 yc]] w fun e w' => e = .returned (.tuple #[]) ∧ w'.rowIs g 2 n (fun j => .int .i64 ((dotF (lookL xs Q1) (lookL ys Q2) long rows cols n)[j]?.getD 0)) ∧ Save g w w' := by
  have h6 : dl ≤ 6 := by have := (sizeE_ok hz1).1; have := hd.1; omega
  have h6' : el ≤ 6 := by have := (sizeE_ok hz2).1; have := he.1; omega
  have HON := hide (show onceB (lo ++ ps) ds.length = true ∧ onceB (hi ++ st) es.length = true from by unfold dotB at hdB; simp only [Bool.and_eq_true] at hdB; exact ⟨hdB.1, hdB.2.1⟩)
  have HTP : Hid (∀ W, Below w.heap.size w W → Calls Tryz.prog 70 #[.slice da dl dc, .slice pa pl pc] W fun e w' => GivesL W e w' (taken ds ps) ∧ Below W.heap.size W w') := fun W hW => these_any _ _ _ ds _ _ _ ps _ (hd.below hW) (hp.1.below hW) (fun y hy => by have := (once_iff.1 ((onceB_iff _ _).1 HON.out.1)).1 y (List.mem_append_right _ hy); rw [hd.1] at this; exact this) (by have := hp.1.1; omega)
  have HTA : Hid (∀ W X sn sc, Below w.heap.size w W → Lst W X sn sc (freeL (lo ++ ps) ds.length) → Calls Tryz.prog 70 #[.slice da dl dc, .slice X sn sc] W fun e w' => GivesL W e w' (taken ds (freeL (lo ++ ps) ds.length)) ∧ Below W.heap.size W w') := fun W X sn sc hW hX => these_any _ _ _ ds _ _ _ _ _ (hd.below hW) hX.1 (fun y hy => by have := freeL_bd _ _ y hy; rw [hd.1] at this; exact this) (by have := hX.1.1; omega)
  have HTB : Hid (∀ W Y sm sd, Below w.heap.size w W → Lst W Y sm sd (freeL (hi ++ st) es.length) → Calls Tryz.prog 70 #[.slice ea el ec, .slice Y sm sd] W fun e w' => GivesL W e w' (taken es (freeL (hi ++ st) es.length)) ∧ Below W.heap.size W w') := fun W Y sm sd hW hY => these_any _ _ _ es _ _ _ _ _ (he.below hW) hY.1 (fun y hy => by have := freeL_bd _ _ y hy; rw [he.1] at this; exact this) (by have := hY.1.1; omega)
  have HLO1 : Hid (IntKind.i64.wrap (prod (taken ds ps)) = (long : Int)) := by rw [Hid, hlong, wrap_in _ (by omega) (by omega)]
  have HLO2 : Hid (IntKind.i64.wrap (prod (taken ds (freeL (lo ++ ps) ds.length))) = (rows : Int)) := by rw [Hid, hrows, wrap_in _ (by omega) (by omega)]
  have HLO3 : Hid (IntKind.i64.wrap (prod (taken es (freeL (hi ++ st) es.length))) = (cols : Int)) := by rw [Hid, hcols, wrap_in _ (by omega) (by omega)]
  have HBN := hide hbnd
  have HP := hide hp
  have HLO := hide hlo
  have HHI := hide hhi
  have HST := hide hst
  have HD := hide hd
  have HE := hide he
  have HX := hide hx
  have HY := hide hy
  have HR := hide hrow
  have hgl : g < w.heap.size := hrow.lt
  have HB1 := (Below.refl w.heap.size w).alloc (Nat.le_refl _) (.cells #[.int .i64 k, vd, .slice pa pl pc, .slice la ll lc, .slice ha hl hc, .slice ta tl tc, .int .i64 x] 24)
  have HB2 := HB1.alloc HB1.size (.cells #[.slice da dl dc, .slice xa n1 xc] 28)
  have HB3 := hide (HB2.alloc HB2.size (.cells #[.slice ea el ec, .slice ya n2 yc] 28))
  have HOP := hide (((OpAt.new w k vd (.slice pa pl pc) (.slice la ll lc) (.slice ha hl hc) (.slice ta tl tc) x).alloc (.cells #[.slice da dl dc, .slice xa n1 xc] 28)).alloc (.cells #[.slice ea el ec, .slice ya n2 yc] 28))
  have r1 := (ArrAt.new (w.alloc (.cells #[.int .i64 k, vd, .slice pa pl pc, .slice la ll lc, .slice ha hl hc, .slice ta tl tc, .int .i64 x] 24)) (.slice da dl dc) (.slice xa n1 xc)).alloc (.cells #[.slice ea el ec, .slice ya n2 yc] 28)
  have r2 := ArrAt.new ((w.alloc (.cells #[.int .i64 k, vd, .slice pa pl pc, .slice la ll lc, .slice ha hl hc, .slice ta tl tc, .int .i64 x] 24)).alloc (.cells #[.slice da dl dc, .slice xa n1 xc] 28)) (.slice ea el ec) (.slice ya n2 yc)
  simp only [World.size_alloc] at r1 r2
  have HAA := hide r1
  have HAB := hide r2
  obtain ⟨o0, o1, o2, o3, o4, o5, o6⟩ := HOP.out.cells
  obtain ⟨⟨p0, p1⟩, _⟩ := HAA.out.cells
  obtain ⟨⟨p2, p3⟩, _⟩ := HAB.out.cells
  have HSD := hide (sides_any k x vd pa pl pc ps la ll lc lo ha hl hc hi ta tl tc st da dl dc ds ea el ec es _ (hp.below HB3.out) (hlo.below HB3.out) (hhi.below HB3.out) (hst.below HB3.out) (hd.below HB3.out) (he.below HB3.out) h6 h6')
  have HDB := hide hdB
  have HL1 : Hid (∀ W X sn sc, Below w.heap.size w W → Lst W X sn sc (freeL (lo ++ ps) ds.length) → Calls Tryz.prog 69 #[.agg #[.slice la ll lc, .slice X sn sc, .slice pa pl pc], .agg #[.slice da dl dc, .slice xa n1 xc]] W fun e w' => (∃ G, e = .returned (.slice (some ⟨G, 0, none⟩) n1 n1) ∧ Ints w' (some ⟨G, 0, none⟩) n1 (lookL xs Q1) ∧ W.heap.size ≤ G) ∧ Below W.heap.size W w') := fun W X sn sc hW hX => laid_any la ll lc lo X sn sc _ pa pl pc ps da dl dc ds xa n1 xc xs Q1 W (hlo.below hW) hX (hp.below hW) (hd.below hW) (hx.below hW) hn1 (by have := hX.1.1; have := hlo.1.1; have := hp.1.1; omega) hz1 ht1 hQ1 hw1 hql1 hqb1
  have HL2 : Hid (∀ W Y sm sd, Below w.heap.size w W → Lst W Y sm sd (freeL (hi ++ st) es.length) → Calls Tryz.prog 69 #[.agg #[.slice ha hl hc, .slice Y sm sd, .slice ta tl tc], .agg #[.slice ea el ec, .slice ya n2 yc]] W fun e w' => (∃ G, e = .returned (.slice (some ⟨G, 0, none⟩) n2 n2) ∧ Ints w' (some ⟨G, 0, none⟩) n2 (lookL ys Q2) ∧ W.heap.size ≤ G) ∧ Below W.heap.size W w') := fun W Y sm sd hW hY => laid_any ha hl hc hi Y sm sd _ ta tl tc st ea el ec es ya n2 yc ys Q2 W (hhi.below hW) hY (hst.below hW) (he.below hW) (hy.below hW) hn2 (by have := hY.1.1; have := hhi.1.1; have := hst.1.1; omega) hz2 ht2 hQ2 hw2 hql2 hqb2
  clear hp hlo hhi hst hd he hx hy hz1 hz2 hdB ht1 hQ1 hw1 hql1 hqb1 ht2 hQ2 hw2 hql2 hqb2 hrow r1 r2 HB1 HB2 hs1 hs2 hlong hrows hcols hbnd hl6
  go_enter Tryz.func31, Tryz.ntmps31
  go_wp2_with (go_at_call 68; refine HSD.out.mono ?_; rintro e w1 ⟨hsp, hb⟩; obtain ⟨_, X, sn, sc, Y, sm, sd, rfl, hX, hY⟩ := hsp.resolve_right (fun h => by have := h.1; rw [HDB.out] at this; cases this); have HB4 := hide (Below.on HB3.out hb); have HAA4 := hide (HAA.out.below hb); have HAB4 := hide (HAB.out.below hb); have HX4 := hide hX; have HY4 := hide hY; clear hX hY hb hsp o0 o1 o2 o3 o4 o5 o6 p0 p1 p2 p3)
  have HW1 := hide (((Below.refl w1.heap.size w1).alloc (Nat.le_refl _) (.cells #[.slice la ll lc, .slice X sn sc, .slice pa pl pc] 93)).alloc (by simp) (.cells #[.slice ha hl hc, .slice Y sm sd, .slice ta tl tc] 93))
  have HBW := hide (Below.on HB4.out HW1.out)
  have HSL := hide ((SideAt.new w1 (.slice la ll lc) (.slice X sn sc) (.slice pa pl pc)).alloc (.cells #[.slice ha hl hc, .slice Y sm sd, .slice ta tl tc] 93))
  have hsr := SideAt.new (w1.alloc (.cells #[.slice la ll lc, .slice X sn sc, .slice pa pl pc] 93)) (.slice ha hl hc) (.slice Y sm sd) (.slice ta tl tc)
  simp only [World.size_alloc] at hsr
  have HSR := hide hsr
  have HAA5 := hide (HAA4.out.below HW1.out)
  have HAB5 := hide (HAB4.out.below HW1.out)
  have hwsz : w1.heap.size + 1 + 1 = ((w1.alloc (.cells #[.slice la ll lc, .slice X sn sc, .slice pa pl pc] 93)).alloc (.cells #[.slice ha hl hc, .slice Y sm sd, .slice ta tl tc] 93)).heap.size := by simp
  generalize hWW : (w1.alloc (.cells #[.slice la ll lc, .slice X sn sc, .slice pa pl pc] 93)).alloc (.cells #[.slice ha hl hc, .slice Y sm sd, .slice ta tl tc] 93) = W1 at HW1 HBW HSL HSR HAA5 HAB5 hwsz hsr ⊢
  have HWS := hide hwsz
  obtain ⟨⟨s0, s1, s2⟩, _⟩ := HSL.out.cells
  obtain ⟨⟨t0, t1, t2⟩, _⟩ := HSR.out.cells
  obtain ⟨⟨a0, a1⟩, _⟩ := HAA5.out.cells
  obtain ⟨⟨b0, b1⟩, _⟩ := HAB5.out.cells
  clear hWW hsr hwsz
  refine region_made 8 10 [fIs (.agg #[.slice la ll lc, .slice X sn sc, .slice pa pl pc]), fIs (.agg #[.slice da dl dc, .slice xa n1 xc]), fInts W1.heap.size n1 (lookL xs Q1), fIs (.agg #[.slice ha hl hc, .slice Y sm sd, .slice ta tl tc]), fIs (.agg #[.slice ea el ec, .slice ya n2 yc]), fInts W1.heap.size n2 (lookL ys Q2), fBox W1.heap.size 26 (.slice none 0 0), fBox W1.heap.size 26 (.slice none 0 0)] (by kernel_rfl) (by kernel_rfl) (by kernel_rfl) (fun _ ⟨_, _⟩ ⟨_, _⟩ _ e h => by cases e; exact h) ⟨fIs_good _, fIs_good _, fInts_good _ _ _, fIs_good _, fIs_good _, fInts_good _ _ _, fBox_good _ _ _, fBox_good _ _ _, trivial⟩ ?mk ?rest
  case mk =>
    refine ⟨fun u wz hb hd => ?_, fun u wz hb hd => ?_, fun u wz hb hd => ?_, fun u wz hb hd => ?_, fun u wz hb hd => ?_, fun u wz hb hd => ?_, fun u wz hb hd => ?_, fun u wz hb hd => ?_, trivial⟩
    all_goals simp only [Act.put, List.setIfInBounds_toArray, List.set_cons_zero, List.set_cons_succ]
    · skip
      have s0' := (hb.cell (p := ⟨w1.heap.size, 0, none⟩) (lt_of_cell s0)).trans s0
      have s1' := (hb.cell (p := ⟨w1.heap.size, 1, none⟩) (lt_of_cell s1)).trans s1
      have s2' := (hb.cell (p := ⟨w1.heap.size, 2, none⟩) (lt_of_cell s2)).trans s2
      go_simp
      exact ⟨rfl, Below.refl _ _, fun h => by cases h⟩
    · skip
      have a0' := (hb.cell (p := ⟨w.heap.size + 1, 0, none⟩) (lt_of_cell a0)).trans a0
      have a1' := (hb.cell (p := ⟨w.heap.size + 1, 1, none⟩) (lt_of_cell a1)).trans a1
      go_simp
      exact ⟨rfl, Below.refl _ _, fun h => by cases h⟩
    · have e0 : u 0 = .agg #[.slice la ll lc, .slice X sn sc, .slice pa pl pc] := hd 0 (by omega) (by kernel_rfl)
      have e1 : u 1 = .agg #[.slice da dl dc, .slice xa n1 xc] := hd 1 (by omega) (by kernel_rfl)
      rw [e0, e1]
      go_simp
      refine (HL1.out wz X sn sc (Below.on HBW.out hb) (HX4.out.below (Below.on HW1.out hb))).mono ?_
      rintro e w2 ⟨⟨G, rfl, h1, h2⟩, hb2⟩
      have hs := hb.size
      exact ⟨⟨G, rfl, h1, by omega⟩, hb2, fun h => by cases h⟩
    · skip
      have t0' := (hb.cell (p := ⟨w1.heap.size + 1, 0, none⟩) (lt_of_cell t0)).trans t0
      have t1' := (hb.cell (p := ⟨w1.heap.size + 1, 1, none⟩) (lt_of_cell t1)).trans t1
      have t2' := (hb.cell (p := ⟨w1.heap.size + 1, 2, none⟩) (lt_of_cell t2)).trans t2
      go_simp
      exact ⟨rfl, Below.refl _ _, fun h => by cases h⟩
    · skip
      have b0' := (hb.cell (p := ⟨w.heap.size + 1 + 1, 0, none⟩) (lt_of_cell b0)).trans b0
      have b1' := (hb.cell (p := ⟨w.heap.size + 1 + 1, 1, none⟩) (lt_of_cell b1)).trans b1
      go_simp
      exact ⟨rfl, Below.refl _ _, fun h => by cases h⟩
    · have e0 : u 3 = .agg #[.slice ha hl hc, .slice Y sm sd, .slice ta tl tc] := hd 3 (by omega) (by kernel_rfl)
      have e1 : u 4 = .agg #[.slice ea el ec, .slice ya n2 yc] := hd 4 (by omega) (by kernel_rfl)
      rw [e0, e1]
      go_simp
      refine (HL2.out wz Y sm sd (Below.on HBW.out hb) (HY4.out.below (Below.on HW1.out hb))).mono ?_
      rintro e w2 ⟨⟨G, rfl, h1, h2⟩, hb2⟩
      have hs := hb.size
      exact ⟨⟨G, rfl, h1, by omega⟩, hb2, fun h => by cases h⟩
    · go_simp
      exact ⟨⟨_, rfl, Boxed.new _ _ _, hb.size⟩, (Below.refl _ _).alloc (Nat.le_refl _) _, fun _ b hb => by simp [blk] at hb; omega⟩
    · go_simp
      exact ⟨⟨_, rfl, Boxed.new _ _ _, hb.size⟩, (Below.refl _ _).alloc (Nat.le_refl _) _, fun _ b hb => by simp [blk] at hb; omega⟩
  case rest =>
    intro u wz hb hf hp
    have f0 : u 0 = .agg #[.slice la ll lc, .slice X sn sc, .slice pa pl pc] := hf 0 (by omega)
    have f1 : u 1 = .agg #[.slice da dl dc, .slice xa n1 xc] := hf 1 (by omega)
    obtain ⟨G1, f2, i2, n2'⟩ := hf 2 (by omega)
    have f3 : u 3 = .agg #[.slice ha hl hc, .slice Y sm sd, .slice ta tl tc] := hf 3 (by omega)
    have f4 : u 4 = .agg #[.slice ea el ec, .slice ya n2 yc] := hf 4 (by omega)
    obtain ⟨G2, f5, i5, n5'⟩ := hf 5 (by omega)
    obtain ⟨C1, f6, i6, n6'⟩ := hf 6 (by omega)
    obtain ⟨C2, f7, i7, n7'⟩ := hf 7 (by omega)
    have hcc : C1 ≠ C2 := by
      have := hp 6 7 (by omega) (by omega) (by omega) rfl rfl C1 (by rw [f6]; rfl)
      rw [f7] at this
      intro e; exact this (by rw [e]; rfl)
    refine UptoW.rest 2 8 (by rfl) (by kernel_rfl) ?_
    simp only [List.take, List.drop, putOps, Act.put, List.setIfInBounds_toArray, List.set_cons_zero, List.set_cons_succ, Nat.reduceAdd, f0, f1, f2, f3, f4, f5, f6, f7]
    clear f0 f1 f2 f3 f4 f5 f6 f7 hf hp
    clear s0 s1 s2 t0 t1 t2 a0 a1 b0 b1
    have c1 := Boxed.cell i6
    have z1 := Boxed.frozen i6
    refine wpList_plain rfl (fun K hK => ?_)
    go_simp
    refine hK _ _ ?_
    clear hK K c1 z1
    have i7' := Boxed.other i7 (Ne.symm hcc) (.slice (some ⟨G1, 0, none⟩) n1 n1)
    have c2 := Boxed.cell i7'
    have z2 := Boxed.frozen i7'
    refine wpList_plain rfl (fun K hK => ?_)
    go_simp
    refine hK _ _ (wpList_nil ?_)
    clear hK K c2 z2
    have I1 := ints_box (ints_box i2 i6 (fun _ _ e => by cases e) (.slice (some ⟨G1, 0, none⟩) n1 n1)) i7' (fun _ _ e => by cases e) (.slice (some ⟨G2, 0, none⟩) n2 n2)
    have I2 := ints_box (ints_box i5 i6 (fun _ _ e => by cases e) (.slice (some ⟨G1, 0, none⟩) n1 n1)) i7' (fun _ _ e => by cases e) (.slice (some ⟨G2, 0, none⟩) n2 n2)
    have D1 := Boxed.other (Boxed.set (.slice (some ⟨G1, 0, none⟩) n1 n1) i6) hcc (.slice (some ⟨G2, 0, none⟩) n2 n2)
    have D2 := Boxed.set (.slice (some ⟨G2, 0, none⟩) n2 n2) i7'
    have BL := (hb.setCell (p := ⟨C1, 0, none⟩) n6' (.slice (some ⟨G1, 0, none⟩) n1 n1)).setCell (p := ⟨C2, 0, none⟩) n7' (.slice (some ⟨G2, 0, none⟩) n2 n2)
    clear i2 i5 i6 i7 i7' hb
    generalize (wz.setCell ⟨C1, 0, none⟩ (.slice (some ⟨G1, 0, none⟩) n1 n1)).setCell ⟨C2, 0, none⟩ (.slice (some ⟨G2, 0, none⟩) n2 n2) = W2 at *
    have HI1 := hide I1
    have HI2 := hide I2
    have HD1 := hide D1
    have HD2 := hide D2
    have HBL := hide BL
    have HBW2 := hide (Below.on HBW.out BL)
    have HSL2 := hide (HSL.out.below BL)
    have HSR2 := hide (HSR.out.below BL)
    have HAA2 := hide (HAA5.out.below BL)
    have HAB2 := hide (HAB5.out.below BL)
    obtain ⟨⟨s0, s1, s2⟩, _⟩ := HSL2.out.cells
    obtain ⟨⟨t0, t1, t2⟩, _⟩ := HSR2.out.cells
    obtain ⟨⟨a0, a1⟩, _⟩ := HAA2.out.cells
    obtain ⟨⟨b0, b1⟩, _⟩ := HAB2.out.cells
    have HCC := hide (And.intro n6' (And.intro n7' hcc))
    clear I1 I2 D1 D2 BL n6' n7' hcc
    go_wp2_with (first
      | (go_at_call 70; refine (HTP.out _ HBW2.out).mono ?_; rintro e w3 ⟨⟨v3, rfl, X3, n3, c3, rfl, hl3, _⟩, hb3⟩; have HL3 := hide hl3; have HB3' := hide hb3; clear hl3 hb3)
      | (go_at_call 18; refine (count_wrap _ _ _ _ _ HL3.out.1).mono ?_; rintro e w' ⟨rfl, hw'⟩; obtain rfl := hw'.symm; rw [HLO1.out]))
    have D3 := Boxed.new w3 3 (.int .i64 (long : Int))
    have bl3 := HB3'.out.alloc HB3'.out.size (.cells #[.int .i64 (long : Int)] 3)
    have hw3 := HB3'.out.size
    clear s0 s1 s2 t0 t1 t2 a0 a1 b0 b1
    generalize w3.alloc (.cells #[.int .i64 (long : Int)] 3) = W4 at *
    have HBW4 := hide (Below.on HBW2.out bl3)
    have HW14 := hide (Below.on HW1.out (Below.on HBL.out bl3))
    have HSL4 := hide (HSL2.out.below bl3)
    have HSR4 := hide (HSR2.out.below bl3)
    have HAA4' := hide (HAA2.out.below bl3)
    have HAB4' := hide (HAB2.out.below bl3)
    have HD14 := hide (Boxed.below HD1.out bl3)
    have HD24 := hide (Boxed.below HD2.out bl3)
    have HD3 := hide D3
    have HI14 := hide (HI1.out.below bl3)
    have HI24 := hide (HI2.out.below bl3)
    clear D3 bl3
    obtain ⟨⟨s0, s1, s2⟩, _⟩ := HSL4.out.cells
    obtain ⟨⟨t0, t1, t2⟩, _⟩ := HSR4.out.cells
    obtain ⟨⟨a0, a1⟩, _⟩ := HAA4'.out.cells
    obtain ⟨⟨b0, b1⟩, _⟩ := HAB4'.out.cells
    refine region_made 14 16 [fIs (.pointer (some ⟨w.heap.size + 1, 0, none⟩)), fIs (.slice da dl dc), fIs (.pointer (some ⟨w1.heap.size, 1, none⟩)), fIs (.slice X sn sc), fList (taken ds (freeL (lo ++ ps) ds.length)), fIs (.int .i64 rows), fIs (.pointer (some ⟨w.heap.size + 1 + 1, 0, none⟩)), fIs (.slice ea el ec), fIs (.pointer (some ⟨w1.heap.size + 1, 1, none⟩)), fIs (.slice Y sm sd), fList (taken es (freeL (hi ++ st) es.length)), fIs (.int .i64 cols), fBox W4.heap.size 3 (.int .i64 0), fBox W4.heap.size 3 (.int .i64 0)] (by kernel_rfl) (by kernel_rfl) (by kernel_rfl) (fun _ ⟨_, _⟩ ⟨_, _⟩ _ e h => by cases e; exact h) ⟨fIs_good _, fIs_good _, fIs_good _, fIs_good _, fList_good _, fIs_good _, fIs_good _, fIs_good _, fIs_good _, fIs_good _, fList_good _, fIs_good _, fBox_good _ _ _, fBox_good _ _ _, trivial⟩ ?mk ?rest
    case mk =>
      refine ⟨fun u wz hb hd => ?_, fun u wz hb hd => ?_, fun u wz hb hd => ?_, fun u wz hb hd => ?_, fun u wz hb hd => ?_, fun u wz hb hd => ?_, fun u wz hb hd => ?_, fun u wz hb hd => ?_, fun u wz hb hd => ?_, fun u wz hb hd => ?_, fun u wz hb hd => ?_, fun u wz hb hd => ?_, fun u wz hb hd => ?_, fun u wz hb hd => ?_, trivial⟩
      all_goals simp only [Act.put, List.setIfInBounds_toArray, List.set_cons_zero, List.set_cons_succ]
      · go_simp
        exact ⟨rfl, Below.refl _ _, fun h => by cases h⟩
      · have e0 : u 0 = .pointer (some ⟨w.heap.size + 1, 0, none⟩) := hd 0 (by omega) (by kernel_rfl)
        have a0' := (hb.cell (p := ⟨w.heap.size + 1, 0, none⟩) (lt_of_cell a0)).trans a0
        rw [e0]
        go_simp
        exact ⟨rfl, Below.refl _ _, fun h => by cases h⟩
      · go_simp
        exact ⟨rfl, Below.refl _ _, fun h => by cases h⟩
      · have e0 : u 2 = .pointer (some ⟨w1.heap.size, 1, none⟩) := hd 2 (by omega) (by kernel_rfl)
        have s1' := (hb.cell (p := ⟨w1.heap.size, 1, none⟩) (lt_of_cell s1)).trans s1
        rw [e0]
        go_simp
        exact ⟨rfl, Below.refl _ _, fun h => by cases h⟩
      · have e0 : u 1 = .slice da dl dc := hd 1 (by omega) (by kernel_rfl)
        have e1 : u 3 = .slice X sn sc := hd 3 (by omega) (by kernel_rfl)
        rw [e0, e1]
        go_simp
        refine (HTA.out wz X sn sc (Below.on HBW4.out hb) (HX4.out.below (Below.on HW14.out hb))).mono ?_
        rintro e w2 ⟨⟨v2, rfl, X2, k2, c2, rfl, hl2, _⟩, hb2⟩
        exact ⟨⟨X2, k2, c2, rfl, hl2.1⟩, hb2, fun h => by cases h⟩
      · obtain ⟨X2, k2, c2, e0, hl2⟩ := hd 4 (by omega) (by kernel_rfl)
        rw [e0]
        go_simp
        refine (count_wrap _ _ _ _ _ hl2).mono ?_
        rintro e w' ⟨rfl, hw'⟩
        obtain rfl := hw'.symm
        rw [HLO2.out]
        exact ⟨rfl, Below.refl _ _, fun h => by cases h⟩
      · go_simp
        exact ⟨rfl, Below.refl _ _, fun h => by cases h⟩
      · have e0 : u 6 = .pointer (some ⟨w.heap.size + 1 + 1, 0, none⟩) := hd 6 (by omega) (by kernel_rfl)
        have b0' := (hb.cell (p := ⟨w.heap.size + 1 + 1, 0, none⟩) (lt_of_cell b0)).trans b0
        rw [e0]
        go_simp
        exact ⟨rfl, Below.refl _ _, fun h => by cases h⟩
      · go_simp
        exact ⟨rfl, Below.refl _ _, fun h => by cases h⟩
      · have e0 : u 8 = .pointer (some ⟨w1.heap.size + 1, 1, none⟩) := hd 8 (by omega) (by kernel_rfl)
        have t1' := (hb.cell (p := ⟨w1.heap.size + 1, 1, none⟩) (lt_of_cell t1)).trans t1
        rw [e0]
        go_simp
        exact ⟨rfl, Below.refl _ _, fun h => by cases h⟩
      · have e0 : u 7 = .slice ea el ec := hd 7 (by omega) (by kernel_rfl)
        have e1 : u 9 = .slice Y sm sd := hd 9 (by omega) (by kernel_rfl)
        rw [e0, e1]
        go_simp
        refine (HTB.out wz Y sm sd (Below.on HBW4.out hb) (HY4.out.below (Below.on HW14.out hb))).mono ?_
        rintro e w2 ⟨⟨v2, rfl, X2, k2, c2, rfl, hl2, _⟩, hb2⟩
        exact ⟨⟨X2, k2, c2, rfl, hl2.1⟩, hb2, fun h => by cases h⟩
      · obtain ⟨X2, k2, c2, e0, hl2⟩ := hd 10 (by omega) (by kernel_rfl)
        rw [e0]
        go_simp
        refine (count_wrap _ _ _ _ _ hl2).mono ?_
        rintro e w' ⟨rfl, hw'⟩
        obtain rfl := hw'.symm
        rw [HLO3.out]
        exact ⟨rfl, Below.refl _ _, fun h => by cases h⟩
      · go_simp
        exact ⟨⟨_, rfl, Boxed.new _ _ _, hb.size⟩, (Below.refl _ _).alloc (Nat.le_refl _) _, fun _ b hb => by simp [blk] at hb; omega⟩
      · go_simp
        exact ⟨⟨_, rfl, Boxed.new _ _ _, hb.size⟩, (Below.refl _ _).alloc (Nat.le_refl _) _, fun _ b hb => by simp [blk] at hb; omega⟩
    case rest =>
      intro u wz hb hf hp
      have f0 : u 0 = (.pointer (some ⟨w.heap.size + 1, 0, none⟩)) := hf 0 (by omega)
      have f1 : u 1 = (.slice da dl dc) := hf 1 (by omega)
      have f2 : u 2 = (.pointer (some ⟨w1.heap.size, 1, none⟩)) := hf 2 (by omega)
      have f3 : u 3 = (.slice X sn sc) := hf 3 (by omega)
      obtain ⟨XX4, kk4, cc4, f4, _⟩ := hf 4 (by omega)
      have f5 : u 5 = (.int .i64 rows) := hf 5 (by omega)
      have f6 : u 6 = (.pointer (some ⟨w.heap.size + 1 + 1, 0, none⟩)) := hf 6 (by omega)
      have f7 : u 7 = (.slice ea el ec) := hf 7 (by omega)
      have f8 : u 8 = (.pointer (some ⟨w1.heap.size + 1, 1, none⟩)) := hf 8 (by omega)
      have f9 : u 9 = (.slice Y sm sd) := hf 9 (by omega)
      obtain ⟨XX10, kk10, cc10, f10, _⟩ := hf 10 (by omega)
      have f11 : u 11 = (.int .i64 cols) := hf 11 (by omega)
      obtain ⟨E12, f12, i12, m12⟩ := hf 12 (by omega)
      obtain ⟨E13, f13, i13, m13⟩ := hf 13 (by omega)
      have hcc : E12 ≠ E13 := by
        have := hp 12 13 (by omega) (by omega) (by omega) rfl rfl E12 (by rw [f12]; rfl)
        rw [f13] at this
        intro e; exact this (by rw [e]; rfl)
      refine UptoW.rest 2 14 (by rfl) (by kernel_rfl) ?_
      simp only [List.take, List.drop, putOps, Act.put, List.setIfInBounds_toArray, List.set_cons_zero, List.set_cons_succ, Nat.reduceAdd, f0, f1, f2, f3, f4, f5, f6, f7, f8, f9, f10, f11, f12, f13]
      clear f0 f1 f2 f3 f4 f5 f6 f7 f8 f9 f10 f11 f12 f13 hf hp
      clear s0 s1 s2 t0 t1 t2 a0 a1 b0 b1
      have c1 := Boxed.cell i12
      have z1 := Boxed.frozen i12
      refine wpList_plain rfl (fun K hK => ?_)
      go_simp
      refine hK _ _ ?_
      clear hK K c1 z1
      have i7' := Boxed.other i13 (Ne.symm hcc) (.int .i64 (rows : Int))
      have c2 := Boxed.cell i7'
      have z2 := Boxed.frozen i7'
      refine wpList_plain rfl (fun K hK => ?_)
      go_simp
      refine hK _ _ (wpList_nil ?_)
      clear hK K c2 z2
      have D4 := Boxed.other (Boxed.set (.int .i64 (rows : Int)) i12) hcc (.int .i64 (cols : Int))
      have D5 := Boxed.set (.int .i64 (cols : Int)) i7'
      have BL := (hb.setCell (p := ⟨E12, 0, none⟩) m12 (.int .i64 (rows : Int))).setCell (p := ⟨E13, 0, none⟩) m13 (.int .i64 (cols : Int))
      clear i12 i13 i7' hb
      generalize (wz.setCell ⟨E12, 0, none⟩ (.int .i64 (rows : Int))).setCell ⟨E13, 0, none⟩ (.int .i64 (cols : Int)) = W5 at *
      have HD4 := hide D4
      have HD5 := hide D5
      have HB5 := hide (Below.on HBW4.out BL)
      have HD1' := hide (Boxed.below HD14.out BL)
      have HD2' := hide (Boxed.below HD24.out BL)
      have HD3' := hide (Boxed.below HD3.out BL)
      have HI1' := hide (HI14.out.below BL)
      have HI2' := hide (HI24.out.below BL)
      have hw1 : w.heap.size ≤ W1.heap.size := HBW.out.size
      have hw2 : W1.heap.size ≤ W2.heap.size := HBL.out.size
      have hw4 : w.heap.size ≤ W4.heap.size := HBW4.out.size
      have HG := hide (And.intro (Nat.le_trans hw1 n2') (Nat.le_trans hw1 n5'))
      have HSZ := hide (And.intro (Nat.le_trans hw1 HCC.out.1) (And.intro (Nat.le_trans hw1 HCC.out.2.1) (And.intro (Nat.le_trans hw4 m12) (And.intro (Nat.le_trans hw4 m13) (show w.heap.size ≤ w3.heap.size by omega)))))
      clear D4 D5 BL hw1 hw2 hw4 m12 m13 hcc
      have hcf : ∀ (args : Array Value) (w : World), (callFunc 71 args).run Tryz.prog w = .ok (.enter 71 args) w := enters Tryz.func71 (by kernel_rfl) (by kernel_rfl)
      have HCF := hide hcf
      clear hcf
      go_wp2_with ((go_at_call 35; refine (fill_any 71 #[.pointer (some ⟨E13, 0, none⟩), .pointer (some ⟨E12, 0, none⟩), .pointer (some ⟨C1, 0, none⟩), .pointer (some ⟨w3.heap.size, 0, none⟩), .pointer (some ⟨C2, 0, none⟩)] g n (dotF (lookL xs Q1) (lookL ys Q2) long rows cols n) [] (dotF_length _ _ _ _ _ _) _ (by omega) HCF.out ((HR.out.of_block (HB5.out.block g hgl)).congr (fun j _ => by simp [onWay])) (fun i W hi hW => by {
        rw [dotF_at _ _ _ _ _ _ _ hi]
        have hz := HSZ.out
        have hg := HG.out
        have hbn := HBN.out i hi
        exact dot1_any i (i / cols) (i / cols / rows) (i % cols) (i / cols / rows * cols + i % cols) (i / cols * long) ((i / cols / rows * cols + i % cols) * long) long cols rows E13 E12 C1 w3.heap.size C2 G1 0 n1 n1 (lookL xs Q1) G2 0 n2 n2 (lookL ys Q2) W ((hW.1 E13 (by omega)).trans HD5.out) ((hW.1 E12 (by omega)).trans HD4.out) ((hW.1 C1 (by omega)).trans HD1'.out) ((hW.1 w3.heap.size (by omega)).trans HD3'.out) ((hW.1 C2 (by omega)).trans HD2'.out) (hW.ints HI1'.out (fun b o e => by cases e; omega)) (hW.ints HI2'.out (fun b o e => by cases e; omega)) (Nat.le_refl _) (Nat.le_refl _) (by omega) (by omega) hc0 hr0 rfl rfl rfl rfl rfl rfl (by omega) hbn.1 hbn.2.1 hbn.2.2 hc6 hr6 hn1 hn2 })).mono ?_; rintro e w9 ⟨rfl, hr9, hbut, h09⟩; have H09 := hide h09; have HR9 := hide (onWay_all hr9); have HBU := hide hbut; clear hr9 hbut h09))
      all_goals exact bodyPost_end (v := .tuple #[]) (by simp [results, Tryz.results31, go_sem]) rfl ⟨rfl, HR9.out, Save.of_below HB5.out HBU.out H09.out⟩
end Go.Proofs.YtoagnhppjlcpkaaGreat.V

/-
  Contract: array.work of Dot, over what dot does.
-/
namespace Go.Proofs.YtoagnhppjlcpkaaGreat.V
set_option maxRecDepth 20000
open Go.RowKit

set_option maxRecDepth 100000 in
set_option maxHeartbeats 4000000 in
theorem work_dot (x : Int) (vd va vl vh vs : Value) (Z : Option Addr) (nz cz g n : Nat) (b off cap : Nat) (c0 c1 c2 c3 : Value) (f : List Int) (w : World)
    (h0 : w.cell? ⟨b, off, none⟩ = some c0) (h1 : w.cell? ⟨b, off + 1, none⟩ = some c1) (h2 : w.cell? ⟨b, off + 2, none⟩ = some c2) (h3 : w.cell? ⟨b, off + 3, none⟩ = some c3) (hbg : b ≠ g) (hrow : w.rowIs g 2 n (fun _ => .int .i64 0))
    (hdot : ∀ W, Below w.heap.size w W → W.rowIs g 2 n (fun _ => .int .i64 0) → Calls Tryz.prog 31 #[.slice (some ⟨g, 0, none⟩) n n, .agg #[.int .i64 16, vd, va, vl, vh, vs, .int .i64 x], .agg #[c0, c1], .agg #[c2, c3]] W fun e W' => e = .returned (.tuple #[]) ∧ W'.rowIs g 2 n (fun j => .int .i64 (f[j]?.getD 0)) ∧ Save g W W') :
    Calls Tryz.prog 19 #[.agg #[.slice Z nz cz, .slice (some ⟨g, 0, none⟩) n n], .agg #[.int .i64 16, vd, va, vl, vh, vs, .int .i64 x], .slice (some ⟨b, off, none⟩) 2 cap] w fun e w' => e = .returned (.tuple #[]) ∧ w'.rowIs g 2 n (fun j => .int .i64 (f[j]?.getD 0)) ∧ Save g w w' := by
  have hgl : g < w.heap.size := hrow.lt
  have HB1 := hide ((Below.refl w.heap.size w).alloc (Nat.le_refl _) (.cells #[.slice Z nz cz, .slice (some ⟨g, 0, none⟩) n n] 28))
  have HB2 := hide (HB1.out.alloc HB1.out.size (.cells #[.int .i64 16, vd, va, vl, vh, vs, .int .i64 x] 24))
  have HAR := hide ((ArrAt.new w (.slice Z nz cz) (.slice (some ⟨g, 0, none⟩) n n)).alloc (.cells #[.int .i64 16, vd, va, vl, vh, vs, .int .i64 x] 24))
  have hop := OpAt.new (w.alloc (.cells #[.slice Z nz cz, .slice (some ⟨g, 0, none⟩) n n] 28)) 16 vd va vl vh vs x
  simp only [World.size_alloc] at hop
  have HOP := hide hop
  obtain ⟨⟨r0, r1⟩, _⟩ := HAR.out.cells
  obtain ⟨o0, o1, o2, o3, o4, o5, o6⟩ := HOP.out.cells
  have k0 := (HB2.out.cell (p := ⟨b, off, none⟩) (lt_of_cell h0)).trans h0
  have k1 := (HB2.out.cell (p := ⟨b, off + 1, none⟩) (lt_of_cell h1)).trans h1
  have k2 := (HB2.out.cell (p := ⟨b, off + 2, none⟩) (lt_of_cell h2)).trans h2
  have k3 := (HB2.out.cell (p := ⟨b, off + 3, none⟩) (lt_of_cell h3)).trans h3
  have HR := hide hrow
  have HDT := hide hdot
  clear h0 h1 h2 h3 hrow hop hdot
  go_enter Tryz.func19, Tryz.ntmps19
  go_wp2_with fail
  go_region_held3 (fun w' => (w'.cell? ⟨w.heap.size, 1, none⟩ = some (.slice (some ⟨g, 0, none⟩) n n) ∧ w'.cell? ⟨w.heap.size + 1, 0, none⟩ = some (.int .i64 16) ∧ w'.cell? ⟨w.heap.size + 1, 1, none⟩ = some vd ∧ w'.cell? ⟨w.heap.size + 1, 2, none⟩ = some va ∧ w'.cell? ⟨w.heap.size + 1, 3, none⟩ = some vl ∧ w'.cell? ⟨w.heap.size + 1, 4, none⟩ = some vh ∧ w'.cell? ⟨w.heap.size + 1, 5, none⟩ = some vs ∧ w'.cell? ⟨w.heap.size + 1, 6, none⟩ = some (.int .i64 x)) ∧ (w'.cell? ⟨b, off, none⟩ = some c0 ∧ w'.cell? ⟨b, off + 1, none⟩ = some c1 ∧ w'.cell? ⟨b, off + 2, none⟩ = some c2 ∧ w'.cell? ⟨b, off + 3, none⟩ = some c3)) (refine ⟨⟨?_, ?_, ?_, ?_, ?_, ?_, ?_, ?_⟩, ?_, ?_, ?_, ?_⟩ <;> with_reducible (repeat (first | assumption | apply drew_cell))) ((go_at_call 31; refine (HDT.out _ HB2.out.drew (HR.out.of_block (HB2.out.drew.block g hgl))).mono ?_; rintro e w4 ⟨rfl, hr4, hsv⟩; have HR4 := hide hr4; have HSV := hide hsv; have hA4 : ArrAt w4 w.heap.size _ _ := (hsv.1 w.heap.size (by simp; omega) (by omega)).trans HAR.out; have hO4 : OpAt w4 (w.heap.size + 1) _ _ _ _ _ _ _ := (hsv.1 (w.heap.size + 1) (by simp) (by omega)).trans HOP.out; have hb4 := hsv.1 b (by have := lt_of_cell k0; simp at this; simp; omega) hbg; obtain ⟨⟨r40, r41⟩, _⟩ := hA4.cells; obtain ⟨o40, o41, o42, o43, o44, o45, o46⟩ := hO4.cells; have k40 := (World.cell?_of_block (a := ⟨b, off, none⟩) hb4).trans k0; have k41 := (World.cell?_of_block (a := ⟨b, off + 1, none⟩) hb4).trans k1; have k42 := (World.cell?_of_block (a := ⟨b, off + 2, none⟩) hb4).trans k2; have k43 := (World.cell?_of_block (a := ⟨b, off + 3, none⟩) hb4).trans k3; clear hsv hr4 hb4 hA4 hO4))
  all_goals go_wp2
  all_goals exact bodyPost_end (v := .tuple #[]) (by simp [results, Tryz.results19, go_sem]) rfl ⟨rfl, HR4.out, ⟨fun c hc hne => (HSV.out.1 c (by simp; omega) hne).trans (HB2.out.block c hc), (HB2.out.drew.mono (Nat.zero_le _)).trans HSV.out.2⟩⟩
end Go.Proofs.YtoagnhppjlcpkaaGreat.V

/-
  Contract: array.landing: where the entries of what is summed or padded go.
-/
namespace Go.Proofs.YtoagnhppjlcpkaaGreat.V
set_option maxRecDepth 20000
open Go.RowKit

/-- Places that are answered. -/
def Landed (w : World) (Q : List Int) (e : Ending) (w' : World) : Prop := ∃ (P : Option Addr) (p c : Nat), e = .returned (.slice P p c) ∧ Ints w' P p Q ∧ Far w.heap.size P
theorem ints_keep {w W W' : World} {g n : Nat} {a : Option Addr} {xs : List Int} (h : Ints w a n xs) (hb : Below w.heap.size w W) (hs : Save g W W') (hg : w.heap.size ≤ g) : Ints W' a n xs := by
  obtain ⟨h1, h2, h3, h4⟩ := h
  refine ⟨h1, h2, h3, ?_⟩
  by_cases h0 : n = 0
  · exact .inl h0
  · rcases h4 with h4 | ⟨b, off, e, hc⟩
    · exact .inl h4
    · have hl := lt_of_cell (hc 0 (by omega))
      simp only at hl
      exact .inr ⟨b, off, e, fun j hj => (World.cell?_of_block (w := W) (hs.1 b (by have := hb.size; omega) (by omega))).trans ((hb.cell (p := ⟨b, off + j, none⟩) hl).trans (hc j hj))⟩
theorem ints_either2 {w w' : World} {a d : Option Addr} {n m N C : Nat} {xs ys : List Int} {x y z : Value} (hi : Ints w' a n xs) (hF : a = d ∨ Far N a) (hd : Ints w d m ys) (hnm : 0 < n → 0 < m) (hC : C < N) (hC1 : w.heap.size ≤ C) :
    Ints (((w'.setCell ⟨C, 0, none⟩ x).setCell ⟨C, 1, none⟩ y).setCell ⟨C, 2, none⟩ z) a n xs := by
  rcases hF with e | e
  · subst e
    by_cases h0 : n = 0
    · exact ⟨hi.1, hi.2.1, hi.2.2.1, .inl h0⟩
    · obtain ⟨b, o, rfl, hb, _⟩ := hd.at (hnm (by omega))
      exact ints_set3o hi (fun g o' e => by cases e; omega)
  · exact ints_putF hi e hC
theorem ints_either {w w' : World} {a d : Option Addr} {n m N C : Nat} {xs : List Int} {x y z : Value} (hi : Ints w' a n xs) (hF : a = d ∨ Far N a) (hd : Ints w d m xs) (hB : Below w.heap.size w (((w'.setCell ⟨C, 0, none⟩ x).setCell ⟨C, 1, none⟩ y).setCell ⟨C, 2, none⟩ z)) (hC : C < N) :
    Ints (((w'.setCell ⟨C, 0, none⟩ x).setCell ⟨C, 1, none⟩ y).setCell ⟨C, 2, none⟩ z) a n xs := by
  rcases hF with e | e
  · subst e
    have hl : n = m := hi.1.symm.trans hd.1
    subst hl
    exact hd.below hB
  · exact ints_putF hi e hC

set_option maxRecDepth 100000 in
set_option maxHeartbeats 4000000 in
theorem landing_sum (x : Int) (vd : Value) (pa : Option Addr) (pl pc : Nat) (ps : List Int) (la : Option Addr) (ll lc : Nat) (ha : Option Addr) (hl hc : Nat) (ta : Option Addr) (tl tc : Nat) (da : Option Addr) (dl dc : Nat) (ds : List Int) (ma : Option Addr) (ml mc : Nat) (ms : List Int) (w : World)
    (hp : Lst w pa pl pc ps) (hd : Ints w da dl ds) (hm : Ints w ma ml ms) (h6 : dl ≤ 6) (hO : Once ps dl) (hz : sizeE ms = 0) (hS : sprE 0 ms (stepsV ms) ds (freeL ps dl) = 0) (hW : wrongE 0 ds (sprS ds.length (stepsV ms) (freeL ps dl)) = 0) :
    Calls Tryz.prog 30 #[.agg #[.int .i64 10, vd, .slice pa pl pc, .slice la ll lc, .slice ha hl hc, .slice ta tl tc, .int .i64 x], .slice da dl dc, .slice ma ml mc] w fun e w' => Landed w (readsV 0 ds (sprS ds.length (stepsV ms) (freeL ps dl))) e w' ∧ Below w.heap.size w w' := by
  have HP := hide hp
  have HD := hide hd
  have HM := hide hm
  have HZ := hide hz
  have HB1 := hide ((Below.refl w.heap.size w).alloc (Nat.le_refl _) (.cells #[.int .i64 10, vd, .slice pa pl pc, .slice la ll lc, .slice ha hl hc, .slice ta tl tc, .int .i64 x] 24))
  have HOP := hide (OpAt.new w 10 vd (.slice pa pl pc) (.slice la ll lc) (.slice ha hl hc) (.slice ta tl tc) x)
  obtain ⟨o0, o1, o2, o3, o4, o5, o6⟩ := HOP.out.cells
  have HO := hide hO
  have HS := hide hS
  have HW := hide hW
  clear hp hd hm hO hz hS hW
  go_enter Tryz.func30, Tryz.ntmps30
  go_wp2_with (first
    | (go_at_call 67; refine (reads_any 0 _ _ _ ds _ _ _ (sprS ds.length (stepsV ms) (freeL ps dl)) _ HI4.out HJ4.out).mono ?_; rintro e w5 ⟨ht, hb⟩; rw [HW.out] at ht; obtain ⟨P5, p5, c5, rfl, hip, _, hfar⟩ := ht; have hs5 := HBd.out.size; have HT9 : Hid (Landed w (readsV 0 ds (sprS ds.length (stepsV ms) (freeL ps dl))) (.returned (.slice P5 p5 c5)) w5) := ⟨P5, p5, c5, rfl, hip, far_mono hfar hs5⟩; have HB9 := hide (Below.on HBd.out hb); clear hip hfar hb)
    | (go_at_call 65; refine (spread_any _ _ _ _ ms _ _ _ (stepsV ms) _ _ _ ds _ _ _ (freeL ps dl) _ (HI1.out.below HC2.out) (HJ1.out.below HC2.out) (HD.out.below HBb.out) (HL2.out.1)).mono ?_; rintro e w3 ⟨hgv, hb⟩; rw [HS.out] at hgv; obtain ⟨a3, l3, c3, b3, m3, d3, rfl, hi3, hj3, _, hF3, hG3⟩ := hgv; have e1 : ∀ l, okL 0 l = l := (fun l => by unfold okL; rw [if_pos rfl]); rw [e1] at hi3 hj3; simp only [okS, if_true]; have HV3 := hide (HV2.out.below hb); have HBc := hide (Below.on HBb.out hb); have hlv := HV2.out.lt; have hsv := hb.size; have hw1 : w.heap.size ≤ w1.heap.size := HBa.out.size; have q1 := view_put' (x := .int .i64 0) (y := .slice a3 l3 c3) (z := .slice b3 m3 d3) HV3.out; have HBd := hide (below_put (x := .int .i64 0) (y := .slice a3 l3 c3) (z := .slice b3 m3 d3) HBc.out hw1); have HJ4 := hide (ints_putF (x := .int .i64 0) (y := .slice a3 l3 c3) (z := .slice b3 m3 d3) hj3 hG3 hlv); have HI4 := hide (ints_either hi3 hF3 HD.out HBd.out hlv); obtain ⟨⟨u0, u1, u2⟩, _⟩ := HV3.out.cells; obtain ⟨_, g0, g1, g2⟩ := HV3.out.cells; clear v0 v1 v2 fv0 fv1 fv2 hi3 hj3 hF3 hG3 e1; obtain ⟨⟨x0, x1, x2⟩, _⟩ := q1.cells; clear q1 hb)
    | (go_at_call 64; have hoc := others_any dl _ 1 1 [ps] _ (lsts_one' (HP.out.below HB2.out) 22 (B := w1.heap.size + 1) (by simp)) h6; rw [show [ps].flatten = ps by simp] at hoc; refine hoc.mono ?_; rintro e w2 ⟨hop, hb⟩; obtain ⟨_, v2', rfl, X2, n2, d2, rfl, hl2, hf2⟩ := hop.resolve_right (fun hh => hh.1 HO.out); have HL2 := hide hl2; have HBb := hide (Below.on (HB2.out.alloc HB2.out.size (.cells #[.slice pa pl pc] 22)) hb); have HV2 := hide ((HV1.out.alloc (.cells #[.slice pa pl pc] 22)).below hb); have HC2 := hide (Below.on ((Below.refl _ _).alloc (Nat.le_refl _) (.cells #[.slice pa pl pc] 22)) hb); clear hop hl2 hf2 hb hoc o0 o1 o2 o3 o4 o5 o6 v0 v1 v2 fv0 fv1 fv2; obtain ⟨⟨v0, v1, v2⟩, fv0, fv1, fv2⟩ := HV2.out.cells)
    | (go_at_call 63; refine (whole_any _ _ _ ms _ (HM.out.below HB1.out) none).mono ?_; rintro e w1 ⟨hgv, hb⟩; rw [HZ.out] at hgv; obtain ⟨a1, l1, c1, b1, m1, d1, rfl, hi1, hj1, _, hF, hG⟩ := hgv; have e1 : ∀ l, okL 0 l = l := (fun l => by unfold okL; rw [if_pos rfl]); rw [e1] at hi1 hj1; have HIo := hide hi1; have HI1 := hide (hi1.below ((Below.refl _ _).alloc (Nat.le_refl _) (.cells #[.int .i64 0, .slice a1 l1 c1, .slice b1 m1 d1] 80))); have HJ1 := hide (hj1.below ((Below.refl _ _).alloc (Nat.le_refl _) (.cells #[.int .i64 0, .slice a1 l1 c1, .slice b1 m1 d1] 80))); have HOP1 := hide ((HOP.out.below hb).alloc (.cells #[.int .i64 0, .slice a1 l1 c1, .slice b1 m1 d1] 80)); have HV1 := hide (ViewAt.new w1 (.int .i64 0) (.slice a1 l1 c1) (.slice b1 m1 d1)); have HBa := hide (Below.on HB1.out hb); have HB2 := hide (HBa.out.alloc HBa.out.size (.cells #[.int .i64 0, .slice a1 l1 c1, .slice b1 m1 d1] 80)); have hs1 := HB1.out.size; have hs2 := hb.size; clear hi1 hj1 hF hG hb e1 o0 o1 o2 o3 o4 o5 o6; obtain ⟨o0, o1, o2, o3, o4, o5, o6⟩ := HOP1.out.cells; obtain ⟨⟨v0, v1, v2⟩, fv0, fv1, fv2⟩ := HV1.out.cells))
  go_ret
  exact ⟨HT9.out, HB9.out⟩

/-- Where what is padded ends. -/
def endL (ms hi : List Int) : List Int := (List.range ms.length).map fun j => ms[j]?.getD 0 - hi[j]?.getD 0
theorem endL_length (ms hi : List Int) : (endL ms hi).length = ms.length := by simp [endL]
theorem endL_at (ms hi : List Int) (j : Nat) (h : j < ms.length) : (endL ms hi)[j]?.getD 0 = ms[j]?.getD 0 - hi[j]?.getD 0 := by simp [endL, h]

set_option maxRecDepth 100000 in
set_option maxHeartbeats 4000000 in
theorem landing_pad (x : Int) (vd : Value) (pa : Option Addr) (pl pc : Nat) (la : Option Addr) (ll lc : Nat) (lo : List Int) (ha : Option Addr) (hl hc : Nat) (hi : List Int) (ta : Option Addr) (tl tc : Nat) (st : List Int) (dv : Value) (ma : Option Addr) (ml mc : Nat) (ms : List Int) (w : World)
    (hlo : Ints w la ll lo) (hhi : Ints w ha hl hi) (hst : Ints w ta tl st) (hm : Ints w ma ml ms) (h6 : ml ≤ 6) (hhl : hl = ml) (hbd : ∀ j, j < ml → (0 ≤ hi[j]?.getD 0 ∧ hi[j]?.getD 0 ≤ 4096) ∧ 0 ≤ ms[j]?.getD 0 ∧ ms[j]?.getD 0 ≤ 4096) (hz : sizeE ms = 0) (hS : cutE 0 ms (stepsV ms) lo (endL ms hi) st = 0) (hW : wrongE (cutAcc 0 (stepsV ms) lo ms.length) (cutD ms lo (endL ms hi) st) (cutS (stepsV ms) st) = 0) :
    Calls Tryz.prog 30 #[.agg #[.int .i64 14, vd, .slice pa pl pc, .slice la ll lc, .slice ha hl hc, .slice ta tl tc, .int .i64 x], dv, .slice ma ml mc] w fun e w' => Landed w (readsV (cutAcc 0 (stepsV ms) lo ms.length) (cutD ms lo (endL ms hi) st) (cutS (stepsV ms) st)) e w' ∧ Below w.heap.size w w' := by
  have HLO := hide hlo
  have HHI := hide hhi
  have HST := hide hst
  have HM := hide hm
  have HZ := hide hz
  have HB1 := hide ((Below.refl w.heap.size w).alloc (Nat.le_refl _) (.cells #[.int .i64 14, vd, .slice pa pl pc, .slice la ll lc, .slice ha hl hc, .slice ta tl tc, .int .i64 x] 24))
  have HOP := hide (OpAt.new w 14 vd (.slice pa pl pc) (.slice la ll lc) (.slice ha hl hc) (.slice ta tl tc) x)
  obtain ⟨o0, o1, o2, o3, o4, o5, o6⟩ := HOP.out.cells
  have HBD := hide hbd
  have HS := hide hS
  have HW := hide hW
  have HML := hide hm.1
  subst hhl
  clear hlo hhi hst hm hbd hz hS hW
  go_enter Tryz.func30, Tryz.ntmps30
  go_wp2_with (first
    | (go_at_call 53; refine (afresh_any _ _ _ ms _ (HM.out.below HB2.out) (by omega)).mono ?_; rintro e w2 ⟨⟨g, rfl, hr, hg⟩, hb⟩; have HR := hide hr; have hg2 := hg; have hgl := hr.lt; simp only [World.size_alloc] at hg2; have HBb := hide (Below.on HB2.out hb); have HV2 := hide (HV1.out.below hb); have HOP2 := hide (HOP1.out.below hb); have HC2 := hide hb; clear hr hg hb o0 o1 o2 o3 o4 o5 o6 v0 v1 v2 fv0 fv1 fv2; obtain ⟨o0, o1, o2, o3, o4, o5, o6⟩ := HOP2.out.cells)
    | (go_at_call 63; refine (whole_any _ _ _ ms _ (HM.out.below HB1.out) none).mono ?_; rintro e w1 ⟨hgv, hb⟩; rw [HZ.out] at hgv; obtain ⟨a1, l1, c1, b1, m1, d1, rfl, hi1, hj1, _, hF, hG⟩ := hgv; have e1 : ∀ l, okL 0 l = l := (fun l => by unfold okL; rw [if_pos rfl]); rw [e1] at hi1 hj1; have HIo := hide hi1; have HI1 := hide (hi1.below ((Below.refl _ _).alloc (Nat.le_refl _) (.cells #[.int .i64 0, .slice a1 l1 c1, .slice b1 m1 d1] 80))); have HJ1 := hide (hj1.below ((Below.refl _ _).alloc (Nat.le_refl _) (.cells #[.int .i64 0, .slice a1 l1 c1, .slice b1 m1 d1] 80))); have HOP1 := hide ((HOP.out.below hb).alloc (.cells #[.int .i64 0, .slice a1 l1 c1, .slice b1 m1 d1] 80)); have HV1 := hide (ViewAt.new w1 (.int .i64 0) (.slice a1 l1 c1) (.slice b1 m1 d1)); have HBa := hide (Below.on HB1.out hb); have HB2 := hide (HBa.out.alloc HBa.out.size (.cells #[.int .i64 0, .slice a1 l1 c1, .slice b1 m1 d1] 80)); have hs1 := HB1.out.size; have hs2 := hb.size; clear hi1 hj1 hF hG hb e1 o0 o1 o2 o3 o4 o5 o6; obtain ⟨o0, o1, o2, o3, o4, o5, o6⟩ := HOP1.out.cells; obtain ⟨⟨v0, v1, v2⟩, fv0, fv1, fv2⟩ := HV1.out.cells))
  go_loopw [45] (fun i wr => ∃ t : Nat, t ≤ hl ∧ i = .int .i64 t ∧ wr.rowIs g 3 hl (onWay (endL ms hi) ms t) ∧ Save g w2 wr) (fun i _ => hl - (intOf i).toNat)
  case atStart => exact ⟨0, Nat.zero_le _, rfl, onWay_zero HR.out, ⟨fun _ _ _ => rfl, Below.refl _ _⟩⟩
  case round =>
    obtain ⟨t, ht, rfl, hrow, hsv⟩ := hrel
    have HRW := hide hrow
    have HSV := hide hsv
    have hw1 : w.heap.size ≤ w1.heap.size := HBa.out.size
    have hlv := HV2.out.lt
    have hlo2 := HOP2.out.lt
    have HOP3 : Hid (OpAt wr w.heap.size _ _ _ _ _ _ _) := (hsv.1 w.heap.size hlo2 (by omega)).trans HOP2.out
    have HV3' : Hid (ViewAt wr w1.heap.size _ _ _) := (hsv.1 w1.heap.size hlv (by omega)).trans HV2.out
    have HBr := hide (Save.below HBb.out hsv (by omega) (Nat.le_refl _))
    clear hrow hsv o0 o1 o2 o3 o4 o5 o6
    by_cases hlt : t < hl
    · obtain ⟨b, off, rfl, _, hc⟩ := (HHI.out.below HBr.out).at (by omega)
      have hck := hc t hlt
      have hbd := HBD.out t hlt
      have hr := HRW.out.cell hlt
      have hf := HRW.out.frozen t
      have HEND : Hid ((endL ms hi)[t]?.getD 0 = ms[t]?.getD 0 - hi[t]?.getD 0) := endL_at ms hi t (by rw [HML.out]; exact hlt)
      rw [onWay, if_neg (by omega)] at hr
      obtain ⟨X, hX⟩ : ∃ X, X = hi[t]?.getD 0 := ⟨_, rfl⟩
      obtain ⟨Y, hY⟩ : ∃ Y, Y = ms[t]?.getD 0 := ⟨_, rfl⟩
      rw [← hX] at hck hbd HEND
      rw [← hY] at hr hbd HEND
      obtain ⟨⟨x0, x1⟩, y0, y1⟩ := hbd
      clear hc hX hY
      go_wp2
      go_roundw
      case rel =>
        refine ⟨t + 1, by omega, by go_num, (HRW.out.set t (.int .i64 (Y - X))).congr (fun j _ => ?_), ⟨fun c h1 h2 => (Below.heap_setCell _ ⟨g, t, none⟩ _ c (by simpa using h2)).trans (HSV.out.1 c h1 h2), HSV.out.2.setCell (p := ⟨g, t, none⟩) (Nat.zero_le _) _⟩⟩
        rw [← onWay_succ, HEND.out]
      case measure => simp [intOf]; omega
    · obtain rfl : t = hl := by omega
      have hrA := onWay_all HRW.out
      have HEN : Hid (Ints wr (some ⟨g, 0, none⟩) t (endL ms hi)) := ints_of_rowI hrA (by rw [endL_length, HML.out]) (by omega) (fun x hx => by
        simp only [endL, List.mem_map, List.mem_range] at hx
        obtain ⟨j, hj, rfl⟩ := hx
        rw [HML.out] at hj
        have := HBD.out j hj
        omega)
      have hg3 : (w1.alloc (.cells #[.int .i64 0, .slice a1 l1 c1, .slice b1 m1 d1] 80)).heap.size ≤ g := by simp only [World.size_alloc]; exact hg2
      have HI2 : Hid (Ints wr a1 l1 ms) := ints_keep HI1.out HC2.out HSV.out hg3
      have HJ2 : Hid (Ints wr b1 m1 (stepsV ms)) := ints_keep HJ1.out HC2.out HSV.out hg3
      obtain ⟨o0, o1, o2, o3, o4, o5, o6⟩ := HOP3.out.cells
      obtain ⟨⟨v0, v1, v2⟩, fv0, fv1, fv2⟩ := HV3'.out.cells
      clear hrA hg3
      go_wp2_with (first
        | (go_at_call 67; refine (reads_any (cutAcc 0 (stepsV ms) lo ms.length) _ _ _ (cutD ms lo (endL ms hi) st) _ _ _ (cutS (stepsV ms) st) _ HI4.out HJ4.out).mono ?_; rintro e w5 ⟨ht, hb⟩; rw [HW.out] at ht; obtain ⟨P5, p5, c5, rfl, hip, _, hfar⟩ := ht; have hs5 := HBd.out.size; have HT9 : Hid (Landed w (readsV (cutAcc 0 (stepsV ms) lo ms.length) (cutD ms lo (endL ms hi) st) (cutS (stepsV ms) st)) (.returned (.slice P5 p5 c5)) w5) := ⟨P5, p5, c5, rfl, hip, far_mono hfar hs5⟩; have HB9 := hide (Below.on HBd.out hb); clear hip hfar hb)
        | (go_at_call 66; refine (cut_any _ _ _ _ ms _ _ _ (stepsV ms) _ _ _ lo _ _ _ (endL ms hi) _ _ _ st _ HI2.out HJ2.out (HLO.out.below HBr.out) HEN.out (HST.out.below HBr.out)).mono ?_; rintro e w3 ⟨hgv, hb⟩; rw [HS.out] at hgv; obtain ⟨a3, l3, c3, b3, m3, d3, rfl, hi3, hj3, _, hF3, hG3⟩ := hgv; have e1 : ∀ l, okL 0 l = l := (fun l => by unfold okL; rw [if_pos rfl]); rw [e1] at hi3 hj3; simp only [okS, if_true]; have HV3 := hide (HV3'.out.below hb); have HBc := hide (Below.on HBr.out hb); have hlv := HV3'.out.lt; have hsv := hb.size; have q1 := view_put' (x := .int .i64 (cutAcc 0 (stepsV ms) lo ms.length)) (y := .slice a3 l3 c3) (z := .slice b3 m3 d3) HV3.out; have HBd := hide (below_put (x := .int .i64 (cutAcc 0 (stepsV ms) lo ms.length)) (y := .slice a3 l3 c3) (z := .slice b3 m3 d3) HBc.out hw1); have HJ4 := hide (ints_putF (x := .int .i64 (cutAcc 0 (stepsV ms) lo ms.length)) (y := .slice a3 l3 c3) (z := .slice b3 m3 d3) hj3 hG3 hlv); have HI4 := hide (ints_either2 (x := .int .i64 (cutAcc 0 (stepsV ms) lo ms.length)) (y := .slice a3 l3 c3) (z := .slice b3 m3 d3) hi3 hF3 HIo.out (fun h => by have e2 := hi3.1; have e3 := HIo.out.1; rw [cutD_length] at e2; omega) hlv (Nat.le_refl _)); obtain ⟨⟨u0, u1, u2⟩, _⟩ := HV3.out.cells; obtain ⟨_, g0, g1, g2⟩ := HV3.out.cells; clear v0 v1 v2 fv0 fv1 fv2 hi3 hj3 hF3 hG3 e1; obtain ⟨⟨x0, x1, x2⟩, _⟩ := q1.cells; clear q1 hb))
      go_ret
      exact ⟨HT9.out, HB9.out⟩
end Go.Proofs.YtoagnhppjlcpkaaGreat.V

/-
  Contract: array.work of Sum and Pad, over where entries land.
-/
namespace Go.Proofs.YtoagnhppjlcpkaaGreat.V
set_option maxRecDepth 20000
open Go.RowKit

/-- A list of numbers in new memory. -/
def fFar (N : Nat) (xs : List Int) : Fact := ⟨fun v w => ∃ X n c, v = .slice X n c ∧ Ints w X n xs ∧ Far N X, false⟩
theorem fFar_good (N : Nat) (xs : List Int) : (fFar N xs).Good := ⟨fun _ _ _ ⟨X, n, c, h1, h2, h3⟩ hb => ⟨X, n, c, h1, h2.below hb, h3⟩, fun h => by cases h⟩
theorem replicate_zero_at (n j : Nat) : (List.replicate n (0 : Int))[j]?.getD 0 = 0 := by
  by_cases h : j < n <;> simp [h]

set_option maxRecDepth 100000 in
set_option maxHeartbeats 4000000 in
theorem work_land (k x : Int) (hk : k = 10 ∨ k = 14) (vd va vl vh vs : Value) (Z : Option Addr) (nz cz g n : Nat) (b off m cap : Nat) (da : Option Addr) (dl dc : Nat) (xa : Option Addr) (xl xc : Nat) (xs Q : List Int) (w : World) (hm : 0 < m)
    (h0 : w.cell? ⟨b, off, none⟩ = some (.slice da dl dc)) (h1 : w.cell? ⟨b, off + 1, none⟩ = some (.slice xa xl xc)) (ix : Ints w xa xl xs) (ox : 0 < xl → OffG g xa) (hrow : w.rowIs g 2 n (fun _ => .int .i64 0)) (hQ : xl ≤ Q.length) (hq : ∀ i, i < xl → 0 ≤ Q[i]?.getD 0 ∧ Q[i]?.getD 0 < n)
    (hland : ∀ W, Below w.heap.size w W → Calls Tryz.prog 30 #[.agg #[.int .i64 k, vd, va, vl, vh, vs, .int .i64 x], .slice da dl dc, .slice Z nz cz] W fun e W' => Landed W Q e W' ∧ Below W.heap.size W W') :
    Calls Tryz.prog 19 #[.agg #[.slice Z nz cz, .slice (some ⟨g, 0, none⟩) n n], .agg #[.int .i64 k, vd, va, vl, vh, vs, .int .i64 x], .slice (some ⟨b, off, none⟩) m cap] w fun e w' => e = .returned (.tuple #[]) ∧ w'.rowIs g 2 n (fun j => .int .i64 ((addS (List.replicate n 0) Q xs xl)[j]?.getD 0)) ∧ Save g w w' := by
  have hgl : g < w.heap.size := hrow.lt
  have HB1 := hide ((Below.refl w.heap.size w).alloc (Nat.le_refl _) (.cells #[.slice Z nz cz, .slice (some ⟨g, 0, none⟩) n n] 28))
  have HB2 := hide (HB1.out.alloc HB1.out.size (.cells #[.int .i64 k, vd, va, vl, vh, vs, .int .i64 x] 24))
  have HAR := hide ((ArrAt.new w (.slice Z nz cz) (.slice (some ⟨g, 0, none⟩) n n)).alloc (.cells #[.int .i64 k, vd, va, vl, vh, vs, .int .i64 x] 24))
  have hop := OpAt.new (w.alloc (.cells #[.slice Z nz cz, .slice (some ⟨g, 0, none⟩) n n] 28)) k vd va vl vh vs x
  simp only [World.size_alloc] at hop
  have HOP := hide hop
  obtain ⟨⟨r0, r1⟩, _⟩ := HAR.out.cells
  obtain ⟨o0, o1, o2, o3, o4, o5, o6⟩ := HOP.out.cells
  have k0 := (HB2.out.cell (p := ⟨b, off, none⟩) (lt_of_cell h0)).trans h0
  have k1 := (HB2.out.cell (p := ⟨b, off + 1, none⟩) (lt_of_cell h1)).trans h1
  have i0 : (0 : Int) < (m : Int) := by omega
  have HR := hide hrow
  have HLN := hide hland
  have HX := hide ix
  have HOX := hide ox
  have HQ := hide hQ
  have HQB := hide hq
  clear h0 h1 hrow hop hland ix ox hQ hq
  obtain ⟨q12, q1014⟩ : (k == 12) = false ∧ ((k == 10) = true ∨ ((k == 10) = false ∧ (k == 14) = true)) := by
    rcases hk with rfl | rfl <;> decide
  clear hk
  rcases q1014 with q10 | ⟨q10, q14⟩
  all_goals go_enter Tryz.func19, Tryz.ntmps19
  all_goals go_wp2_with fail
  all_goals (
    refine region_made 14 16 [fIs (.pointer (some ⟨w.heap.size, 1, none⟩)), fIs (.slice (some ⟨g, 0, none⟩) n n), fIs (.agg #[.int .i64 k, vd, va, vl, vh, vs, .int .i64 x]), fIs (.slice (some ⟨b, off, none⟩) m cap), fIs (.pointer (some ⟨b, off, none⟩)), fIs (.pointer (some ⟨b, off, none⟩)), fIs (.slice da dl dc), fIs (.pointer (some ⟨w.heap.size, 0, none⟩)), fIs (.slice Z nz cz), fFar w.heap.size Q, fIs (.slice (some ⟨b, off, none⟩) m cap), fIs (.pointer (some ⟨b, off, none⟩)), fIs (.pointer (some ⟨b, off + 1, none⟩)), fIs (.slice xa xl xc)] (by kernel_rfl) (by kernel_rfl) (by kernel_rfl) (fun _ ⟨_, _⟩ ⟨_, _⟩ _ e h => by cases e; exact h) ⟨fIs_good _, fIs_good _, fIs_good _, fIs_good _, fIs_good _, fIs_good _, fIs_good _, fIs_good _, fIs_good _, fFar_good _ _, fIs_good _, fIs_good _, fIs_good _, fIs_good _, trivial⟩ ?mk ?rest
    case mk =>
      refine ⟨fun u wz hb hd => ?_, fun u wz hb hd => ?_, fun u wz hb hd => ?_, fun u wz hb hd => ?_, fun u wz hb hd => ?_, fun u wz hb hd => ?_, fun u wz hb hd => ?_, fun u wz hb hd => ?_, fun u wz hb hd => ?_, fun u wz hb hd => ?_, fun u wz hb hd => ?_, fun u wz hb hd => ?_, fun u wz hb hd => ?_, fun u wz hb hd => ?_, trivial⟩
      all_goals simp only [Act.put, List.setIfInBounds_toArray, List.set_cons_zero, List.set_cons_succ]
      · go_simp
        exact ⟨rfl, Below.refl _ _, fun h => by cases h⟩
      · have e0 : u 0 = .pointer (some ⟨w.heap.size, 1, none⟩) := hd 0 (by omega) (by kernel_rfl)
        rw [e0]
        have r1' := (hb.cell (p := ⟨w.heap.size, 1, none⟩) (lt_of_cell r1)).trans r1
        go_simp
        exact ⟨rfl, Below.refl _ _, fun h => by cases h⟩
      · have o0' := (hb.cell (p := ⟨w.heap.size + 1, 0, none⟩) (lt_of_cell o0)).trans o0
        have o1' := (hb.cell (p := ⟨w.heap.size + 1, 1, none⟩) (lt_of_cell o1)).trans o1
        have o2' := (hb.cell (p := ⟨w.heap.size + 1, 2, none⟩) (lt_of_cell o2)).trans o2
        have o3' := (hb.cell (p := ⟨w.heap.size + 1, 3, none⟩) (lt_of_cell o3)).trans o3
        have o4' := (hb.cell (p := ⟨w.heap.size + 1, 4, none⟩) (lt_of_cell o4)).trans o4
        have o5' := (hb.cell (p := ⟨w.heap.size + 1, 5, none⟩) (lt_of_cell o5)).trans o5
        have o6' := (hb.cell (p := ⟨w.heap.size + 1, 6, none⟩) (lt_of_cell o6)).trans o6
        go_simp
        exact ⟨rfl, Below.refl _ _, fun h => by cases h⟩
      · go_simp
        exact ⟨rfl, Below.refl _ _, fun h => by cases h⟩
      · have e3 : u 3 = .slice (some ⟨b, off, none⟩) m cap := hd 3 (by omega) (by kernel_rfl)
        rw [e3]
        go_simp
        exact ⟨rfl, Below.refl _ _, fun h => by cases h⟩
      · have e4 : u 4 = .pointer (some ⟨b, off, none⟩) := hd 4 (by omega) (by kernel_rfl)
        rw [e4]
        go_simp
        exact ⟨rfl, Below.refl _ _, fun h => by cases h⟩
      · have e5 : u 5 = .pointer (some ⟨b, off, none⟩) := hd 5 (by omega) (by kernel_rfl)
        rw [e5]
        have k0' := (hb.cell (p := ⟨b, off, none⟩) (lt_of_cell k0)).trans k0
        go_simp
        exact ⟨rfl, Below.refl _ _, fun h => by cases h⟩
      · go_simp
        exact ⟨rfl, Below.refl _ _, fun h => by cases h⟩
      · have e7 : u 7 = .pointer (some ⟨w.heap.size, 0, none⟩) := hd 7 (by omega) (by kernel_rfl)
        rw [e7]
        have r0' := (hb.cell (p := ⟨w.heap.size, 0, none⟩) (lt_of_cell r0)).trans r0
        go_simp
        exact ⟨rfl, Below.refl _ _, fun h => by cases h⟩
      · have e2 : u 2 = .agg #[.int .i64 k, vd, va, vl, vh, vs, .int .i64 x] := hd 2 (by omega) (by kernel_rfl)
        have e6 : u 6 = .slice da dl dc := hd 6 (by omega) (by kernel_rfl)
        have e8 : u 8 = .slice Z nz cz := hd 8 (by omega) (by kernel_rfl)
        rw [e2, e6, e8]
        go_simp
        refine (HLN.out wz (Below.on HB2.out hb)).mono ?_
        rintro e w2 ⟨⟨P2, p2, c2, rfl, hl2, hf2⟩, hb2⟩
        have hs := (Below.on HB2.out hb).size
        exact ⟨⟨P2, p2, c2, rfl, hl2, far_mono hf2 hs⟩, hb2, fun h => by cases h⟩
      · go_simp
        exact ⟨rfl, Below.refl _ _, fun h => by cases h⟩
      · have e10 : u 10 = .slice (some ⟨b, off, none⟩) m cap := hd 10 (by omega) (by kernel_rfl)
        rw [e10]
        go_simp
        exact ⟨rfl, Below.refl _ _, fun h => by cases h⟩
      · have e11 : u 11 = .pointer (some ⟨b, off, none⟩) := hd 11 (by omega) (by kernel_rfl)
        rw [e11]
        go_simp
        exact ⟨rfl, Below.refl _ _, fun h => by cases h⟩
      · have e12 : u 12 = .pointer (some ⟨b, off + 1, none⟩) := hd 12 (by omega) (by kernel_rfl)
        rw [e12]
        have k1' := (hb.cell (p := ⟨b, off + 1, none⟩) (lt_of_cell k1)).trans k1
        go_simp
        exact ⟨rfl, Below.refl _ _, fun h => by cases h⟩
    case rest =>
      intro u wz hb hf hp
      have f0 : u 0 = .pointer (some ⟨w.heap.size, 1, none⟩) := hf 0 (by omega)
      have f1 : u 1 = .slice (some ⟨g, 0, none⟩) n n := hf 1 (by omega)
      have f2 : u 2 = .agg #[.int .i64 k, vd, va, vl, vh, vs, .int .i64 x] := hf 2 (by omega)
      have f3 : u 3 = .slice (some ⟨b, off, none⟩) m cap := hf 3 (by omega)
      have f4 : u 4 = .pointer (some ⟨b, off, none⟩) := hf 4 (by omega)
      have f5 : u 5 = .pointer (some ⟨b, off, none⟩) := hf 5 (by omega)
      have f6 : u 6 = .slice da dl dc := hf 6 (by omega)
      have f7 : u 7 = .pointer (some ⟨w.heap.size, 0, none⟩) := hf 7 (by omega)
      have f8 : u 8 = .slice Z nz cz := hf 8 (by omega)
      obtain ⟨P9, p9, c9, f9, i9, j9⟩ := hf 9 (by omega)
      have f10 : u 10 = .slice (some ⟨b, off, none⟩) m cap := hf 10 (by omega)
      have f11 : u 11 = .pointer (some ⟨b, off, none⟩) := hf 11 (by omega)
      have f12 : u 12 = .pointer (some ⟨b, off + 1, none⟩) := hf 12 (by omega)
      have f13 : u 13 = .slice xa xl xc := hf 13 (by omega)
      refine UptoW.rest 1 14 (by rfl) (by kernel_rfl) ?_
      simp only [List.take, List.drop, putOps, Act.put, List.setIfInBounds_toArray, List.set_cons_zero, List.set_cons_succ, Nat.reduceAdd, f0, f1, f2, f3, f4, f5, f6, f7, f8, f9, f10, f11, f12, f13]
      clear f0 f1 f2 f3 f4 f5 f6 f7 f8 f9 f10 f11 f12 f13 hf hp
      refine wpList_plain rfl (fun K hK => ?_)
      go_simp
      have hfar : ∀ b' o', P9 = some ⟨b', o', none⟩ → b' ≠ g := fun b' o' e => by { have := j9 b' o' e; omega }
      have HBz := hide (Below.on HB2.out hb)
      refine (add_any g n (List.replicate n 0) P9 p9 c9 Q xa xl xc xs wz (by simp) ((HR.out.of_block (HBz.out.block g hgl)).congr (fun j _ => by rw [replicate_zero_at])) i9 (HX.out.below HBz.out) hfar HOX.out (by rw [← i9.1]; exact HQ.out) HQB.out).mono ?_
      rintro e w4 ⟨rfl, hr4, hbut, h04⟩
      refine hK _ _ (wpList_nil ?_)
      clear hK K
      go_wp2
      exact bodyPost_end (v := .tuple #[]) (by simp [results, Tryz.results19, go_sem]) rfl ⟨rfl, hr4, Save.of_below HBz.out hbut h04⟩)
end Go.Proofs.YtoagnhppjlcpkaaGreat.V
