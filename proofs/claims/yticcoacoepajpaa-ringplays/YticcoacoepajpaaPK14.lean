/-
  Contract: a member is told a note. Contract: the next note. Contract: list.Pieces of words.
-/
import Derived.Test.YticcoacoepajpaaPK12
import Derived.Test.YticcoacoepajpaaPK13
import Derived.Test.YticcoacoepajpaaPK6
import Derived.Test.YticcoacoepajpaaPK5
import Derived.Test.YticcoacoepajpaaPK3
namespace Go.Proofs.Yticcoacoepajpaa.V
open Go Go.RowKit
set_option linter.unusedVariables false
set_option linter.unusedSimpArgs false

/-- What belongs to it, and what was made since. -/
def grF (F : Nat → Prop) (W V : World) : Nat → Prop := fun b => F b ∨ (W.heap.size ≤ b ∧ b < V.heap.size)
theorem update_run {W : World} {b : Nat} {M : List (Int × Value)} (h : MpAt W b M) (k : Int) (v : Value) : ∃ o : Obj, ((Instr.mapUpdate 82 (.map (some b)) (.int .i64 k) v).run Try.prog W = .ok () (mapW W b o)) ∧ MpAt (mapW W b o) b (ptM k v M) := by
  obtain ⟨o, h1, h2⟩ := run_ptM h k v
  exact ⟨o, h1 W.drawn, h2⟩
set_option maxHeartbeats 2000000 in
theorem take_no (g : Nat) (F : Nat → Prop) (d n me : Nat) (s : St) (G : Gh) (W : World) (h : MbAt W F g d n me s G) (hk : StOk d n me s) (x : Nt) (y : Sl) (hy : Num W y x.data) (hf : fitsM d n me s x = false) :
    Calls Try.prog 19 #[pm g, ntV x y] W fun e w' => e = .returned (.int .i64 13) ∧ Below W.heap.size W w' := by
  have HE : Hid (∀ V, Below W.heap.size W V → Calls Try.prog 35 #[pm g, ntV x y] V fun e w' => e = .returned (.bool false) ∧ Below V.heap.size V w') := fun V hV => by
    have := expects_any g F d n me s G V (h.below hV) hk x y hy.len.symm
    rw [hf] at this
    exact this
  clear h hk hf hy
  obtain ⟨fr, to, st, data⟩ := x
  obtain ⟨ya, yn, yc⟩ := y
  unfold pm ntV at HE ⊢
  simp only at HE ⊢
  go_enter Try.func19, Try.ntmps19
  go_wp2_with (go_at_call 35; refine (HE.out _ (bl_new _)).mono ?_; rintro e w1 ⟨rfl, hb⟩; have HB := hide hb; clear hb)
  go_ret
  exact ⟨rfl, bl_on (bl_new _) HB.out⟩
set_option maxHeartbeats 2000000 in
theorem take_yes (g : Nat) (F : Nat → Prop) (d n me : Nat) (s : St) (G : Gh) (W : World) (h : MbAt W F g d n me s G) (hk : StOk d n me s) (x : Nt) (y : Sl) (hy : Num W y x.data) (hf : fitsM d n me s x = true) :
    Calls Try.prog 19 #[pm g, ntV x y] W fun e w' => e = .returned (.int .i64 0) ∧ (∃ G', MbAt w' (grF F W w') g d n me (takeM d n me s x) G') ∧ Wr F W w' := by
  have HE : Hid (∀ V, Below W.heap.size W V → Calls Try.prog 35 #[pm g, ntV x y] V fun e w' => e = .returned (.bool true) ∧ Below V.heap.size V w') := fun V hV => by
    have := expects_any g F d n me s G V (h.below hV) hk x y hy.len.symm
    rw [hf] at this
    exact this
  have htm : takeM d n me s x = drainA d n me { s with early := s.early ++ [(x.st.toNat, x.data)] } := by unfold takeM; rw [if_pos hf]
  have hkk := hk.kept x hf
  have hfs := hf
  unfold fitsM at hfs
  simp only [Bool.and_eq_true, decide_eq_true_eq] at hfs
  obtain ⟨f1, f2, f3, f4, f5, f6⟩ := hfs
  obtain ⟨k, hkx⟩ : ∃ k : Nat, x.st = (k : Int) := ⟨x.st.toNat, by omega⟩
  have hkn : x.st.toNat = k := by omega
  rw [hkn] at htm hkk f5
  have hno : lkM (k : Int) G.M = none := by
    cases hl : lkM (k : Int) G.M with
    | none => rfl
    | some v =>
      obtain ⟨z, zs, rfl, hz, _⟩ := h.mon _ v hl
      have hL : lookL k s.early = some zs := (h.mem k zs (by omega)).2 ⟨z, hl, hz⟩
      rw [hL] at f5
      cases f5
  have h65 : y.n ≤ 65536 := by
    have h1 := hkk.esmall k x.data
    rw [← hy.len]
    refine h1 ?_
    show lookL k (s.early ++ [(k, x.data)]) = some x.data
    rw [look_snoc]
    have : lookL k s.early = none := by simpa using f5
    rw [this]
    simp
  have k1 : s.taken ≤ k := by omega
  have k2 : k < notN d n := by omega
  rw [htm]
  obtain ⟨⟨-, -, -, -, -⟩, ⟨-, -, -, -, a11, -⟩, a0, -⟩ := mb_cells h
  have H := hide h
  have HKK := hide hkk
  have HNO := hide hno
  have HYY := hide hy
  clear h hk hf hy htm f1 f2 f3 f4 f5 f6 hkn hkk hno
  obtain ⟨fr, to, st, data⟩ := x
  obtain ⟨ya, yn, yc⟩ := y
  simp only at hkx h65
  subst hkx
  unfold pm ntV at HE ⊢
  simp only at HE ⊢
  go_enter Try.func19, Try.ntmps19
  go_upto_region 3 with (go_at_call 35; refine (HE.out _ (bl_new _)).mono ?_; rintro e w1 ⟨rfl, hb⟩; have HB := hide hb; clear hb)
  have HB1 := hide (bl_on (bl_new _) HB.out)
  have c11 := (HB1.out.cell (p := ⟨g, 11, none⟩) a0).trans a11
  have b2 := (HB.out.cell (p := ⟨W.heap.size, 2, none⟩) (show W.heap.size < (W.alloc _).heap.size by simp)).trans (box_cell W _ _ 2 (.int .i64 (k : Int)) rfl)
  have b3 := (HB.out.cell (p := ⟨W.heap.size, 3, none⟩) (show W.heap.size < (W.alloc _).heap.size by simp)).trans (box_cell W _ _ 3 (.slice ya yn yc) rfl)
  have HY := hide (HYY.out.below HB1.out)
  have ww : w1.heap.size = w1.heap.size := rfl
  clear ww
  refine region_made 9 10 [fIs (.pointer (some ⟨g, 0, none⟩)), fIs (.pointer (some ⟨g, 0, none⟩)), fIs (.pointer (some ⟨g, 11, none⟩)), fIs (.map (some G.eb)), fIs (.pointer (some ⟨W.heap.size, 2, none⟩)), fIs (.int .i64 (k : Int)), fIs (.pointer (some ⟨W.heap.size, 3, none⟩)), fIs (.slice ya yn yc), fNum W.heap.size yn data] (by kernel_rfl) (by kernel_rfl) (by kernel_rfl) (fun _ ⟨_, _⟩ ⟨_, _⟩ _ e h => by cases e; exact h) ⟨fIs_good _, fIs_good _, fIs_good _, fIs_good _, fIs_good _, fIs_good _, fIs_good _, fIs_good _, fNum_good _ _ _, trivial⟩ ?mk ?rest
  case mk =>
    refine ⟨fun u wz hb hd => ?_, fun u wz hb hd => ?_, fun u wz hb hd => ?_, fun u wz hb hd => ?_, fun u wz hb hd => ?_, fun u wz hb hd => ?_, fun u wz hb hd => ?_, fun u wz hb hd => ?_, fun u wz hb hd => ?_, trivial⟩
    all_goals simp only [Act.put, List.setIfInBounds_toArray, List.set_cons_zero, List.set_cons_succ]
    · go_simp
      exact ⟨rfl, Below.refl _ _, fun h => by cases h⟩
    · have e0 : u 0 = .pointer (some ⟨g, 0, none⟩) := hd 0 (by omega) (by kernel_rfl)
      rw [e0]
      go_simp
      exact ⟨rfl, Below.refl _ _, fun h => by cases h⟩
    · have e1 : u 1 = .pointer (some ⟨g, 0, none⟩) := hd 1 (by omega) (by kernel_rfl)
      rw [e1]
      go_simp
      exact ⟨rfl, Below.refl _ _, fun h => by cases h⟩
    · have e2 : u 2 = .pointer (some ⟨g, 11, none⟩) := hd 2 (by omega) (by kernel_rfl)
      rw [e2]
      have c11' := (hb.cell (p := ⟨g, 11, none⟩) (lt_of_cell c11)).trans c11
      go_simp
      exact ⟨rfl, Below.refl _ _, fun h => by cases h⟩
    · go_simp
      exact ⟨rfl, Below.refl _ _, fun h => by cases h⟩
    · have e4 : u 4 = .pointer (some ⟨W.heap.size, 2, none⟩) := hd 4 (by omega) (by kernel_rfl)
      rw [e4]
      have b2' := (hb.cell (p := ⟨W.heap.size, 2, none⟩) (lt_of_cell b2)).trans b2
      go_simp
      exact ⟨rfl, Below.refl _ _, fun h => by cases h⟩
    · go_simp
      exact ⟨rfl, Below.refl _ _, fun h => by cases h⟩
    · have e6 : u 6 = .pointer (some ⟨W.heap.size, 3, none⟩) := hd 6 (by omega) (by kernel_rfl)
      rw [e6]
      have b3' := (hb.cell (p := ⟨W.heap.size, 3, none⟩) (lt_of_cell b3)).trans b3
      go_simp
      exact ⟨rfl, Below.refl _ _, fun h => by cases h⟩
    · have e7 : u 7 = .slice ya yn yc := hd 7 (by omega) (by kernel_rfl)
      rw [e7]
      go_simp
      refine (fresh_any ⟨ya, yn, yc⟩ data wz (HY.out.below hb) h65).mono ?_
      rintro e w4 ⟨⟨g4, rfl, hn4, hg4, hl4⟩, hb4⟩
      have hsz := hb.size
      have hsz1 := HB1.out.size
      exact ⟨⟨g4, rfl, hn4, by omega, hl4⟩, hb4, fun h => by cases h⟩
  case rest =>
    intro u wz hb hf hp
    have f0 : u 0 = .pointer (some ⟨g, 0, none⟩) := hf 0 (by omega)
    have f1 : u 1 = .pointer (some ⟨g, 0, none⟩) := hf 1 (by omega)
    have f2 : u 2 = .pointer (some ⟨g, 11, none⟩) := hf 2 (by omega)
    have f3 : u 3 = .map (some G.eb) := hf 3 (by omega)
    have f4 : u 4 = .pointer (some ⟨W.heap.size, 2, none⟩) := hf 4 (by omega)
    have f5 : u 5 = .int .i64 (k : Int) := hf 5 (by omega)
    have f6 : u 6 = .pointer (some ⟨W.heap.size, 3, none⟩) := hf 6 (by omega)
    have f7 : u 7 = .slice ya yn yc := hf 7 (by omega)
    obtain ⟨g8, f8, n8, l8, m8⟩ := hf 8 (by omega)
    refine UptoW.rest 1 9 (by rfl) (by kernel_rfl) ?_
    simp only [List.take, List.drop, putOps, Act.put, List.setIfInBounds_toArray, List.set_cons_zero, List.set_cons_succ, Nat.reduceAdd, f0, f1, f2, f3, f4, f5, f6, f7, f8]
    clear f0 f1 f2 f3 f4 f5 f6 f7 f8 hf hp
    have hbz : Below W.heap.size W wz := bl_on HB1.out hb
    have hmz := H.out.below hbz
    obtain ⟨o, ho, hmp⟩ := update_run hmz.map (k : Int) (.slice (some ⟨g8, 0, none⟩) yn yn)
    have HBZ := hide hbz
    have HMZ := hide hmz
    have HMP := hide hmp
    have HN8 := hide n8
    clear hb hbz hmz hmp n8
    go_upto_region 4 with fail
    obtain ⟨V5, hV5⟩ : ∃ V, V = mapW wz G.eb o := ⟨_, rfl⟩
    rw [← hV5]
    have hm5 : MbAt V5 (grF F W wz) g d n me { s with early := s.early ++ [(k, data)] } { G with M := ptM (k : Int) (.slice (some ⟨g8, 0, none⟩) yn yn) G.M } := by
      rw [hV5]
      refine (HMZ.out.mono (fun b hb => .inl hb)).insert o k ⟨some ⟨g8, 0, none⟩, yn, yn⟩ data HMP.out k1 k2 HNO.out HN8.out (fun b hO => ?_) (fun j hj => Ap.of_on fun b h1 h2 => ?_) (fun u z hz => Ap.of_on fun b h1 h2 => ?_)
      · obtain ⟨_, off, e⟩ := hO
        simp only [Option.some.injEq, Addr.mk.injEq] at e
        obtain ⟨rfl, _⟩ := e
        exact .inr ⟨l8, m8⟩
      · obtain ⟨_, off, e⟩ := h1
        simp only [Option.some.injEq, Addr.mk.injEq] at e
        obtain ⟨rfl, _⟩ := e
        have := ((H.out.has j hj).2 _ h2).2
        omega
      · obtain ⟨_, off, e⟩ := h1
        simp only [Option.some.injEq, Addr.mk.injEq] at e
        obtain ⟨rfl, _⟩ := e
        obtain ⟨z', zs, e', hz', _⟩ := H.out.mon u _ hz
        obtain rfl := sl_v_inj e'
        have := hz'.lt h2
        omega
    have hw5 : Wr F W V5 := by
      rw [hV5]
      exact (Wr.of_below HBZ.out).put H.out.feb
    have hs5 : V5.heap.size = wz.heap.size := by rw [hV5]; simp [mapW]
    have hu5 := useThose_any g (grF F W wz) d n me _ _ V5 hm5 HKK.out
    unfold pm at hu5
    have HU5 := hide hu5
    have HW5 := hide hw5
    have HS5 := hide hs5
    clear hm5 hw5 hs5 hu5 hV5
    go_wp2_with (go_at_call 36; refine HU5.out.mono ?_; rintro e w6 ⟨rfl, ⟨G6, hm6⟩, hw6⟩; have HM6 := hide hm6; have HW6 := hide hw6; clear hm6 hw6)
    go_ret
    have hs6 := HW6.out.size
    have hs7 := HS5.out
    refine ⟨rfl, ⟨G6, HM6.out.mono fun b hb => ?_⟩, ⟨HW6.out.os.trans HW5.out.os, HW6.out.tape.trans HW5.out.tape, HW6.out.output.trans HW5.out.output, Nat.le_trans HW5.out.size hs6, fun b hb hf => ?_⟩⟩
    · rcases hb with hb | hb
      · exact .inl hb
      · exact .inr (by omega)
    · refine (HW6.out.block b (Nat.lt_of_lt_of_le hb HW5.out.size) (fun e => ?_)).trans (HW5.out.block b hb hf)
      rcases e with e | e
      · exact hf e
      · omega
theorem take_any (g : Nat) (F : Nat → Prop) (d n me : Nat) (s : St) (G : Gh) (W : World) (h : MbAt W F g d n me s G) (hk : StOk d n me s) (x : Nt) (y : Sl) (hy : Num W y x.data) :
    Calls Try.prog 19 #[pm g, ntV x y] W fun e w' => e = .returned (.int .i64 (takeE d n me s x)) ∧ (∃ G', MbAt w' (grF F W w') g d n me (takeM d n me s x) G') ∧ Wr F W w' := by
  cases hf : fitsM d n me s x with
  | true =>
    have e : takeE d n me s x = 0 := by unfold takeE; rw [if_pos hf]
    rw [e]
    exact take_yes g F d n me s G W h hk x y hy hf
  | false =>
    have hnf : ¬ fitsM d n me s x = true := by rw [hf]; decide
    have e : takeE d n me s x = 13 := by unfold takeE; rw [if_neg hnf]
    have e' : takeM d n me s x = s := by unfold takeM; rw [if_neg hnf]
    rw [e, e']
    exact (take_no g F d n me s G W h hk x y hy hf).mono fun e w' ⟨h1, h2⟩ => ⟨h1, ⟨G, (h.below h2).mono fun b hb => .inl hb⟩, Wr.of_below h2⟩
end Go.Proofs.Yticcoacoepajpaa.V
namespace Go.Proofs.Yticcoacoepajpaa.V
open Go Go.RowKit
set_option linter.unusedVariables false
set_option linter.unusedSimpArgs false

/-- Four cells are stored. -/
def set4 (w : World) (C : Nat) (a b c d : Value) : World := (((w.setCell ⟨C, 0, none⟩ a).setCell ⟨C, 1, none⟩ b).setCell ⟨C, 2, none⟩ c).setCell ⟨C, 3, none⟩ d
theorem set4_heap {w : World} {C : Nat} {cur : Array Value} {ty : TypeId} {f : Nat × Nat} {a b c d : Value} (h : w.heap[C]? = some (.cells cur ty f)) (hs : cur.size = 4) : (set4 w C a b c d).heap[C]? = some (.cells #[a, b, c, d] ty f) := by
  obtain ⟨l⟩ := cur
  match l, hs with
  | [x0, x1, x2, x3], _ => simp [set4, World.setCell, Array.getElem?_modify, h]
theorem set4_other {w : World} {C : Nat} {a b c d : Value} {B : Nat} (hB : B ≠ C) : (set4 w C a b c d).heap[B]? = w.heap[B]? := by
  unfold set4
  rw [Below.heap_setCell _ _ _ _ hB, Below.heap_setCell _ _ _ _ hB, Below.heap_setCell _ _ _ _ hB, Below.heap_setCell _ _ _ _ hB]
theorem set4_size {w : World} {C : Nat} {a b c d : Value} : (set4 w C a b c d).heap.size = w.heap.size := by simp [set4, World.setCell]
theorem set4_below {N : Nat} {W w : World} {C : Nat} {a b c d : Value} (h : Below N W w) (hC : N ≤ C) : Below N W (set4 w C a b c d) :=
  ⟨h.os, h.tape, h.output, by rw [set4_size]; exact h.size, fun B hB => (set4_other (by omega)).trans (h.block B hB)⟩
theorem below_both {N : Nat} {W w : World} (h : Below N W w) (a : Addr) (v : Value) : Below N (W.setCell a v) (w.setCell a v) :=
  ⟨h.os, h.tape, h.output, by simp [World.setCell]; exact h.size, fun B hB => by simp only [World.setCell, Array.getElem?_modify, h.block B hB]⟩
def nt0 : Nt := ⟨0, 0, 0, []⟩
theorem size_note : (Try.prog.info? 39).map (·.size) = some 4 := by kernel_rfl
theorem results_next (tmps : Array Value) (w : World) (g : Nat) (c1 c2 c3 c4 x : Value) (fr : Nat × Nat) (hp : tmps.getD 2 undef = .pointer (some ⟨g, 0, none⟩)) (hx : tmps.getD 3 undef = x) (hg : w.heap[g]? = some (.cells #[c1, c2, c3, c4] 39 fr)) :
    (results Try.f17 tmps).run Try.prog w = .ok (.tuple #[.agg #[c1, c2, c3, c4], x]) w := by
  rw [results_cell_tmp Try.results17]
  rw [hp, hx]
  simp [asAddr, run_loadVar_row w g 39 39 #[c1, c2, c3, c4] fr _ hg Try.underlying39 rfl size_note, Result.andThen]
/-- The answer of Next. -/
def NextAns (W : World) (F : Nat → Prop) (g d n me : Nat) (s : St) (G : Gh) (e : Ending) (w' : World) : Prop :=
  ∃ y : Sl, e = .returned (.tuple #[ntV (if canM d n s = true then noteM d n me s else nt0) y, .bool (canM d n s)]) ∧ Num w' y (if canM d n s = true then noteM d n me s else nt0).data ∧ (∀ b, y.On b → W.heap.size ≤ b) ∧ MbAt w' F g d n me (nextM d n s) G ∧ Wr F W w'
theorem next_none {W w' : World} {F : Nat → Prop} {g d n me : Nat} {s : St} {G : Gh} (h : MbAt W F g d n me s G) (hc : canM d n s = false) (hb : Below W.heap.size W w') : NextAns W F g d n me s G (.returned (.tuple #[.agg #[.int .i64 0, .int .i64 0, .int .i64 0, .slice none 0 0], .bool false])) w' := by
  have hn : ¬ canM d n s = true := by rw [hc]; decide
  refine ⟨slZ, ?_, ?_, ?_, ?_, Wr.of_below hb⟩
  · rw [if_neg hn, hc]; rfl
  · rw [if_neg hn]; exact Num.nil _
  · intro b hO
    obtain ⟨h0, _⟩ := hO
    simp [slZ] at h0
  · unfold nextM
    rw [if_neg hn]
    exact h.below hb
set_option maxHeartbeats 2000000 in
theorem next_no1 (g : Nat) (F : Nat → Prop) (d n me : Nat) (s : St) (G : Gh) (W : World) (h : MbAt W F g d n me s G) (hk : StOk d n me s) (hs : s.sent = notN d n) :
    Calls Try.prog 17 #[pm g] W fun e w' => NextAns W F g d n me s G e w' := by
  have hcan : canM d n s = false := by unfold canM; simp; exact fun h => absurd hs h
  have HA : Hid (∀ w', Below W.heap.size W w' → NextAns W F g d n me s G (.returned (.tuple #[.agg #[.int .i64 0, .int .i64 0, .int .i64 0, .slice none 0 0], .bool false])) w') := fun w' hb => next_none h hcan hb
  have HM : Hid (∀ V, Below W.heap.size W V → MbAt V F g d n me s G) := fun V hV => h.below hV
  obtain ⟨⟨-, c1, -, -, -⟩, ⟨-, c8, c9, c10, -⟩, z0, -⟩ := mb_cells h
  have hn := hk.n1
  have h16 := hk.n16
  have q1 : ((s.sent : Int) == (notN d n : Int)) = true := by simp [hs]
  have q2 : (s.sent == notN d n) = true := by simp [hs]
  have q3 : decide (s.sent = notN d n) = true := by simp [hs]
  clear hs
  clear h hk hcan
  unfold pm
  go_enter Try.func17, Try.ntmps17
  go_wp2
  go_quiet (first | (go_at_call 32; exact Calls.quiet_of (notes_any g F d n me s G _ (HM.out _ (below_draws (bl_new _) _)) hn h16)))
  go_wp2
  refine bodyPost_ret (results_next _ _ W.heap.size (.int .i64 0) (.int .i64 0) (.int .i64 0) (.slice none 0 0) _ (0, 0) rfl rfl ?_) rfl ?_
  rotate_left
  · exact HA.out _ (set4_below (below_draws (bl_new _) _) (Nat.le_refl _))
  · exact set4_heap (World.alloc_heap_new _ _) rfl
set_option maxHeartbeats 2000000 in
theorem next_no2 (g : Nat) (F : Nat → Prop) (d n me : Nat) (s : St) (G : Gh) (W : World) (h : MbAt W F g d n me s G) (hk : StOk d n me s) (hs : s.sent ≠ notN d n) (hd : d ≠ 4) (ht : s.taken < s.sent) :
    Calls Try.prog 17 #[pm g] W fun e w' => NextAns W F g d n me s G e w' := by
  have hcan : canM d n s = false := by unfold canM; simp; exact fun _ => ⟨hd, ht⟩
  have HA : Hid (∀ w', Below W.heap.size W w' → NextAns W F g d n me s G (.returned (.tuple #[.agg #[.int .i64 0, .int .i64 0, .int .i64 0, .slice none 0 0], .bool false])) w') := fun w' hb => next_none h hcan hb
  have HM : Hid (∀ V, Below W.heap.size W V → MbAt V F g d n me s G) := fun V hV => h.below hV
  obtain ⟨⟨-, c1, -, -, -⟩, ⟨-, c8, c9, c10, -⟩, z0, -⟩ := mb_cells h
  have hn := hk.n1
  have h16 := hk.n16
  rw [decide_eq_true hd] at c1
  have q1 : ((s.sent : Int) == (notN d n : Int)) = false := by rw [beq_eq_false_iff_ne]; omega
  have q2 : (s.sent == notN d n) = false := by simp [hs]
  have q3 : decide (s.sent = notN d n) = false := by simp [hs]
  clear hs
  clear h hk hcan
  unfold pm
  go_enter Try.func17, Try.ntmps17
  go_wp2
  go_quiet (first | (go_at_call 32; exact Calls.quiet_of (notes_any g F d n me s G _ (HM.out _ (below_draws (bl_new _) _)) hn h16)))
  go_wp2
  refine bodyPost_ret (results_next _ _ W.heap.size (.int .i64 0) (.int .i64 0) (.int .i64 0) (.slice none 0 0) _ (0, 0) rfl rfl ?_) rfl ?_
  rotate_left
  · exact HA.out _ (set4_below (below_draws (bl_new _) _) (Nat.le_refl _))
  · exact set4_heap (World.alloc_heap_new _ _) rfl
def fNew (N : Nat) : Fact := ⟨fun u W => ∃ C, u = .pointer (some ⟨C, 0, none⟩) ∧ W.heap[C]? = some (.cells #[.int .i64 0, .int .i64 0, .int .i64 0, .slice none 0 0] 39 (0, 0)) ∧ N ≤ C, false⟩
theorem fNew_good (N : Nat) : (fNew N).Good := ⟨fun _ _ _ ⟨C, h1, h2, h3⟩ hb => ⟨C, h1, (hb.block C (Array.getElem?_eq_some_iff.1 h2).1).trans h2, h3⟩, fun h => by cases h⟩
def fNote (B : Nat) (a b c : Int) (n : Nat) (xs : List Int) : Fact := ⟨fun u W => ∃ g, u = .agg #[.int .i64 a, .int .i64 b, .int .i64 c, .slice (some ⟨g, 0, none⟩) n n] ∧ Num W ⟨some ⟨g, 0, none⟩, n, n⟩ xs ∧ B ≤ g ∧ g < W.heap.size, false⟩
theorem fNote_good (B : Nat) (a b c : Int) (n : Nat) (xs : List Int) : (fNote B a b c n xs).Good := ⟨fun _ _ _ ⟨g, h1, h2, h3, h4⟩ hb => ⟨g, h1, h2.below hb, h3, Nat.lt_of_lt_of_le h4 hb.size⟩, fun h => by cases h⟩
theorem fns_lit {d n T : Nat} (h1 : 1 ≤ d) (h4 : d ≤ 4) (h2 : 2 ≤ n) (ht : T < notN d n) :
    (d = 4 → farF d (T / (n - 1)) = 47 ∧ pceF d (T / (n - 1)) = 48 ∧ T % (n - 1) = T) ∧
    (d ≠ 4 → farF d (T / (n - 1)) = 42 ∧ (sumsB d n T = true → pceF d (T / (n - 1)) = 43 ∧ T % (n - 1) = T) ∧ (sumsB d n T = false → pceF d (T / (n - 1)) = 45 ∧ (d = 3 → T % (n - 1) = T) ∧ (d = 1 → n - 1 ≤ T ∧ T % (n - 1) + (n - 1) = T) ∧ (d = 3 ∨ d = 1))) := by
  have hr := (step_div h2 ht).1
  have hm := Nat.mod_add_div T (n - 1)
  have hml : T % (n - 1) < n - 1 := Nat.mod_lt _ (by omega)
  obtain ⟨q, hq⟩ : ∃ q, q = T / (n - 1) := ⟨_, rfl⟩
  obtain ⟨m, hmm⟩ : ∃ m, m = T % (n - 1) := ⟨_, rfl⟩
  rw [← hq] at hr hm ⊢
  rw [← hmm] at hm hml ⊢
  clear hq hmm
  have hd : d = 1 ∨ d = 2 ∨ d = 3 ∨ d = 4 := by omega
  have hqq : q = 0 ∨ q = 1 ∧ d = 1 := by
    unfold rdN at hr
    split at hr
    · rename_i e; have : q = 0 ∨ q = 1 := by clear hm; omega
      rcases this with e1 | e1
      · exact .inl e1
      · exact .inr ⟨e1, e⟩
    · left; clear hm; omega
  unfold sumsB farF pceF
  rcases hqq with e | ⟨e, e1⟩
  · subst e
    simp only [Nat.mul_zero, Nat.add_zero] at hm
    subst hm
    rcases hd with rfl | rfl | rfl | rfl <;> simp [hml]
  · subst e e1
    have hge : ¬ T < n - 1 := by omega
    have hmT : m + (n - 1) = T := by omega
    simp [hge, hmT]
    omega
end Go.Proofs.Yticcoacoepajpaa.V
namespace Go.Proofs.Yticcoacoepajpaa.V
open Go Go.RowKit
set_option linter.unusedVariables false
set_option linter.unusedSimpArgs false

theorem info_arrs : (Try.prog.info? 24).map (fun i => (i.zero, i.size, i.bytes)) = some (some (.slice none 0 0), 1, 24) := by kernel_rfl
/-- Where piece p begins. -/
def pcB (len n p : Nat) : Nat := p * len / n
theorem pcB_le {len n p : Nat} (hn : 0 < n) (hp : p ≤ n) : pcB len n p ≤ len := by
  unfold pcB
  exact Nat.div_le_of_le_mul (Nat.mul_le_mul_right len hp)
theorem pcB_mono {len n p q : Nat} (h : p ≤ q) : pcB len n p ≤ pcB len n q := Nat.div_le_div_right (Nat.mul_le_mul_right len h)
/-- Piece p as a list. -/
def pcS (b len n p : Nat) : Sl := ⟨(if len = pcB len n p then some ⟨b, 0, none⟩ else some ⟨b, pcB len n p, none⟩), pcB len n (p + 1) - pcB len n p, len - pcB len n p⟩
/-- The first k lists stand. -/
def LsTo (W : World) (h n k : Nat) (S : Nat → Sl) : Prop := ∃ cur, W.heap[h]? = some (.cells cur 24 (0, 0)) ∧ cur.size = n ∧ ∀ j, j < k → cur[j]? = some (S j).v
theorem LsTo.all {W : World} {h n : Nat} {S : Nat → Sl} (H : LsTo W h n n S) : LsAt W h n S := H
theorem LsTo.lt {W : World} {h n k : Nat} {S : Nat → Sl} (H : LsTo W h n k S) : h < W.heap.size := by
  obtain ⟨cur, hc, _⟩ := H
  exact (Array.getElem?_eq_some_iff.1 hc).1
theorem LsTo.cell {W : World} {h n k : Nat} {S : Nat → Sl} (H : LsTo W h n k S) {j : Nat} (hj : j < n) : ∃ v, W.cell? ⟨h, j, none⟩ = some v := by
  obtain ⟨cur, hc, h1, _⟩ := H
  simp only [World.cell?, hc]
  exact ⟨cur[j]'(by omega), by simp⟩
theorem LsTo.frozen {W : World} {h n k : Nat} {S : Nat → Sl} (H : LsTo W h n k S) (j : Nat) : W.frozen? ⟨h, j, none⟩ = false := by
  obtain ⟨cur, hc, _⟩ := H
  simp [World.frozen?, hc]
theorem LsTo.set {W : World} {h n k : Nat} {S : Nat → Sl} (H : LsTo W h n k S) (hk : k < n) : LsTo (W.setCell ⟨h, k, none⟩ (S k).v) h n (k + 1) S := by
  obtain ⟨cur, hc, h1, h2⟩ := H
  refine ⟨cur.setIfInBounds k (S k).v, ?_, by simp [h1], fun j hj => ?_⟩
  · simp [World.setCell, Array.getElem?_modify, hc]
  · rw [Array.getElem?_setIfInBounds]
    by_cases e : k = j
    · subst e
      rw [if_pos rfl, if_pos (by omega)]
    · rw [if_neg e]
      exact h2 j (by omega)
theorem ls_made (w : World) (n : Nat) (S : Nat → Sl) : LsTo (w.alloc (.cells (madeCells #[.slice none 0 0] n) 24)) w.heap.size n 0 S :=
  ⟨_, World.alloc_heap_new _ _, by simp [madeCells], fun j hj => by omega⟩
theorem tdiv_nat (a b : Nat) : (a : Int).tdiv (b : Int) = ((a / b : Nat) : Int) := by
  rw [Int.tdiv_eq_ediv_of_nonneg (Int.natCast_nonneg _), Int.natCast_ediv]
set_option maxHeartbeats 2000000 in
theorem pieces_any (b len n : Nat) (w : World) (hn : 1 ≤ n) (h16 : n ≤ 16) (h6 : len ≤ 65536) :
    Calls Try.prog 61 #[.slice (some ⟨b, 0, none⟩) len len, .int .i64 (n : Int)] w fun e w' => (e = .returned (.slice (some ⟨w.heap.size, 0, none⟩) n n) ∧ LsAt w' w.heap.size n (pcS b len n)) ∧ Below w.heap.size w w' := by
  have hmk := run_make_row' (P := Try.prog) 22 24 (.slice none 0 0) 24 Try.underlying22 info_arrs rfl .i64 .i64 n (by omega) (by omega)
  go_enter Try.func61, Try.ntmps61
  go_wp2
  go_loopw [11] (fun i wr => ∃ k : Nat, k ≤ n ∧ i = .int .i64 k ∧ LsTo wr w.heap.size n k (pcS b len n) ∧ Below w.heap.size w wr) (fun i _ => n - (intOf i).toNat)
  case atStart => exact ⟨0, Nat.zero_le _, rfl, ls_made w n _, bl_new _⟩
  case round =>
    obtain ⟨k, hk, rfl, hls, hbl⟩ := hrel
    have HL := hide hls
    have HB := hide hbl
    by_cases hlt : k < n
    · obtain ⟨v0, hv0⟩ := hls.cell hlt
      have hf0 := hls.frozen k
      have hz := hls.lt
      have e1 : (k : Int) * (len : Int) = ((k * len : Nat) : Int) := by push_cast; rfl
      have e2 : ((k : Int) + 1) * (len : Int) = (((k + 1) * len : Nat) : Int) := by push_cast; rfl
      have hA : k * len ≤ 16 * 65536 := Nat.mul_le_mul (by omega) h6
      have hB : (k + 1) * len ≤ 16 * 65536 := Nat.mul_le_mul (by omega) h6
      have hlo := pcB_le (len := len) (n := n) (p := k) (by omega) (by omega)
      have hhi := pcB_le (len := len) (n := n) (p := k + 1) (by omega) (by omega)
      have hmo := pcB_mono (len := len) (n := n) (p := k) (q := k + 1) (by omega)
      have t1 : ((k * len : Nat) : Int).tdiv (n : Int) = ((pcB len n k : Nat) : Int) := tdiv_nat _ _
      have t2 : (((k + 1) * len : Nat) : Int).tdiv (n : Int) = ((pcB len n (k + 1) : Nat) : Int) := tdiv_nat _ _
      have HS : Hid ((pcS b len n k).v = .slice (if len = pcB len n k then some ⟨b, 0, none⟩ else some ⟨b, pcB len n k, none⟩) (pcB len n (k + 1) - pcB len n k) (len - pcB len n k)) := rfl
      obtain ⟨L, hL⟩ : ∃ L, L = pcB len n k := ⟨_, rfl⟩
      obtain ⟨R, hR⟩ : ∃ R, R = pcB len n (k + 1) := ⟨_, rfl⟩
      obtain ⟨A, hAA⟩ : ∃ A, A = k * len := ⟨_, rfl⟩
      obtain ⟨B, hBB⟩ : ∃ B, B = (k + 1) * len := ⟨_, rfl⟩
      rw [← hL] at hlo hmo t1 HS
      rw [← hR] at hhi hmo t2 HS
      rw [← hAA] at e1 hA t1
      rw [← hBB] at e2 hB t2
      have W1 : Hid (wrap64 ((k : Int) * (len : Int)) = (A : Int)) := by rw [e1]; exact wrap_small (by omega) (by omega)
      have W1' : Hid (IntKind.i64.wrap ((k : Int) * (len : Int)) = (A : Int)) := by rw [e1]; exact wrapk_small (by omega) (by omega)
      have W2 : Hid (wrap64 (((k : Int) + 1) * (len : Int)) = (B : Int)) := by rw [e2]; exact wrap_small (by omega) (by omega)
      have W2' : Hid (IntKind.i64.wrap (((k : Int) + 1) * (len : Int)) = (B : Int)) := by rw [e2]; exact wrapk_small (by omega) (by omega)
      have W3 : Hid (wrap64 ((k : Int) + 1) = (k : Int) + 1) := wrap_small (by omega) (by omega)
      have W3' : Hid (IntKind.i64.wrap ((k : Int) + 1) = (k : Int) + 1) := wrapk_small (by omega) (by omega)
      have T1 : Hid (wrap64 ((A : Int).tdiv (n : Int)) = (L : Int)) := by rw [t1]; exact wrap_small (by omega) (by omega)
      have T1' : Hid (IntKind.i64.wrap ((A : Int).tdiv (n : Int)) = (L : Int)) := by rw [t1]; exact wrapk_small (by omega) (by omega)
      have T1c : Hid (IntKind.i64.wrap ((A : Int) / (n : Int)) = (L : Int)) := by rw [← Int.tdiv_eq_ediv_of_nonneg (Int.natCast_nonneg _)]; exact T1'.out
      have T1b : Hid (¬ n = 0) := by unfold Hid; omega
      have T2 : Hid (wrap64 ((B : Int).tdiv (n : Int)) = (R : Int)) := by rw [t2]; exact wrap_small (by omega) (by omega)
      have T2' : Hid (IntKind.i64.wrap ((B : Int).tdiv (n : Int)) = (R : Int)) := by rw [t2]; exact wrapk_small (by omega) (by omega)
      have T2c : Hid (IntKind.i64.wrap ((B : Int) / (n : Int)) = (R : Int)) := by rw [← Int.tdiv_eq_ediv_of_nonneg (Int.natCast_nonneg _)]; exact T2'.out
      have T2b : Hid (¬ n = 0) := T1b
      have LR1 : Hid (L ≤ R) := hmo
      have LR2 : Hid (R ≤ len) := hhi
      have LR3 : Hid ((L : Int) ≤ (R : Int)) := by unfold Hid; omega
      have LR4 : Hid ((R : Int) ≤ (len : Int)) := by unfold Hid; omega
      have KZ : Hid ((k : Int) < (n : Int)) := by unfold Hid; omega
      have KN : Hid (k < n) := hlt
      have HZ := hide hz
      clear hls hbl hL hR hAA hBB e1 e2 hA hB t1 t2 hlo hhi hmo
      go_upto_region 5 with fail
      refine region_made 18 19 [fIs (.slice (some ⟨w.heap.size, 0, none⟩) n n), fIs (.int .i64 (k : Int)), fIs (.slice (some ⟨b, 0, none⟩) len len), fIs (.int .i64 (k : Int)), fIs (.slice (some ⟨b, 0, none⟩) len len), fIs (.int .i64 (len : Int)), fIs (.int .i64 (A : Int)), fIs (.int .i64 (n : Int)), fIs (.int .i64 (L : Int)), fIs (.int .i64 (k : Int)), fIs (.int .i64 ((k : Int) + 1)), fIs (.slice (some ⟨b, 0, none⟩) len len), fIs (.int .i64 (len : Int)), fIs (.int .i64 (B : Int)), fIs (.int .i64 (n : Int)), fIs (.int .i64 (R : Int)), fIs (.slice (if len = L then some ⟨b, 0, none⟩ else some ⟨b, L, none⟩) (R - L) (len - L)), fIs (.pointer (some ⟨w.heap.size, k, none⟩))] (by kernel_rfl) (by kernel_rfl) (by kernel_rfl) (fun _ ⟨_, _⟩ ⟨_, _⟩ _ e h => by cases e; exact h) ⟨fIs_good _, fIs_good _, fIs_good _, fIs_good _, fIs_good _, fIs_good _, fIs_good _, fIs_good _, fIs_good _, fIs_good _, fIs_good _, fIs_good _, fIs_good _, fIs_good _, fIs_good _, fIs_good _, fIs_good _, fIs_good _, trivial⟩ ?mk ?rest
      case mk =>
        refine ⟨fun u wz hb hd => ?_, fun u wz hb hd => ?_, fun u wz hb hd => ?_, fun u wz hb hd => ?_, fun u wz hb hd => ?_, fun u wz hb hd => ?_, fun u wz hb hd => ?_, fun u wz hb hd => ?_, fun u wz hb hd => ?_, fun u wz hb hd => ?_, fun u wz hb hd => ?_, fun u wz hb hd => ?_, fun u wz hb hd => ?_, fun u wz hb hd => ?_, fun u wz hb hd => ?_, fun u wz hb hd => ?_, fun u wz hb hd => ?_, fun u wz hb hd => ?_, trivial⟩
        all_goals simp only [Act.put, List.setIfInBounds_toArray, List.set_cons_zero, List.set_cons_succ]
        · go_simp
          exact ⟨rfl, Below.refl _ _, fun h => by cases h⟩
        · go_simp
          exact ⟨rfl, Below.refl _ _, fun h => by cases h⟩
        · go_simp
          exact ⟨rfl, Below.refl _ _, fun h => by cases h⟩
        · go_simp
          exact ⟨rfl, Below.refl _ _, fun h => by cases h⟩
        · go_simp
          exact ⟨rfl, Below.refl _ _, fun h => by cases h⟩
        · have e4 : u 4 = .slice (some ⟨b, 0, none⟩) len len := hd 4 (by omega) (by kernel_rfl)
          rw [e4]
          go_simp
          exact ⟨rfl, Below.refl _ _, fun h => by cases h⟩
        · have e3 : u 3 = .int .i64 (k : Int) := hd 3 (by omega) (by kernel_rfl)
          have e5 : u 5 = .int .i64 (len : Int) := hd 5 (by omega) (by kernel_rfl)
          rw [e3, e5]
          have q1 := W1.out
          have q2 := W1'.out
          go_simp
          exact ⟨rfl, Below.refl _ _, fun h => by cases h⟩
        · go_simp
          exact ⟨rfl, Below.refl _ _, fun h => by cases h⟩
        · have e6 : u 6 = .int .i64 (A : Int) := hd 6 (by omega) (by kernel_rfl)
          have e7 : u 7 = .int .i64 (n : Int) := hd 7 (by omega) (by kernel_rfl)
          rw [e6, e7]
          have q1 := T1.out
          have q2 := T1'.out
          have q3 := T1b.out
          have q4 := T1c.out
          go_simp
          exact ⟨rfl, Below.refl _ _, fun h => by cases h⟩
        · go_simp
          exact ⟨rfl, Below.refl _ _, fun h => by cases h⟩
        · have e9 : u 9 = .int .i64 (k : Int) := hd 9 (by omega) (by kernel_rfl)
          rw [e9]
          have q1 := W3.out
          have q2 := W3'.out
          go_simp
          exact ⟨rfl, Below.refl _ _, fun h => by cases h⟩
        · go_simp
          exact ⟨rfl, Below.refl _ _, fun h => by cases h⟩
        · have e11 : u 11 = .slice (some ⟨b, 0, none⟩) len len := hd 11 (by omega) (by kernel_rfl)
          rw [e11]
          go_simp
          exact ⟨rfl, Below.refl _ _, fun h => by cases h⟩
        · have e10 : u 10 = .int .i64 ((k : Int) + 1) := hd 10 (by omega) (by kernel_rfl)
          have e12 : u 12 = .int .i64 (len : Int) := hd 12 (by omega) (by kernel_rfl)
          rw [e10, e12]
          have q1 := W2.out
          have q2 := W2'.out
          go_simp
          exact ⟨rfl, Below.refl _ _, fun h => by cases h⟩
        · go_simp
          exact ⟨rfl, Below.refl _ _, fun h => by cases h⟩
        · have e13 : u 13 = .int .i64 (B : Int) := hd 13 (by omega) (by kernel_rfl)
          have e14 : u 14 = .int .i64 (n : Int) := hd 14 (by omega) (by kernel_rfl)
          rw [e13, e14]
          have q1 := T2.out
          have q2 := T2'.out
          have q3 := T2b.out
          have q4 := T2c.out
          go_simp
          exact ⟨rfl, Below.refl _ _, fun h => by cases h⟩
        · have e2 : u 2 = .slice (some ⟨b, 0, none⟩) len len := hd 2 (by omega) (by kernel_rfl)
          have e8 : u 8 = .int .i64 (L : Int) := hd 8 (by omega) (by kernel_rfl)
          have e15 : u 15 = .int .i64 (R : Int) := hd 15 (by omega) (by kernel_rfl)
          rw [e2, e8, e15]
          have q1 := LR1.out
          have q2 := LR2.out
          have q3 := LR3.out
          have q4 := LR4.out
          go_simp
          exact ⟨rfl, Below.refl _ _, fun h => by cases h⟩
        · have e0 : u 0 = .slice (some ⟨w.heap.size, 0, none⟩) n n := hd 0 (by omega) (by kernel_rfl)
          have e1 : u 1 = .int .i64 (k : Int) := hd 1 (by omega) (by kernel_rfl)
          rw [e0, e1]
          have q1 := KZ.out
          have q2 := KN.out
          go_simp
          exact ⟨rfl, Below.refl _ _, fun h => by cases h⟩
      case rest =>
        intro u wz hb hf hp
        have f0 : u 0 = .slice (some ⟨w.heap.size, 0, none⟩) n n := hf 0 (by omega)
        have f1 : u 1 = .int .i64 (k : Int) := hf 1 (by omega)
        have f2 : u 2 = .slice (some ⟨b, 0, none⟩) len len := hf 2 (by omega)
        have f3 : u 3 = .int .i64 (k : Int) := hf 3 (by omega)
        have f4 : u 4 = .slice (some ⟨b, 0, none⟩) len len := hf 4 (by omega)
        have f5 : u 5 = .int .i64 (len : Int) := hf 5 (by omega)
        have f6 : u 6 = .int .i64 (A : Int) := hf 6 (by omega)
        have f7 : u 7 = .int .i64 (n : Int) := hf 7 (by omega)
        have f8 : u 8 = .int .i64 (L : Int) := hf 8 (by omega)
        have f9 : u 9 = .int .i64 (k : Int) := hf 9 (by omega)
        have f10 : u 10 = .int .i64 ((k : Int) + 1) := hf 10 (by omega)
        have f11 : u 11 = .slice (some ⟨b, 0, none⟩) len len := hf 11 (by omega)
        have f12 : u 12 = .int .i64 (len : Int) := hf 12 (by omega)
        have f13 : u 13 = .int .i64 (B : Int) := hf 13 (by omega)
        have f14 : u 14 = .int .i64 (n : Int) := hf 14 (by omega)
        have f15 : u 15 = .int .i64 (R : Int) := hf 15 (by omega)
        have f16 : u 16 = .slice (if len = L then some ⟨b, 0, none⟩ else some ⟨b, L, none⟩) (R - L) (len - L) := hf 16 (by omega)
        have f17 : u 17 = .pointer (some ⟨w.heap.size, k, none⟩) := hf 17 (by omega)
        refine UptoW.rest 1 18 (by rfl) (by kernel_rfl) ?_
        simp only [List.take, List.drop, putOps, Act.put, List.setIfInBounds_toArray, List.set_cons_zero, List.set_cons_succ, Nat.reduceAdd, f0, f1, f2, f3, f4, f5, f6, f7, f8, f9, f10, f11, f12, f13, f14, f15, f16, f17]
        clear f0 f1 f2 f3 f4 f5 f6 f7 f8 f9 f10 f11 f12 f13 f14 f15 f16 f17 hf hp
        have HBZ := hide hb
        have zf : wz.frozen? ⟨w.heap.size, k, none⟩ = false := (hb.frozen (p := ⟨w.heap.size, k, none⟩) hz).trans hf0
        have zv := (hb.cell (p := ⟨w.heap.size, k, none⟩) hz).trans hv0
        have zz := Nat.lt_of_lt_of_le hz hb.size
        have w3 := W3.out
        clear hb hf0 hv0
        go_wp2
        go_roundw
        case rel =>
          refine ⟨k + 1, by omega, by go_num, ?_, ?_⟩
          · rw [← HS.out]
            obtain ⟨cur, hc, hl1, hl2⟩ := HL.out
            exact LsTo.set (S := pcS b len n) ⟨cur, (HBZ.out.block _ HZ.out).trans hc, hl1, hl2⟩ hlt
          · exact (HB.out.trans (HBZ.out.mono HB.out.size)).setCell (Nat.le_refl _) _
        case measure => simp [intOf]; omega
    · obtain rfl : k = n := by omega
      clear hls hbl
      go_wp2
      go_ret
      exact ⟨⟨rfl, HL.out.all⟩, HB.out⟩
end Go.Proofs.Yticcoacoepajpaa.V
