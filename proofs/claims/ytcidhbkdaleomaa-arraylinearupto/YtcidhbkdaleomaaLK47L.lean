/-
  ArrayLinear: the walk of the law. ArrayLinear: the walk of the law.
-/
import Derived.Test.YtcidhbkdaleomaaLK46L
import Derived.Test.YtcidhbkdaleomaaLK35L
namespace Go.Proofs.Ytcidhbkdaleomaa.V
set_option maxRecDepth 20000
open Go.RowKit

/-- One array, and more. -/
def withV (v0 : ArrV) (vm : Nat → ArrV) : Nat → ArrV
  | 0 => v0
  | j + 1 => vm j

set_option maxRecDepth 100000 in
set_option maxHeartbeats 4000000 in
theorem linear_err (k by' : Int) (x : Int) (ea : Option Addr) (el ec : Nat) (es : List Int) (pa : Option Addr) (pl pc : Nat) (ps : List Int) (la : Option Addr) (ll lc : Nat) (lo : List Int) (ha : Option Addr) (hl hc : Nat) (hi : List Int) (ta : Option Addr) (tl tc : Nat) (st : List Int) (da : Option Addr) (dl dc : Nat) (ds : List Int) (xa : Option Addr) (n xc : Nat) (fa : Option Addr) (fl fc : Nat) (gs : List Int) (ya : Option Addr) (m yc : Nat) (ma : Option Addr) (q mc : Nat) (vm : Nat → ArrV) (w : World)
    (he : Lst w ea el ec es) (hp : Lst w pa pl pc ps) (hlo : Lst w la ll lc lo) (hhi : Lst w ha hl hc hi) (hst : Lst w ta tl tc st) (b0 : el ≤ 1048576) (b1 : pl ≤ 1048576) (b2 : ll ≤ 1048576) (b3 : hl ≤ 1048576) (b4 : tl ≤ 1048576) (hda : Lst w da dl dc ds) (hdb : Lst w fa fl fc gs) (hma : q = 0 ∨ ∃ b off, ma = some ⟨b, off, none⟩ ∧ ∀ j, j < q → (w.cell? ⟨b, off + j * 2, none⟩ = some (vm j).d ∧ w.cell? ⟨b, off + j * 2 + 1, none⟩ = some (vm j).x) ∧ Lst w (vm j).da (vm j).dl (vm j).dc (vm j).ds) (hmn : ma = none → q = 0 ∧ mc = 0) (hq : q ≤ 1048575) (hk : linK k) (hgd : Alikes 2 (twoV2 da dl dc ds xa n xc fa fl fc gs ya m yc)) (hE : doE k es ps lo hi st (1 + q) (argsV ds n vm) ≠ 0) :
    Calls Try.prog 6 #[.agg #[.int .i64 k, .slice ea el ec, .slice pa pl pc, .slice la ll lc, .slice ha hl hc, .slice ta tl tc, .int .i64 x], .agg #[.slice da dl dc, .slice xa n xc], .agg #[.slice fa fl fc, .slice ya m yc], .slice ma q mc, .int .i64 by'] w fun e w' => e = .returned (.bool true) ∧ Below w.heap.size w w' := by
  have HYL := hide hk
  have HGD := hide hgd
  have h4 := fun (W : World) => FourAt.new (w := W) (B := W.heap.size) (.slice da dl dc) (.slice xa n xc) (.slice fa fl fc) (.slice ya m yc) rfl
  have HAL : Hid (∀ W, Below w.heap.size w W → Calls Try.prog 19 #[.slice (some ⟨W.heap.size, 0, none⟩) 2 2] (W.alloc (.cells #[.slice da dl dc, .slice xa n xc, .slice fa fl fc, .slice ya m yc] 28)) fun e w' => AlikePost 2 (twoV2 da dl dc ds xa n xc fa fl fc gs ya m yc) e ∧ Below (W.alloc (.cells #[.slice da dl dc, .slice xa n xc, .slice fa fl fc, .slice ya m yc] 28)).heap.size (W.alloc (.cells #[.slice da dl dc, .slice xa n xc, .slice fa fl fc, .slice ya m yc] 28)) w') := fun W hW => by
    obtain ⟨k0, k1, k2, k3⟩ := (h4 W).cells
    have hB4 := hW.alloc hW.size (.cells #[.slice da dl dc, .slice xa n xc, .slice fa fl fc, .slice ya m yc] 28)
    exact alike_any W.heap.size 2 2 (twoV2 da dl dc ds xa n xc fa fl fc gs ya m yc) _ (by omega) (by omega) (fun j hj => by
      have : j = 0 ∨ j = 1 := by omega
      rcases this with rfl | rfl
      · exact ⟨k0, k1, hda.1.below hB4⟩
      · exact ⟨k2, k3, hdb.1.below hB4⟩)
  clear h4
  have HMA : Hid (∀ W, Below w.heap.size w W → (q = 0 ∨ ∃ b off, ma = some ⟨b, off, none⟩ ∧ ∀ j, j < q → W.cell? ⟨b, off + j * 2, none⟩ = some (vm j).d ∧ W.cell? ⟨b, off + j * 2 + 1, none⟩ = some (vm j).x)) := fun W hW => by
    rcases hma with h | ⟨b, off, e, h⟩
    · exact .inl h
    · exact .inr ⟨b, off, e, fun j hj => ⟨(hW.cell (p := ⟨b, off + j * 2, none⟩) (lt_of_cell (h j hj).1.1)).trans (h j hj).1.1, (hW.cell (p := ⟨b, off + j * 2 + 1, none⟩) (lt_of_cell (h j hj).1.2)).trans (h j hj).1.2⟩⟩
  have HMN := hide hmn
  have HDB : Hid (∀ W B4 cap4, Below w.heap.size w W → W.cell? ⟨B4, 0, none⟩ = some (.slice da dl dc) → W.cell? ⟨B4, 1, none⟩ = some (.slice xa n xc) → MoreAt W B4 q vm → Calls Try.prog 24 #[.agg #[.int .i64 k, .slice ea el ec, .slice pa pl pc, .slice la ll lc, .slice ha hl hc, .slice ta tl tc, .int .i64 x], .slice (some ⟨B4, 0, none⟩) (1 + q) cap4] W fun e w' => e = .returned (.tuple #[.agg #[.slice none 0 0, .slice none 0 0], .int .i64 (doE k es ps lo hi st (1 + q) (argsV ds n vm))]) ∧ Below W.heap.size W w') := fun W B4 cap4 hW k0 k1 km => by
    have hcg : doE k es ps lo hi st (1 + q) (withV ⟨da, dl, dc, ds, xa, n, xc⟩ vm) = doE k es ps lo hi st (1 + q) (argsV ds n vm) := doE_congr (fun j hj => by
      match j with
      | 0 => exact ⟨rfl, rfl⟩
      | j + 1 => exact ⟨rfl, rfl⟩)
    have := Do_bad k x ea el ec es pa pl pc ps la ll lc lo ha hl hc hi ta tl tc st (some ⟨B4, 0, none⟩) (1 + q) cap4 (withV ⟨da, dl, dc, ds, xa, n, xc⟩ vm) W (he.below hW) (hp.below hW) (hlo.below hW) (hhi.below hW) (hst.below hW) b0 b1 b2 b3 b4 (.inr ⟨B4, 0, rfl, fun j hj => by
      match j, hj with
      | 0, _ => exact ⟨k0, k1, hda.below hW⟩
      | j + 1, hj =>
        have hm := km j (by omega)
        rw [show 2 + j * 2 = 0 + (j + 1) * 2 by omega] at hm
        rcases hma with h | ⟨b, off, e', h⟩
        · omega
        · exact ⟨hm.1, hm.2, (h j (by omega)).2.below hW⟩⟩) (by omega) (by rw [hcg]; exact hE)
    rw [hcg] at this
    exact this
  obtain ⟨E, hEE⟩ : ∃ E, doE k es ps lo hi st (1 + q) (argsV ds n vm) = E := ⟨_, rfl⟩
  rw [hEE] at HDB hE
  have hEb : (E != 0) = true := by simp [hE]
  have hEb' : (E == 0) = false := by simp [hE]
  clear hk hgd hda hdb hma hmn hE hEE he hp hlo hhi hst
  have HB1 := (Below.refl w.heap.size w).alloc (Nat.le_refl _) (.cells #[.int .i64 k, .slice ea el ec, .slice pa pl pc, .slice la ll lc, .slice ha hl hc, .slice ta tl tc, .int .i64 x] 24)
  have HB2 := HB1.alloc HB1.size (.cells #[.slice da dl dc, .slice xa n xc] 28)
  have HBW := hide (HB2.alloc HB2.size (.cells #[.slice fa fl fc, .slice ya m yc] 28))
  have r0 := ((OpAt.new w k (.slice ea el ec) (.slice pa pl pc) (.slice la ll lc) (.slice ha hl hc) (.slice ta tl tc) x).alloc (.cells #[.slice da dl dc, .slice xa n xc] 28)).alloc (.cells #[.slice fa fl fc, .slice ya m yc] 28)
  have r1 := (ArrAt.new (w.alloc (.cells #[.int .i64 k, .slice ea el ec, .slice pa pl pc, .slice la ll lc, .slice ha hl hc, .slice ta tl tc, .int .i64 x] 24)) (.slice da dl dc) (.slice xa n xc)).alloc (.cells #[.slice fa fl fc, .slice ya m yc] 28)
  have r2 := ArrAt.new ((w.alloc (.cells #[.int .i64 k, .slice ea el ec, .slice pa pl pc, .slice la ll lc, .slice ha hl hc, .slice ta tl tc, .int .i64 x] 24)).alloc (.cells #[.slice da dl dc, .slice xa n xc] 28)) (.slice fa fl fc) (.slice ya m yc)
  simp only [World.size_alloc] at r1 r2
  have HO0 := hide r0
  have HA0 := hide r1
  have HA1 := hide r2
  clear r0 r1 r2 HB1 HB2
  go_enter Try.func6, Try.ntmps6
  go_wp2_with (first
    | (go_at_call 19; refine (HAL.out _ HBa.out).mono ?_; rintro e w2 ⟨hp, hb⟩; obtain ⟨rfl, _⟩ := hp.resolve_right (fun h => h.2 HGD.out); have HB4 := hide ((HBa.out.alloc HBa.out.size (.cells #[.slice da dl dc, .slice xa n xc, .slice fa fl fc, .slice ya m yc] 28))); have HBb := hide (Below.on HB4.out hb); have HO2 := hide ((HO1.out.alloc (.cells #[.slice da dl dc, .slice xa n xc, .slice fa fl fc, .slice ya m yc] 28)).below hb); have HA2 := hide ((HAa.out.alloc (.cells #[.slice da dl dc, .slice xa n xc, .slice fa fl fc, .slice ya m yc] 28)).below hb); have HA3 := hide ((HAb.out.alloc (.cells #[.slice da dl dc, .slice xa n xc, .slice fa fl fc, .slice ya m yc] 28)).below hb); clear hp hb o0 o1 o2 o3 o4 o5 o6 a0 a1 b0' b1'; obtain ⟨o0, o1, o2, o3, o4, o5, o6⟩ := HO2.out.cells; obtain ⟨⟨a0, a1⟩, _⟩ := HA2.out.cells; obtain ⟨⟨b0', b1'⟩, _⟩ := HA3.out.cells)
    | (go_at_call 23; refine (linear_yes _ _ HYL.out).mono ?_; rintro e w' ⟨rfl, hw'⟩; obtain rfl := hw'.symm)
    | (go_at_call 22; refine (alive2_any _).mono ?_; rintro e w1 ⟨rfl, hb⟩; have HBa := hide (Below.on HBW.out hb); have HO1 := hide (HO0.out.below hb); have HAa := hide (HA0.out.below hb); have HAb := hide (HA1.out.below hb); clear hb; obtain ⟨o0, o1, o2, o3, o4, o5, o6⟩ := HO1.out.cells; obtain ⟨⟨a0, a1⟩, _⟩ := HAa.out.cells; obtain ⟨⟨b0', b1'⟩, _⟩ := HAb.out.cells))
  refine region_made1 10 12 8 [fIs (.agg #[.int .i64 k, .slice ea el ec, .slice pa pl pc, .slice la ll lc, .slice ha hl hc, .slice ta tl tc, .int .i64 x]), fIs (.agg #[.slice da dl dc, .slice xa n xc]), fRow2 w2.heap.size (.slice da dl dc) (.slice xa n xc), fIs (.slice ma q mc), fArgs w2.heap.size (.slice da dl dc) (.slice xa n xc) q vm, fIs (.tuple #[.agg #[.slice none 0 0, .slice none 0 0], .int .i64 E]), fIs (.tuple #[.agg #[.slice none 0 0, .slice none 0 0], .int .i64 E]), fIs (.agg #[.slice none 0 0, .slice none 0 0]), fIs (.int .i64 E), fArr w2.heap.size] (by kernel_rfl) (by kernel_rfl) (by kernel_rfl) (fun _ ⟨_, _⟩ ⟨_, _⟩ _ e h => by cases e; exact h) ⟨fIs_good _, fIs_good _, fRow2_good _ _ _, fIs_good _, fArgs_good _ _ _ _ _, fIs_good _, fIs_good _, fIs_good _, fIs_good _, fArr_good _, trivial⟩ ?pure ?mk ?rest
  case pure =>
    intro o ho u wz hb hd
    cases ho
    have e5 : u 6 = .tuple #[.agg #[.slice none 0 0, .slice none 0 0], .int .i64 E] := hd 6 (by omega) (by kernel_rfl)
    refine ⟨.int .i64 E, fun w3 => ?_⟩
    simp only [List.take, putOps, Act.put, List.setIfInBounds_toArray, List.set_cons_zero, List.set_cons_succ, Nat.reduceAdd, e5]
    go_simp
  case mk =>
    refine ⟨fun u wz hb hd => ?_, fun u wz hb hd => ?_, fun u wz hb hd => ?_, fun u wz hb hd => ?_, fun u wz hb hd => ?_, fun u wz hb hd => ?_, fun u wz hb hd => ?_, fun u wz hb hd => ?_, fun u wz hb hd => ?_, fun u wz hb hd => ?_, trivial⟩
    all_goals simp only [Act.put, List.setIfInBounds_toArray, List.set_cons_zero, List.set_cons_succ]
    · have o0' := (hb.cell (p := ⟨w.heap.size, 0, none⟩) (lt_of_cell o0)).trans o0
      have o1' := (hb.cell (p := ⟨w.heap.size, 1, none⟩) (lt_of_cell o1)).trans o1
      have o2' := (hb.cell (p := ⟨w.heap.size, 2, none⟩) (lt_of_cell o2)).trans o2
      have o3' := (hb.cell (p := ⟨w.heap.size, 3, none⟩) (lt_of_cell o3)).trans o3
      have o4' := (hb.cell (p := ⟨w.heap.size, 4, none⟩) (lt_of_cell o4)).trans o4
      have o5' := (hb.cell (p := ⟨w.heap.size, 5, none⟩) (lt_of_cell o5)).trans o5
      have o6' := (hb.cell (p := ⟨w.heap.size, 6, none⟩) (lt_of_cell o6)).trans o6
      go_simp
      exact ⟨rfl, Below.refl _ _, fun h => by cases h⟩
    · have a0' := (hb.cell (p := ⟨w.heap.size + 1, 0, none⟩) (lt_of_cell a0)).trans a0
      have a1' := (hb.cell (p := ⟨w.heap.size + 1, 1, none⟩) (lt_of_cell a1)).trans a1
      go_simp
      exact ⟨rfl, Below.refl _ _, fun h => by cases h⟩
    · have e1 : u 1 = .agg #[.slice da dl dc, .slice xa n xc] := hd 1 (by omega) (by kernel_rfl)
      rw [e1]
      go_simp
      exact ⟨⟨_, rfl, ArrAt.new _ _ _, hb.size⟩, (Below.refl _ _).alloc (Nat.le_refl _) _, fun h => by cases h⟩
    · go_simp
      exact ⟨rfl, Below.refl _ _, fun h => by cases h⟩
    · obtain ⟨B2, e2, hB2, hN2⟩ := hd 2 (by omega) (by kernel_rfl)
      have e3 : u 3 = .slice ma q mc := hd 3 (by omega) (by kernel_rfl)
      rw [e2, e3]
      refine wp_append_more (.tmp 36) (.tmp 37) 41 28 rfl Try.underlying41 info_arr w2.heap.size B2 q mc (.slice da dl dc) (.slice xa n xc) ma vm rfl rfl hB2 hN2 hb.size (HMA.out _ (Below.on HBb.out hb)) HMN.out (by omega) (fun v w3 hv hbb => ?_)
      exact ⟨v, rfl, hv, hbb, fun h => by cases h⟩
    · have e0 : u 0 = .agg #[.int .i64 k, .slice ea el ec, .slice pa pl pc, .slice la ll lc, .slice ha hl hc, .slice ta tl tc, .int .i64 x] := hd 0 (by omega) (by kernel_rfl)
      obtain ⟨B4, cap4, e4, ⟨k0, k1, km⟩, hN4⟩ := hd 4 (by omega) (by kernel_rfl)
      rw [e0, e4]
      go_simp
      refine (HDB.out wz B4 cap4 (Below.on HBb.out hb) k0 k1 km).mono ?_
      rintro e w3 ⟨rfl, hb2⟩
      exact ⟨rfl, hb2, fun h => by cases h⟩
    · have e5 : u 5 = .tuple #[.agg #[.slice none 0 0, .slice none 0 0], .int .i64 E] := hd 5 (by omega) (by kernel_rfl)
      rw [e5]
      go_simp
      exact ⟨rfl, Below.refl _ _, fun h => by cases h⟩
    · have e5 : u 6 = .tuple #[.agg #[.slice none 0 0, .slice none 0 0], .int .i64 E] := hd 6 (by omega) (by kernel_rfl)
      rw [e5]
      go_simp
      exact ⟨rfl, Below.refl _ _, fun h => by cases h⟩
    · have e5 : u 6 = .tuple #[.agg #[.slice none 0 0, .slice none 0 0], .int .i64 E] := hd 6 (by omega) (by kernel_rfl)
      rw [e5]
      go_simp
      exact ⟨rfl, Below.refl _ _, fun h => by cases h⟩
    · go_simp
      exact ⟨⟨_, rfl, ArrAt.new _ _ _, hb.size⟩, (Below.refl _ _).alloc (Nat.le_refl _) _, fun _ b hb => by simp [blk] at hb; omega⟩
  case rest =>
    intro u wz hb hf hp
    have f0 : u 0 = .agg #[.int .i64 k, .slice ea el ec, .slice pa pl pc, .slice la ll lc, .slice ha hl hc, .slice ta tl tc, .int .i64 x] := hf 0 (by omega)
    have f1 : u 1 = .agg #[.slice da dl dc, .slice xa n xc] := hf 1 (by omega)
    obtain ⟨_, f2, _, _⟩ := hf 2 (by omega)
    have f3 : u 3 = .slice ma q mc := hf 3 (by omega)
    obtain ⟨_, _, f4, _, _⟩ := hf 4 (by omega)
    have f5 : u 5 = .tuple #[.agg #[.slice none 0 0, .slice none 0 0], .int .i64 E] := hf 5 (by omega)
    have f6 : u 6 = .tuple #[.agg #[.slice none 0 0, .slice none 0 0], .int .i64 E] := hf 6 (by omega)
    have f7 : u 7 = .agg #[.slice none 0 0, .slice none 0 0] := hf 7 (by omega)
    have f8 : u 8 = .int .i64 E := hf 8 (by omega)
    obtain ⟨Cx, f9, i9, n9⟩ := hf 9 (by omega)
    refine UptoW.rest 2 10 (by rfl) (by kernel_rfl) ?_
    simp only [List.take, List.drop, putOps, Act.put, List.setIfInBounds_toArray, List.set_cons_zero, List.set_cons_succ, Nat.reduceAdd, f0, f1, f2, f3, f4, f5, f6, f7, f8, f9]
    clear f0 f1 f2 f3 f4 f5 f6 f7 f8 f9 hf hp o0 o1 o2 o3 o4 o5 o6 a0 a1 b0' b1'
    obtain ⟨⟨c0, c1⟩, z0, z1⟩ := i9.cells
    refine wpList_plain rfl (fun K hK => ?_)
    go_simp
    refine hK _ _ ?_
    clear hK K c0 c1 z0 z1
    refine wpList_plain rfl (fun K hK => ?_)
    go_simp
    refine hK _ _ (wpList_nil ?_)
    clear hK K
    have Ax := i9.put (.slice none 0 0) (.slice none 0 0)
    have Bx := (hb.setCell (p := ⟨Cx, 0, none⟩) n9 (.slice none 0 0)).setCell (p := ⟨Cx, 1, none⟩) n9 (.slice none 0 0)
    have hlC := i9.lt
    clear i9
    have hsC : ((wz.setCell ⟨Cx, 0, none⟩ (.slice none 0 0)).setCell ⟨Cx, 1, none⟩ (.slice none 0 0)).heap.size = wz.heap.size := by simp
    generalize (wz.setCell ⟨Cx, 0, none⟩ (.slice none 0 0)).setCell ⟨Cx, 1, none⟩ (.slice none 0 0) = Wx at *
    have HAx := hide Ax
    have HBx := hide Bx
    have HCx := hide n9
    clear Ax Bx hb hlC hsC n9
    go_wp2
    go_ret
    exact ⟨rfl, Below.on HBb.out HBx.out⟩

end Go.Proofs.Ytcidhbkdaleomaa.V
namespace Go.Proofs.Ytcidhbkdaleomaa.V
set_option maxRecDepth 20000
open Go.RowKit

theorem lst_of_some {w : World} {b n c : Nat} {xs : List Int} (h : Ints w (some ⟨b, 0, none⟩) n xs) (hc : n ≤ c) : Lst w (some ⟨b, 0, none⟩) n c xs := ⟨h, hc, fun e => by cases e⟩

set_option maxRecDepth 100000 in
set_option maxHeartbeats 4000000 in
theorem linear_all (k by' : Int) (x : Int) (ea : Option Addr) (el ec : Nat) (pa : Option Addr) (pl pc : Nat) (la : Option Addr) (ll lc : Nat) (ha : Option Addr) (hl hc : Nat) (ta : Option Addr) (tl tc : Nat) (da : Option Addr) (dl dc : Nat) (ds : List Int) (xa : Option Addr) (n xc : Nat) (xs : List Int) (fa : Option Addr) (fl fc : Nat) (ya : Option Addr) (yc : Nat) (ys : List Int) (ma : Option Addr) (q mc : Nat) (vm : Nat → ArrV) (w : World) (L : List Int) (N : Nat) (f : List Int → List Int)
    (hda : Lst w da dl dc ds) (hxa : Ints w xa n xs) (hxc : n ≤ xc) (hdb : Lst w fa fl fc ds) (hxb : Ints w ya n ys) (hyc : n ≤ yc) (hma : q = 0 ∨ ∃ b off, ma = some ⟨b, off, none⟩ ∧ ∀ j, j < q → (w.cell? ⟨b, off + j * 2, none⟩ = some (vm j).d ∧ w.cell? ⟨b, off + j * 2 + 1, none⟩ = some (vm j).x) ∧ Lst w (vm j).da (vm j).dl (vm j).dc (vm j).ds) (hmn : ma = none → q = 0 ∧ mc = 0) (hq : q ≤ 1048575) (hk : linK k) (hby : -9223372036854775808 ≤ by' ∧ by' ≤ 9223372036854775807) (hae : arrE ds n = 0) (hlin : IsLin f n N) (haL : arrE L N = 0)
    (hdo : ∀ (W : World) (b cap : Nat) (da : Option Addr) (dl dc : Nat) (xa : Option Addr) (xc : Nat) (xs : List Int), Below w.heap.size w W → W.cell? ⟨b, 0, none⟩ = some (.slice da dl dc) → W.cell? ⟨b, 1, none⟩ = some (.slice xa n xc) → MoreAt W b q vm → Lst W da dl dc ds → Ints W xa n xs → n ≤ xc →
      Calls Try.prog 24 #[.agg #[.int .i64 k, .slice ea el ec, .slice pa pl pc, .slice la ll lc, .slice ha hl hc, .slice ta tl tc, .int .i64 x], .slice (some ⟨b, 0, none⟩) (1 + q) cap] W fun e W' => DoesTo W L (f xs) N e W' ∧ Below W.heap.size W W') :
    Calls Try.prog 6 #[.agg #[.int .i64 k, .slice ea el ec, .slice pa pl pc, .slice la ll lc, .slice ha hl hc, .slice ta tl tc, .int .i64 x], .agg #[.slice da dl dc, .slice xa n xc], .agg #[.slice fa fl fc, .slice ya n yc], .slice ma q mc, .int .i64 by'] w fun e w' => e = .returned (.bool true) ∧ Below w.heap.size w w' := by
  have HYL := hide hk
  have HGD : Hid (Alikes 2 (twoV2 da dl dc ds xa n xc fa fl fc ds ya n yc)) := fun j hj => by
    have : j = 0 ∨ j = 1 := by omega
    rcases this with rfl | rfl
    · exact ⟨hae, rfl⟩
    · exact ⟨hae, rfl⟩
  have h4 := fun (W : World) => FourAt.new (w := W) (B := W.heap.size) (.slice da dl dc) (.slice xa n xc) (.slice fa fl fc) (.slice ya n yc) rfl
  have HAL : Hid (∀ W, Below w.heap.size w W → Calls Try.prog 19 #[.slice (some ⟨W.heap.size, 0, none⟩) 2 2] (W.alloc (.cells #[.slice da dl dc, .slice xa n xc, .slice fa fl fc, .slice ya n yc] 28)) fun e w' => AlikePost 2 (twoV2 da dl dc ds xa n xc fa fl fc ds ya n yc) e ∧ Below (W.alloc (.cells #[.slice da dl dc, .slice xa n xc, .slice fa fl fc, .slice ya n yc] 28)).heap.size (W.alloc (.cells #[.slice da dl dc, .slice xa n xc, .slice fa fl fc, .slice ya n yc] 28)) w') := fun W hW => by
    obtain ⟨k0, k1, k2, k3⟩ := (h4 W).cells
    have hB4 := hW.alloc hW.size (.cells #[.slice da dl dc, .slice xa n xc, .slice fa fl fc, .slice ya n yc] 28)
    exact alike_any W.heap.size 2 2 (twoV2 da dl dc ds xa n xc fa fl fc ds ya n yc) _ (by omega) (by omega) (fun j hj => by
      have : j = 0 ∨ j = 1 := by omega
      rcases this with rfl | rfl
      · exact ⟨k0, k1, hda.1.below hB4⟩
      · exact ⟨k2, k3, hdb.1.below hB4⟩)
  clear h4
  have HMA : Hid (∀ W, Below w.heap.size w W → (q = 0 ∨ ∃ b off, ma = some ⟨b, off, none⟩ ∧ ∀ j, j < q → W.cell? ⟨b, off + j * 2, none⟩ = some (vm j).d ∧ W.cell? ⟨b, off + j * 2 + 1, none⟩ = some (vm j).x)) := fun W hW => by
    rcases hma with h | ⟨b, off, e, h⟩
    · exact .inl h
    · exact .inr ⟨b, off, e, fun j hj => ⟨(hW.cell (p := ⟨b, off + j * 2, none⟩) (lt_of_cell (h j hj).1.1)).trans (h j hj).1.1, (hW.cell (p := ⟨b, off + j * 2 + 1, none⟩) (lt_of_cell (h j hj).1.2)).trans (h j hj).1.2⟩⟩
  have HMN := hide hmn
  have HDO := hide hdo
  have HAE := hide hae
  have HAN := hide haL
  have HBY := hide hby
  have HLW := hide (lin_law hlin by' xs ys hxa.1 hxb.1 hxa.2.2.1 hxb.2.2.1)
  have HDA := hide hda
  have HDB := hide hdb
  have HXA := hide hxa
  have HXB := hide hxb
  clear hk hda hdb hma hmn hxa hxb hdo hae haL hlin hby
  have HB1 := (Below.refl w.heap.size w).alloc (Nat.le_refl _) (.cells #[.int .i64 k, .slice ea el ec, .slice pa pl pc, .slice la ll lc, .slice ha hl hc, .slice ta tl tc, .int .i64 x] 24)
  have HB2 := HB1.alloc HB1.size (.cells #[.slice da dl dc, .slice xa n xc] 28)
  have HBW := hide (HB2.alloc HB2.size (.cells #[.slice fa fl fc, .slice ya n yc] 28))
  have r0 := ((OpAt.new w k (.slice ea el ec) (.slice pa pl pc) (.slice la ll lc) (.slice ha hl hc) (.slice ta tl tc) x).alloc (.cells #[.slice da dl dc, .slice xa n xc] 28)).alloc (.cells #[.slice fa fl fc, .slice ya n yc] 28)
  have r1 := (ArrAt.new (w.alloc (.cells #[.int .i64 k, .slice ea el ec, .slice pa pl pc, .slice la ll lc, .slice ha hl hc, .slice ta tl tc, .int .i64 x] 24)) (.slice da dl dc) (.slice xa n xc)).alloc (.cells #[.slice fa fl fc, .slice ya n yc] 28)
  have r2 := ArrAt.new ((w.alloc (.cells #[.int .i64 k, .slice ea el ec, .slice pa pl pc, .slice la ll lc, .slice ha hl hc, .slice ta tl tc, .int .i64 x] 24)).alloc (.cells #[.slice da dl dc, .slice xa n xc] 28)) (.slice fa fl fc) (.slice ya n yc)
  simp only [World.size_alloc] at r1 r2
  have HO0 := hide r0
  have HA0 := hide r1
  have HA1 := hide r2
  clear r0 r1 r2 HB1 HB2
  go_enter Try.func6, Try.ntmps6
  go_wp2_with (first
    | (go_at_call 19; refine (HAL.out _ HBa.out).mono ?_; rintro e w2 ⟨hp, hb⟩; obtain ⟨rfl, _⟩ := hp.resolve_right (fun h => h.2 HGD.out); have HB4 := hide ((HBa.out.alloc HBa.out.size (.cells #[.slice da dl dc, .slice xa n xc, .slice fa fl fc, .slice ya n yc] 28))); have HBb := hide (Below.on HB4.out hb); have HO2 := hide ((HO1.out.alloc (.cells #[.slice da dl dc, .slice xa n xc, .slice fa fl fc, .slice ya n yc] 28)).below hb); have HA2 := hide ((HAa.out.alloc (.cells #[.slice da dl dc, .slice xa n xc, .slice fa fl fc, .slice ya n yc] 28)).below hb); have HA3 := hide ((HAb.out.alloc (.cells #[.slice da dl dc, .slice xa n xc, .slice fa fl fc, .slice ya n yc] 28)).below hb); clear hp hb o0 o1 o2 o3 o4 o5 o6 a0 a1 b0' b1'; obtain ⟨o0, o1, o2, o3, o4, o5, o6⟩ := HO2.out.cells; obtain ⟨⟨a0, a1⟩, _⟩ := HA2.out.cells; obtain ⟨⟨b0', b1'⟩, _⟩ := HA3.out.cells)
    | (go_at_call 23; refine (linear_yes _ _ HYL.out).mono ?_; rintro e w' ⟨rfl, hw'⟩; obtain rfl := hw'.symm)
    | (go_at_call 22; refine (alive2_any _).mono ?_; rintro e w1 ⟨rfl, hb⟩; have HBa := hide (Below.on HBW.out hb); have HO1 := hide (HO0.out.below hb); have HAa := hide (HA0.out.below hb); have HAb := hide (HA1.out.below hb); clear hb; obtain ⟨o0, o1, o2, o3, o4, o5, o6⟩ := HO1.out.cells; obtain ⟨⟨a0, a1⟩, _⟩ := HAa.out.cells; obtain ⟨⟨b0', b1'⟩, _⟩ := HAb.out.cells))
  refine region_made1 10 12 8 [fIs (.agg #[.int .i64 k, .slice ea el ec, .slice pa pl pc, .slice la ll lc, .slice ha hl hc, .slice ta tl tc, .int .i64 x]), fIs (.agg #[.slice da dl dc, .slice xa n xc]), fRow2 w2.heap.size (.slice da dl dc) (.slice xa n xc), fIs (.slice ma q mc), fArgs w2.heap.size (.slice da dl dc) (.slice xa n xc) q vm, fDo L (f xs) N, fDo L (f xs) N, fAgg L (f xs) N, fIs (.int .i64 0), fArr w2.heap.size] (by kernel_rfl) (by kernel_rfl) (by kernel_rfl) (fun _ ⟨_, _⟩ ⟨_, _⟩ _ e h => by cases e; exact h) ⟨fIs_good _, fIs_good _, fRow2_good _ _ _, fIs_good _, fArgs_good _ _ _ _ _, fDo_good _ _ _, fDo_good _ _ _, fAgg_good _ _ _, fIs_good _, fArr_good _, trivial⟩ ?pure ?mk ?rest
  case pure =>
    intro o ho u wz hb hd
    cases ho
    obtain ⟨Z, nz, cz, G, e5, h1, h2⟩ := hd 6 (by omega) (by kernel_rfl)
    refine ⟨.int .i64 0, fun w3 => ?_⟩
    simp only [List.take, putOps, Act.put, List.setIfInBounds_toArray, List.set_cons_zero, List.set_cons_succ, Nat.reduceAdd, e5]
    go_simp
  case mk =>
    refine ⟨fun u wz hb hd => ?_, fun u wz hb hd => ?_, fun u wz hb hd => ?_, fun u wz hb hd => ?_, fun u wz hb hd => ?_, fun u wz hb hd => ?_, fun u wz hb hd => ?_, fun u wz hb hd => ?_, fun u wz hb hd => ?_, fun u wz hb hd => ?_, trivial⟩
    all_goals simp only [Act.put, List.setIfInBounds_toArray, List.set_cons_zero, List.set_cons_succ]
    · have o0' := (hb.cell (p := ⟨w.heap.size, 0, none⟩) (lt_of_cell o0)).trans o0
      have o1' := (hb.cell (p := ⟨w.heap.size, 1, none⟩) (lt_of_cell o1)).trans o1
      have o2' := (hb.cell (p := ⟨w.heap.size, 2, none⟩) (lt_of_cell o2)).trans o2
      have o3' := (hb.cell (p := ⟨w.heap.size, 3, none⟩) (lt_of_cell o3)).trans o3
      have o4' := (hb.cell (p := ⟨w.heap.size, 4, none⟩) (lt_of_cell o4)).trans o4
      have o5' := (hb.cell (p := ⟨w.heap.size, 5, none⟩) (lt_of_cell o5)).trans o5
      have o6' := (hb.cell (p := ⟨w.heap.size, 6, none⟩) (lt_of_cell o6)).trans o6
      go_simp
      exact ⟨rfl, Below.refl _ _, fun h => by cases h⟩
    · have a0' := (hb.cell (p := ⟨w.heap.size + 1, 0, none⟩) (lt_of_cell a0)).trans a0
      have a1' := (hb.cell (p := ⟨w.heap.size + 1, 1, none⟩) (lt_of_cell a1)).trans a1
      go_simp
      exact ⟨rfl, Below.refl _ _, fun h => by cases h⟩
    · have e1 : u 1 = .agg #[.slice da dl dc, .slice xa n xc] := hd 1 (by omega) (by kernel_rfl)
      rw [e1]
      go_simp
      exact ⟨⟨_, rfl, ArrAt.new _ _ _, hb.size⟩, (Below.refl _ _).alloc (Nat.le_refl _) _, fun h => by cases h⟩
    · go_simp
      exact ⟨rfl, Below.refl _ _, fun h => by cases h⟩
    · obtain ⟨B2, e2, hB2, hN2⟩ := hd 2 (by omega) (by kernel_rfl)
      have e3 : u 3 = .slice ma q mc := hd 3 (by omega) (by kernel_rfl)
      rw [e2, e3]
      refine wp_append_more (.tmp 36) (.tmp 37) 41 28 rfl Try.underlying41 info_arr w2.heap.size B2 q mc (.slice da dl dc) (.slice xa n xc) ma vm rfl rfl hB2 hN2 hb.size (HMA.out _ (Below.on HBb.out hb)) HMN.out (by omega) (fun v w3 hv hbb => ?_)
      exact ⟨v, rfl, hv, hbb, fun h => by cases h⟩
    · have e0 : u 0 = .agg #[.int .i64 k, .slice ea el ec, .slice pa pl pc, .slice la ll lc, .slice ha hl hc, .slice ta tl tc, .int .i64 x] := hd 0 (by omega) (by kernel_rfl)
      obtain ⟨B4, cap4, e4, ⟨k0, k1, km⟩, hN4⟩ := hd 4 (by omega) (by kernel_rfl)
      rw [e0, e4]
      go_simp
      refine (HDO.out wz B4 cap4 da dl dc xa xc (xs) (Below.on HBb.out hb) k0 k1 km (HDA.out.below (Below.on HBb.out hb)) (HXA.out.below (Below.on HBb.out hb)) hxc).mono ?_
      rintro e w3 ⟨⟨Z, nz, cz, G, rfl, h1, h2, _⟩, hb2⟩
      exact ⟨⟨Z, nz, cz, G, rfl, h1, h2⟩, hb2, fun h => by cases h⟩
    · obtain ⟨Z, nz, cz, G, e5, h1, h2⟩ := hd 5 (by omega) (by kernel_rfl)
      rw [e5]
      go_simp
      exact ⟨⟨Z, nz, cz, G, rfl, h1, h2⟩, Below.refl _ _, fun h => by cases h⟩
    · obtain ⟨Z, nz, cz, G, e5, h1, h2⟩ := hd 6 (by omega) (by kernel_rfl)
      rw [e5]
      go_simp
      exact ⟨⟨Z, nz, cz, G, rfl, h1, h2⟩, Below.refl _ _, fun h => by cases h⟩
    · obtain ⟨Z, nz, cz, G, e5, h1, h2⟩ := hd 6 (by omega) (by kernel_rfl)
      rw [e5]
      go_simp
      exact ⟨rfl, Below.refl _ _, fun h => by cases h⟩
    · go_simp
      exact ⟨⟨_, rfl, ArrAt.new _ _ _, hb.size⟩, (Below.refl _ _).alloc (Nat.le_refl _) _, fun _ b hb => by simp [blk] at hb; omega⟩
  case rest =>
    intro u wz hb hf hp
    have f0 : u 0 = .agg #[.int .i64 k, .slice ea el ec, .slice pa pl pc, .slice la ll lc, .slice ha hl hc, .slice ta tl tc, .int .i64 x] := hf 0 (by omega)
    have f1 : u 1 = .agg #[.slice da dl dc, .slice xa n xc] := hf 1 (by omega)
    obtain ⟨_, f2, _, _⟩ := hf 2 (by omega)
    have f3 : u 3 = .slice ma q mc := hf 3 (by omega)
    obtain ⟨_, _, f4, _, _⟩ := hf 4 (by omega)
    obtain ⟨_, _, _, _, f5, _, _⟩ := hf 5 (by omega)
    obtain ⟨_, _, _, _, f6, _, _⟩ := hf 6 (by omega)
    obtain ⟨Zp, nzp, czp, Gp, f7, ⟨pp, pcp⟩, rp⟩ := hf 7 (by omega)
    have f8 : u 8 = .int .i64 0 := hf 8 (by omega)
    obtain ⟨Cp, f9, i9, n9⟩ := hf 9 (by omega)
    refine UptoW.rest 2 10 (by rfl) (by kernel_rfl) ?_
    simp only [List.take, List.drop, putOps, Act.put, List.setIfInBounds_toArray, List.set_cons_zero, List.set_cons_succ, Nat.reduceAdd, f0, f1, f2, f3, f4, f5, f6, f7, f8, f9]
    clear f0 f1 f2 f3 f4 f5 f6 f7 f8 f9 hf hp o0 o1 o2 o3 o4 o5 o6 a0 a1 b0' b1'
    obtain ⟨⟨c0, c1⟩, z0, z1⟩ := i9.cells
    refine wpList_plain rfl (fun K hK => ?_)
    go_simp
    refine hK _ _ ?_
    clear hK K c0 c1 z0 z1
    refine wpList_plain rfl (fun K hK => ?_)
    go_simp
    refine hK _ _ (wpList_nil ?_)
    clear hK K
    have Pp := ints_put_arr pp i9 (fun _ _ e => by cases e) (fun _ _ e => by cases e) (.slice Zp nzp czp) (.slice (some ⟨Gp, 0, none⟩) N N)
    have Rp := ints_put_arr rp i9 (fun _ _ e => by cases e) (fun _ _ e => by cases e) (.slice Zp nzp czp) (.slice (some ⟨Gp, 0, none⟩) N N)
    have Ap := i9.put (.slice Zp nzp czp) (.slice (some ⟨Gp, 0, none⟩) N N)
    have Bp := (hb.setCell (p := ⟨Cp, 0, none⟩) n9 (.slice Zp nzp czp)).setCell (p := ⟨Cp, 1, none⟩) n9 (.slice (some ⟨Gp, 0, none⟩) N N)
    have hlC := i9.lt
    clear i9 pp rp
    have hsC : ((wz.setCell ⟨Cp, 0, none⟩ (.slice Zp nzp czp)).setCell ⟨Cp, 1, none⟩ (.slice (some ⟨Gp, 0, none⟩) N N)).heap.size = wz.heap.size := by simp
    generalize (wz.setCell ⟨Cp, 0, none⟩ (.slice Zp nzp czp)).setCell ⟨Cp, 1, none⟩ (.slice (some ⟨Gp, 0, none⟩) N N) = Wp at *
    have HPp := hide Pp
    have HRp := hide Rp
    clear Pp Rp
    have HAp := hide Ap
    have HBp := hide Bp
    have HCp := hide n9
    clear Ap Bp hb hlC hsC n9
    have HBP := hide (Below.on HBb.out HBp.out)
    have HO3 := hide (HO2.out.below HBp.out)
    have HA4 := hide (HA2.out.below HBp.out)
    have HA5 := hide (HA3.out.below HBp.out)
    go_wp2_with fail
    obtain ⟨o0, o1, o2, o3, o4, o5, o6⟩ := HO3.out.cells
    obtain ⟨⟨b0', b1'⟩, _⟩ := HA5.out.cells
    refine region_made1 10 12 8 [fIs (.agg #[.int .i64 k, .slice ea el ec, .slice pa pl pc, .slice la ll lc, .slice ha hl hc, .slice ta tl tc, .int .i64 x]), fIs (.agg #[.slice fa fl fc, .slice ya n yc]), fRow2 Wp.heap.size (.slice fa fl fc) (.slice ya n yc), fIs (.slice ma q mc), fArgs Wp.heap.size (.slice fa fl fc) (.slice ya n yc) q vm, fDo L (f ys) N, fDo L (f ys) N, fAgg L (f ys) N, fIs (.int .i64 0), fArr Wp.heap.size] (by kernel_rfl) (by kernel_rfl) (by kernel_rfl) (fun _ ⟨_, _⟩ ⟨_, _⟩ _ e h => by cases e; exact h) ⟨fIs_good _, fIs_good _, fRow2_good _ _ _, fIs_good _, fArgs_good _ _ _ _ _, fDo_good _ _ _, fDo_good _ _ _, fAgg_good _ _ _, fIs_good _, fArr_good _, trivial⟩ ?pure ?mk ?rest
    case pure =>
      intro o ho u wz hb hd
      cases ho
      obtain ⟨Z, nz, cz, G, e5, h1, h2⟩ := hd 6 (by omega) (by kernel_rfl)
      refine ⟨.int .i64 0, fun w3 => ?_⟩
      simp only [List.take, putOps, Act.put, List.setIfInBounds_toArray, List.set_cons_zero, List.set_cons_succ, Nat.reduceAdd, e5]
      go_simp
    case mk =>
      refine ⟨fun u wz hb hd => ?_, fun u wz hb hd => ?_, fun u wz hb hd => ?_, fun u wz hb hd => ?_, fun u wz hb hd => ?_, fun u wz hb hd => ?_, fun u wz hb hd => ?_, fun u wz hb hd => ?_, fun u wz hb hd => ?_, fun u wz hb hd => ?_, trivial⟩
      all_goals simp only [Act.put, List.setIfInBounds_toArray, List.set_cons_zero, List.set_cons_succ]
      · have o0' := (hb.cell (p := ⟨w.heap.size, 0, none⟩) (lt_of_cell o0)).trans o0
        have o1' := (hb.cell (p := ⟨w.heap.size, 1, none⟩) (lt_of_cell o1)).trans o1
        have o2' := (hb.cell (p := ⟨w.heap.size, 2, none⟩) (lt_of_cell o2)).trans o2
        have o3' := (hb.cell (p := ⟨w.heap.size, 3, none⟩) (lt_of_cell o3)).trans o3
        have o4' := (hb.cell (p := ⟨w.heap.size, 4, none⟩) (lt_of_cell o4)).trans o4
        have o5' := (hb.cell (p := ⟨w.heap.size, 5, none⟩) (lt_of_cell o5)).trans o5
        have o6' := (hb.cell (p := ⟨w.heap.size, 6, none⟩) (lt_of_cell o6)).trans o6
        go_simp
        exact ⟨rfl, Below.refl _ _, fun h => by cases h⟩
      · have b0'' := (hb.cell (p := ⟨w.heap.size + 1 + 1, 0, none⟩) (lt_of_cell b0')).trans b0'
        have b1'' := (hb.cell (p := ⟨w.heap.size + 1 + 1, 1, none⟩) (lt_of_cell b1')).trans b1'
        go_simp
        exact ⟨rfl, Below.refl _ _, fun h => by cases h⟩
      · have e1 : u 1 = .agg #[.slice fa fl fc, .slice ya n yc] := hd 1 (by omega) (by kernel_rfl)
        rw [e1]
        go_simp
        exact ⟨⟨_, rfl, ArrAt.new _ _ _, hb.size⟩, (Below.refl _ _).alloc (Nat.le_refl _) _, fun h => by cases h⟩
      · go_simp
        exact ⟨rfl, Below.refl _ _, fun h => by cases h⟩
      · obtain ⟨B2, e2, hB2, hN2⟩ := hd 2 (by omega) (by kernel_rfl)
        have e3 : u 3 = .slice ma q mc := hd 3 (by omega) (by kernel_rfl)
        rw [e2, e3]
        refine wp_append_more (.tmp 47) (.tmp 48) 41 28 rfl Try.underlying41 info_arr Wp.heap.size B2 q mc (.slice fa fl fc) (.slice ya n yc) ma vm rfl rfl hB2 hN2 hb.size (HMA.out _ (Below.on HBP.out hb)) HMN.out (by omega) (fun v w3 hv hbb => ?_)
        exact ⟨v, rfl, hv, hbb, fun h => by cases h⟩
      · have e0 : u 0 = .agg #[.int .i64 k, .slice ea el ec, .slice pa pl pc, .slice la ll lc, .slice ha hl hc, .slice ta tl tc, .int .i64 x] := hd 0 (by omega) (by kernel_rfl)
        obtain ⟨B4, cap4, e4, ⟨k0, k1, km⟩, hN4⟩ := hd 4 (by omega) (by kernel_rfl)
        rw [e0, e4]
        go_simp
        refine (HDO.out wz B4 cap4 fa fl fc ya yc (ys) (Below.on HBP.out hb) k0 k1 km (HDB.out.below (Below.on HBP.out hb)) (HXB.out.below (Below.on HBP.out hb)) hyc).mono ?_
        rintro e w3 ⟨⟨Z, nz, cz, G, rfl, h1, h2, _⟩, hb2⟩
        exact ⟨⟨Z, nz, cz, G, rfl, h1, h2⟩, hb2, fun h => by cases h⟩
      · obtain ⟨Z, nz, cz, G, e5, h1, h2⟩ := hd 5 (by omega) (by kernel_rfl)
        rw [e5]
        go_simp
        exact ⟨⟨Z, nz, cz, G, rfl, h1, h2⟩, Below.refl _ _, fun h => by cases h⟩
      · obtain ⟨Z, nz, cz, G, e5, h1, h2⟩ := hd 6 (by omega) (by kernel_rfl)
        rw [e5]
        go_simp
        exact ⟨⟨Z, nz, cz, G, rfl, h1, h2⟩, Below.refl _ _, fun h => by cases h⟩
      · obtain ⟨Z, nz, cz, G, e5, h1, h2⟩ := hd 6 (by omega) (by kernel_rfl)
        rw [e5]
        go_simp
        exact ⟨rfl, Below.refl _ _, fun h => by cases h⟩
      · go_simp
        exact ⟨⟨_, rfl, ArrAt.new _ _ _, hb.size⟩, (Below.refl _ _).alloc (Nat.le_refl _) _, fun _ b hb => by simp [blk] at hb; omega⟩
    case rest =>
      intro u wz hb hf hp
      have f0 : u 0 = .agg #[.int .i64 k, .slice ea el ec, .slice pa pl pc, .slice la ll lc, .slice ha hl hc, .slice ta tl tc, .int .i64 x] := hf 0 (by omega)
      have f1 : u 1 = .agg #[.slice fa fl fc, .slice ya n yc] := hf 1 (by omega)
      obtain ⟨_, f2, _, _⟩ := hf 2 (by omega)
      have f3 : u 3 = .slice ma q mc := hf 3 (by omega)
      obtain ⟨_, _, f4, _, _⟩ := hf 4 (by omega)
      obtain ⟨_, _, _, _, f5, _, _⟩ := hf 5 (by omega)
      obtain ⟨_, _, _, _, f6, _, _⟩ := hf 6 (by omega)
      obtain ⟨Zq, nzq, czq, Gq, f7, ⟨pq, pcq⟩, rq⟩ := hf 7 (by omega)
      have f8 : u 8 = .int .i64 0 := hf 8 (by omega)
      obtain ⟨Cq, f9, i9, n9⟩ := hf 9 (by omega)
      refine UptoW.rest 2 10 (by rfl) (by kernel_rfl) ?_
      simp only [List.take, List.drop, putOps, Act.put, List.setIfInBounds_toArray, List.set_cons_zero, List.set_cons_succ, Nat.reduceAdd, f0, f1, f2, f3, f4, f5, f6, f7, f8, f9]
      clear f0 f1 f2 f3 f4 f5 f6 f7 f8 f9 hf hp o0 o1 o2 o3 o4 o5 o6 b0' b1'
      obtain ⟨⟨c0, c1⟩, z0, z1⟩ := i9.cells
      refine wpList_plain rfl (fun K hK => ?_)
      go_simp
      refine hK _ _ ?_
      clear hK K c0 c1 z0 z1
      refine wpList_plain rfl (fun K hK => ?_)
      go_simp
      refine hK _ _ (wpList_nil ?_)
      clear hK K
      have Pq := ints_put_arr pq i9 (fun _ _ e => by cases e) (fun _ _ e => by cases e) (.slice Zq nzq czq) (.slice (some ⟨Gq, 0, none⟩) N N)
      have Rq := ints_put_arr rq i9 (fun _ _ e => by cases e) (fun _ _ e => by cases e) (.slice Zq nzq czq) (.slice (some ⟨Gq, 0, none⟩) N N)
      have Aq := i9.put (.slice Zq nzq czq) (.slice (some ⟨Gq, 0, none⟩) N N)
      have Bq := (hb.setCell (p := ⟨Cq, 0, none⟩) n9 (.slice Zq nzq czq)).setCell (p := ⟨Cq, 1, none⟩) n9 (.slice (some ⟨Gq, 0, none⟩) N N)
      have hlC := i9.lt
      clear i9 pq rq
      have hsC : ((wz.setCell ⟨Cq, 0, none⟩ (.slice Zq nzq czq)).setCell ⟨Cq, 1, none⟩ (.slice (some ⟨Gq, 0, none⟩) N N)).heap.size = wz.heap.size := by simp
      generalize (wz.setCell ⟨Cq, 0, none⟩ (.slice Zq nzq czq)).setCell ⟨Cq, 1, none⟩ (.slice (some ⟨Gq, 0, none⟩) N N) = Wq at *
      have HPq := hide Pq
      have HRq := hide Rq
      clear Pq Rq
      have HAq := hide Aq
      have HBq := hide Bq
      have HCq := hide n9
      clear Aq Bq hb hlC hsC n9
      have HBQ := hide (Below.on HBP.out HBq.out)
      have HO6 := hide (HO3.out.below HBq.out)
      have HA6 := hide (HA4.out.below HBq.out)
      have HA7 := hide (HA5.out.below HBq.out)
      have HAp2 := hide (HAp.out.below HBq.out)
      have hCp := HAp.out.lt
      have hCq := HAq.out.lt
      have hszq := HBq.out.size
      have hwq : w.heap.size ≤ Wq.heap.size := HBQ.out.size
      have hszb := HCp.out
      have hszc := HCq.out
      obtain ⟨⟨a0, a1⟩, _⟩ := HA6.out.cells
      go_wp2_with (first
        | (go_at_call 20; refine (law_two 3 (.inl rfl) da dl dc (some ⟨g5, 0, none⟩) nzk nzk ds n xa xc xs (some ⟨G5, 0, none⟩) n (twoL 5 (List.replicate n by') ys n) _ (HDA.out.1.below HC5w.out) HIg5.out (HXA.out.below HC5w.out) HIx5.out HAE.out).mono ?_; rintro e w6 ⟨⟨g6, G6, rfl, hi1, hi2⟩, hb⟩; have HIg6 := hide hi1; have HIx6 := hide hi2; have HC6w := hide (Below.on HC5w.out hb); have HC6p := hide (Below.on HC5p.out hb); have HC6q := hide (Below.on HC5q.out hb); have HC6o := hide (HC5o.out.below hb); have HC6k := hide (HC5k.out.below hb); have HC6b := hide (HC5kb.out.below hb); have hz6 := hb.size; simp only [World.size_alloc] at hz6; clear hi1 hi2 hb c5a0 c5a1 c5b0 c5b1 c5k0 c5k1 c5kb0 c5kb1; obtain ⟨⟨c6a0, c6a1⟩, _⟩ := (HC5a.out.below (Below.refl _ _)).cells; obtain ⟨⟨c6b0, c6b1⟩, _⟩ := (HC5b.out.below (Below.refl _ _)).cells; obtain ⟨⟨c6k0, c6k1⟩, _⟩ := HC6k.out.cells; obtain ⟨⟨c6kb0, c6kb1⟩, _⟩ := HC6b.out.cells)
        | (go_at_call 20; refine (law_two 5 (.inr (.inr rfl)) Zk nzk czk fa fl fc ds n (some ⟨Gk, 0, none⟩) n (List.replicate n by') ya yc ys _ HIkd.out (HDB.out.1.below HC4w.out) HIkx.out (HXB.out.below HC4w.out) HAE.out).mono ?_; rintro e w5 ⟨⟨g5, G5, rfl, hi1, hi2⟩, hb⟩; have HIg5 := hide (hi1.below ((Below.refl _ _).alloc (Nat.le_refl _) (.cells #[.slice (some ⟨g5, 0, none⟩) nzk nzk, .slice (some ⟨G5, 0, none⟩) n n] 28))); have HIx5 := hide (hi2.below ((Below.refl _ _).alloc (Nat.le_refl _) (.cells #[.slice (some ⟨g5, 0, none⟩) nzk nzk, .slice (some ⟨G5, 0, none⟩) n n] 28))); have HC5w := hide ((Below.on HC4w.out hb).alloc (Below.on HC4w.out hb).size (.cells #[.slice (some ⟨g5, 0, none⟩) nzk nzk, .slice (some ⟨G5, 0, none⟩) n n] 28)); have HC5p := hide ((Below.on HC4p.out hb).alloc (Below.on HC4p.out hb).size (.cells #[.slice (some ⟨g5, 0, none⟩) nzk nzk, .slice (some ⟨G5, 0, none⟩) n n] 28)); have HC5q := hide ((Below.on HC4q.out hb).alloc (Below.on HC4q.out hb).size (.cells #[.slice (some ⟨g5, 0, none⟩) nzk nzk, .slice (some ⟨G5, 0, none⟩) n n] 28)); have HC5o := hide ((HC4o.out.below hb).alloc (.cells #[.slice (some ⟨g5, 0, none⟩) nzk nzk, .slice (some ⟨G5, 0, none⟩) n n] 28)); have HC5a := hide ((HC4a.out.below hb).alloc (.cells #[.slice (some ⟨g5, 0, none⟩) nzk nzk, .slice (some ⟨G5, 0, none⟩) n n] 28)); have HC5b := hide ((HC4b.out.below hb).alloc (.cells #[.slice (some ⟨g5, 0, none⟩) nzk nzk, .slice (some ⟨G5, 0, none⟩) n n] 28)); have HC5k := hide ((HC4k.out.below hb).alloc (.cells #[.slice (some ⟨g5, 0, none⟩) nzk nzk, .slice (some ⟨G5, 0, none⟩) n n] 28)); have HC5kb := hide (ArrAt.new w5 (.slice (some ⟨g5, 0, none⟩) nzk nzk) (.slice (some ⟨G5, 0, none⟩) n n)); have hz5 := hb.size; simp only [World.size_alloc] at hz5; clear hi1 hi2 hb c4a0 c4a1 c4b0 c4b1 c4k0 c4k1; obtain ⟨⟨c5a0, c5a1⟩, _⟩ := HC5a.out.cells; obtain ⟨⟨c5b0, c5b1⟩, _⟩ := HC5b.out.cells; obtain ⟨⟨c5k0, c5k1⟩, _⟩ := HC5k.out.cells; obtain ⟨⟨c5kb0, c5kb1⟩, _⟩ := HC5kb.out.cells)
        | (go_at_call 25; refine (one0_fill by' da dl dc ds n _ (HDA.out.1.below HBQ.out) HAE.out HBY.out).mono ?_; rintro e w4 ⟨⟨Zk, nzk, czk, Gk, rfl, ⟨hi1, _⟩, hi2⟩, hb⟩; have HIkd := hide (hi1.below ((Below.refl _ _).alloc (Nat.le_refl _) (.cells #[.slice Zk nzk czk, .slice (some ⟨Gk, 0, none⟩) n n] 28))); have HIkx := hide (hi2.below ((Below.refl _ _).alloc (Nat.le_refl _) (.cells #[.slice Zk nzk czk, .slice (some ⟨Gk, 0, none⟩) n n] 28))); have HC4w := hide ((Below.on HBQ.out hb).alloc (Below.on HBQ.out hb).size (.cells #[.slice Zk nzk czk, .slice (some ⟨Gk, 0, none⟩) n n] 28)); have HC4p := hide ((Below.on HBq.out hb).alloc (Below.on HBq.out hb).size (.cells #[.slice Zk nzk czk, .slice (some ⟨Gk, 0, none⟩) n n] 28)); have HC4q := hide (((Below.refl Wq.heap.size Wq).trans hb).alloc (((Below.refl Wq.heap.size Wq).trans hb)).size (.cells #[.slice Zk nzk czk, .slice (some ⟨Gk, 0, none⟩) n n] 28)); have HC4o := hide ((HO6.out.below hb).alloc (.cells #[.slice Zk nzk czk, .slice (some ⟨Gk, 0, none⟩) n n] 28)); have HC4a := hide ((HA6.out.below hb).alloc (.cells #[.slice Zk nzk czk, .slice (some ⟨Gk, 0, none⟩) n n] 28)); have HC4b := hide ((HA7.out.below hb).alloc (.cells #[.slice Zk nzk czk, .slice (some ⟨Gk, 0, none⟩) n n] 28)); have HC4k := hide (ArrAt.new w4 (.slice Zk nzk czk) (.slice (some ⟨Gk, 0, none⟩) n n)); have hz4 := hb.size; clear hi1 hi2 hb a0 a1; obtain ⟨⟨c4a0, c4a1⟩, _⟩ := HC4a.out.cells; obtain ⟨⟨c4b0, c4b1⟩, _⟩ := HC4b.out.cells; obtain ⟨⟨c4k0, c4k1⟩, _⟩ := HC4k.out.cells))
      have HSLx := hide (lst_of_some HIg6.out (Nat.le_refl _))
      have hB17 := ArrAt.new w6 (.slice (some ⟨g6, 0, none⟩) dl dl) (.slice (some ⟨G6, 0, none⟩) n n)
      have HSL := hide (HSLx.out.below ((Below.refl _ _).alloc (Nat.le_refl _) (.cells #[.slice (some ⟨g6, 0, none⟩) dl dl, .slice (some ⟨G6, 0, none⟩) n n] 28)))
      have HSX := hide (HIx6.out.below ((Below.refl _ _).alloc (Nat.le_refl _) (.cells #[.slice (some ⟨g6, 0, none⟩) dl dl, .slice (some ⟨G6, 0, none⟩) n n] 28)))
      have HT0 := hide (HC6w.out.alloc HC6w.out.size (.cells #[.slice (some ⟨g6, 0, none⟩) dl dl, .slice (some ⟨G6, 0, none⟩) n n] 28))
      have HTo := hide (HC6o.out.alloc (.cells #[.slice (some ⟨g6, 0, none⟩) dl dl, .slice (some ⟨G6, 0, none⟩) n n] 28))
      have HTp := hide (HC6p.out.alloc HC6p.out.size (.cells #[.slice (some ⟨g6, 0, none⟩) dl dl, .slice (some ⟨G6, 0, none⟩) n n] 28))
      have HTq := hide (HC6q.out.alloc HC6q.out.size (.cells #[.slice (some ⟨g6, 0, none⟩) dl dl, .slice (some ⟨G6, 0, none⟩) n n] 28))
      have HT14 := hide (HC6k.out.alloc (.cells #[.slice (some ⟨g6, 0, none⟩) dl dl, .slice (some ⟨G6, 0, none⟩) n n] 28))
      have HT16 := hide (HC6b.out.alloc (.cells #[.slice (some ⟨g6, 0, none⟩) dl dl, .slice (some ⟨G6, 0, none⟩) n n] 28))
      have hs17 : w6.heap.size < (w6.alloc (.cells #[.slice (some ⟨g6, 0, none⟩) dl dl, .slice (some ⟨G6, 0, none⟩) n n] 28)).heap.size := by simp
      clear c6a0 c6a1 c6b0 c6b1 c6k0 c6k1 c6kb0 c6kb1
      generalize w6.alloc (.cells #[.slice (some ⟨g6, 0, none⟩) dl dl, .slice (some ⟨G6, 0, none⟩) n n] 28) = Wt at *
      obtain ⟨⟨s0, s1⟩, _⟩ := hB17.cells
      obtain ⟨o0, o1, o2, o3, o4, o5, o6⟩ := HTo.out.cells
      clear hB17
      refine region_made1 10 12 8 [fIs (.agg #[.int .i64 k, .slice ea el ec, .slice pa pl pc, .slice la ll lc, .slice ha hl hc, .slice ta tl tc, .int .i64 x]), fIs (.agg #[.slice (some ⟨g6, 0, none⟩) dl dl, .slice (some ⟨G6, 0, none⟩) n n]), fRow2 Wt.heap.size (.slice (some ⟨g6, 0, none⟩) dl dl) (.slice (some ⟨G6, 0, none⟩) n n), fIs (.slice ma q mc), fArgs Wt.heap.size (.slice (some ⟨g6, 0, none⟩) dl dl) (.slice (some ⟨G6, 0, none⟩) n n) q vm, fDo L (f (twoL 3 xs (twoL 5 (List.replicate n by') ys n) n)) N, fDo L (f (twoL 3 xs (twoL 5 (List.replicate n by') ys n) n)) N, fAgg L (f (twoL 3 xs (twoL 5 (List.replicate n by') ys n) n)) N, fIs (.int .i64 0), fArr Wt.heap.size] (by kernel_rfl) (by kernel_rfl) (by kernel_rfl) (fun _ ⟨_, _⟩ ⟨_, _⟩ _ e h => by cases e; exact h) ⟨fIs_good _, fIs_good _, fRow2_good _ _ _, fIs_good _, fArgs_good _ _ _ _ _, fDo_good _ _ _, fDo_good _ _ _, fAgg_good _ _ _, fIs_good _, fArr_good _, trivial⟩ ?pure ?mk ?rest
      case pure =>
        intro o ho u wz hb hd
        cases ho
        obtain ⟨Z, nz, cz, G, e5, h1, h2⟩ := hd 6 (by omega) (by kernel_rfl)
        refine ⟨.int .i64 0, fun w3 => ?_⟩
        simp only [List.take, putOps, Act.put, List.setIfInBounds_toArray, List.set_cons_zero, List.set_cons_succ, Nat.reduceAdd, e5]
        go_simp
      case mk =>
        refine ⟨fun u wz hb hd => ?_, fun u wz hb hd => ?_, fun u wz hb hd => ?_, fun u wz hb hd => ?_, fun u wz hb hd => ?_, fun u wz hb hd => ?_, fun u wz hb hd => ?_, fun u wz hb hd => ?_, fun u wz hb hd => ?_, fun u wz hb hd => ?_, trivial⟩
        all_goals simp only [Act.put, List.setIfInBounds_toArray, List.set_cons_zero, List.set_cons_succ]
        · have o0' := (hb.cell (p := ⟨w.heap.size, 0, none⟩) (lt_of_cell o0)).trans o0
          have o1' := (hb.cell (p := ⟨w.heap.size, 1, none⟩) (lt_of_cell o1)).trans o1
          have o2' := (hb.cell (p := ⟨w.heap.size, 2, none⟩) (lt_of_cell o2)).trans o2
          have o3' := (hb.cell (p := ⟨w.heap.size, 3, none⟩) (lt_of_cell o3)).trans o3
          have o4' := (hb.cell (p := ⟨w.heap.size, 4, none⟩) (lt_of_cell o4)).trans o4
          have o5' := (hb.cell (p := ⟨w.heap.size, 5, none⟩) (lt_of_cell o5)).trans o5
          have o6' := (hb.cell (p := ⟨w.heap.size, 6, none⟩) (lt_of_cell o6)).trans o6
          go_simp
          exact ⟨rfl, Below.refl _ _, fun h => by cases h⟩
        · have s0' := (hb.cell (p := ⟨w6.heap.size, 0, none⟩) (lt_of_cell s0)).trans s0
          have s1' := (hb.cell (p := ⟨w6.heap.size, 1, none⟩) (lt_of_cell s1)).trans s1
          go_simp
          exact ⟨rfl, Below.refl _ _, fun h => by cases h⟩
        · have e1 : u 1 = .agg #[.slice (some ⟨g6, 0, none⟩) dl dl, .slice (some ⟨G6, 0, none⟩) n n] := hd 1 (by omega) (by kernel_rfl)
          rw [e1]
          go_simp
          exact ⟨⟨_, rfl, ArrAt.new _ _ _, hb.size⟩, (Below.refl _ _).alloc (Nat.le_refl _) _, fun h => by cases h⟩
        · go_simp
          exact ⟨rfl, Below.refl _ _, fun h => by cases h⟩
        · obtain ⟨B2, e2, hB2, hN2⟩ := hd 2 (by omega) (by kernel_rfl)
          have e3 : u 3 = .slice ma q mc := hd 3 (by omega) (by kernel_rfl)
          rw [e2, e3]
          refine wp_append_more (.tmp 84) (.tmp 85) 41 28 rfl Try.underlying41 info_arr Wt.heap.size B2 q mc (.slice (some ⟨g6, 0, none⟩) dl dl) (.slice (some ⟨G6, 0, none⟩) n n) ma vm rfl rfl hB2 hN2 hb.size (HMA.out _ (Below.on HT0.out hb)) HMN.out (by omega) (fun v w3 hv hbb => ?_)
          exact ⟨v, rfl, hv, hbb, fun h => by cases h⟩
        · have e0 : u 0 = .agg #[.int .i64 k, .slice ea el ec, .slice pa pl pc, .slice la ll lc, .slice ha hl hc, .slice ta tl tc, .int .i64 x] := hd 0 (by omega) (by kernel_rfl)
          obtain ⟨B4, cap4, e4, ⟨k0, k1, km⟩, hN4⟩ := hd 4 (by omega) (by kernel_rfl)
          rw [e0, e4]
          go_simp
          refine (HDO.out wz B4 cap4 (some ⟨g6, 0, none⟩) dl dl (some ⟨G6, 0, none⟩) n ((twoL 3 xs (twoL 5 (List.replicate n by') ys n) n)) (Below.on HT0.out hb) k0 k1 km (HSL.out.below hb) (HSX.out.below hb) (Nat.le_refl _)).mono ?_
          rintro e w3 ⟨⟨Z, nz, cz, G, rfl, h1, h2, _⟩, hb2⟩
          exact ⟨⟨Z, nz, cz, G, rfl, h1, h2⟩, hb2, fun h => by cases h⟩
        · obtain ⟨Z, nz, cz, G, e5, h1, h2⟩ := hd 5 (by omega) (by kernel_rfl)
          rw [e5]
          go_simp
          exact ⟨⟨Z, nz, cz, G, rfl, h1, h2⟩, Below.refl _ _, fun h => by cases h⟩
        · obtain ⟨Z, nz, cz, G, e5, h1, h2⟩ := hd 6 (by omega) (by kernel_rfl)
          rw [e5]
          go_simp
          exact ⟨⟨Z, nz, cz, G, rfl, h1, h2⟩, Below.refl _ _, fun h => by cases h⟩
        · obtain ⟨Z, nz, cz, G, e5, h1, h2⟩ := hd 6 (by omega) (by kernel_rfl)
          rw [e5]
          go_simp
          exact ⟨rfl, Below.refl _ _, fun h => by cases h⟩
        · go_simp
          exact ⟨⟨_, rfl, ArrAt.new _ _ _, hb.size⟩, (Below.refl _ _).alloc (Nat.le_refl _) _, fun _ b hb => by simp [blk] at hb; omega⟩
      case rest =>
        intro u wz hb hf hp
        have f0 : u 0 = .agg #[.int .i64 k, .slice ea el ec, .slice pa pl pc, .slice la ll lc, .slice ha hl hc, .slice ta tl tc, .int .i64 x] := hf 0 (by omega)
        have f1 : u 1 = .agg #[.slice (some ⟨g6, 0, none⟩) dl dl, .slice (some ⟨G6, 0, none⟩) n n] := hf 1 (by omega)
        obtain ⟨_, f2, _, _⟩ := hf 2 (by omega)
        have f3 : u 3 = .slice ma q mc := hf 3 (by omega)
        obtain ⟨_, _, f4, _, _⟩ := hf 4 (by omega)
        obtain ⟨_, _, _, _, f5, _, _⟩ := hf 5 (by omega)
        obtain ⟨_, _, _, _, f6, _, _⟩ := hf 6 (by omega)
        obtain ⟨Zs, nzs, czs, Gs, f7, ⟨ps, pcs⟩, rs⟩ := hf 7 (by omega)
        have f8 : u 8 = .int .i64 0 := hf 8 (by omega)
        obtain ⟨Cs, f9, i9, n9⟩ := hf 9 (by omega)
        refine UptoW.rest 2 10 (by rfl) (by kernel_rfl) ?_
        simp only [List.take, List.drop, putOps, Act.put, List.setIfInBounds_toArray, List.set_cons_zero, List.set_cons_succ, Nat.reduceAdd, f0, f1, f2, f3, f4, f5, f6, f7, f8, f9]
        clear f0 f1 f2 f3 f4 f5 f6 f7 f8 f9 hf hp o0 o1 o2 o3 o4 o5 o6 s0 s1
        obtain ⟨⟨c0, c1⟩, z0, z1⟩ := i9.cells
        refine wpList_plain rfl (fun K hK => ?_)
        go_simp
        refine hK _ _ ?_
        clear hK K c0 c1 z0 z1
        refine wpList_plain rfl (fun K hK => ?_)
        go_simp
        refine hK _ _ (wpList_nil ?_)
        clear hK K
        have Ps := ints_put_arr ps i9 (fun _ _ e => by cases e) (fun _ _ e => by cases e) (.slice Zs nzs czs) (.slice (some ⟨Gs, 0, none⟩) N N)
        have Rs := ints_put_arr rs i9 (fun _ _ e => by cases e) (fun _ _ e => by cases e) (.slice Zs nzs czs) (.slice (some ⟨Gs, 0, none⟩) N N)
        have As := i9.put (.slice Zs nzs czs) (.slice (some ⟨Gs, 0, none⟩) N N)
        have Bs := (hb.setCell (p := ⟨Cs, 0, none⟩) n9 (.slice Zs nzs czs)).setCell (p := ⟨Cs, 1, none⟩) n9 (.slice (some ⟨Gs, 0, none⟩) N N)
        have hlC := i9.lt
        clear i9 ps rs
        have hsC : ((wz.setCell ⟨Cs, 0, none⟩ (.slice Zs nzs czs)).setCell ⟨Cs, 1, none⟩ (.slice (some ⟨Gs, 0, none⟩) N N)).heap.size = wz.heap.size := by simp
        generalize (wz.setCell ⟨Cs, 0, none⟩ (.slice Zs nzs czs)).setCell ⟨Cs, 1, none⟩ (.slice (some ⟨Gs, 0, none⟩) N N) = Ws at *
        have HPs := hide Ps
        have HRs := hide Rs
        clear Ps Rs
        have HAs := hide As
        have HBs := hide Bs
        have HCs := hide n9
        clear As Bs hb hlC hsC n9
        have HUw := hide (Below.on HT0.out HBs.out)
        have HUp := hide (HAp.out.below (Below.on HTp.out HBs.out))
        have HUq := hide (HAq.out.below (Below.on HTq.out HBs.out))
        have HU14 := hide (HT14.out.below HBs.out)
        have HU16 := hide (HT16.out.below HBs.out)
        have HPp2 := hide (HPp.out.below (Below.on HTp.out HBs.out))
        have HRp2 := hide (HRp.out.below (Below.on HTp.out HBs.out))
        have HPq2 := hide (HPq.out.below (Below.on HTq.out HBs.out))
        have HRq2 := hide (HRq.out.below (Below.on HTq.out HBs.out))
        have hCs := HCs.out
        have hszw := HUw.out.size
        clear HSL HSX HSLx HTo HTp HTq HT14 HT16
        obtain ⟨⟨p0, p1⟩, _⟩ := HUp.out.cells
        go_wp2_with (first
          | (go_at_call 21; refine (sameArr_true Zs nzs czs (some ⟨g10, 0, none⟩) nzp nzp L N (some ⟨Gs, 0, none⟩) N (some ⟨G10, 0, none⟩) N (f (twoL 3 xs (twoL 5 (List.replicate n by') ys n) n)) _ HPs5.out HDt.out HRs5.out (Eq.subst (motive := fun l => Ints _ _ _ l) HLW.out.symm HXt.out)).mono ?_; rintro e w11 ⟨rfl, hb⟩; have HBF := hide (Below.on HW10.out hb); clear hb)
          | (go_at_call 20; refine (law_two 3 (.inl rfl) Zp nzp czp (some ⟨g9, 0, none⟩) nz8 nz8 L N (some ⟨Gp, 0, none⟩) N (f xs) (some ⟨G9, 0, none⟩) N (twoL 5 (List.replicate N by') (f ys) N) _ HPp4.out HD9.out HRp4.out HX9.out HAN.out).mono ?_; rintro e w10 ⟨⟨g10, G10, rfl, hi1, hi2⟩, hb⟩; have HDt := hide (hi1.below ((Below.refl _ _).alloc (Nat.le_refl _) (.cells #[.slice (some ⟨g10, 0, none⟩) nzp nzp, .slice (some ⟨G10, 0, none⟩) N N] 28))); have HXt := hide (hi2.below ((Below.refl _ _).alloc (Nat.le_refl _) (.cells #[.slice (some ⟨g10, 0, none⟩) nzp nzp, .slice (some ⟨G10, 0, none⟩) N N] 28))); have HPs5 := hide ((HPs4.out.below hb).below ((Below.refl _ _).alloc (Nat.le_refl _) (.cells #[.slice (some ⟨g10, 0, none⟩) nzp nzp, .slice (some ⟨G10, 0, none⟩) N N] 28))); have HRs5 := hide ((HRs4.out.below hb).below ((Below.refl _ _).alloc (Nat.le_refl _) (.cells #[.slice (some ⟨g10, 0, none⟩) nzp nzp, .slice (some ⟨G10, 0, none⟩) N N] 28))); have HUs5 := hide ((HUs4.out.below hb).alloc (.cells #[.slice (some ⟨g10, 0, none⟩) nzp nzp, .slice (some ⟨G10, 0, none⟩) N N] 28)); have HU19 := hide (ArrAt.new w10 (.slice (some ⟨g10, 0, none⟩) nzp nzp) (.slice (some ⟨G10, 0, none⟩) N N)); have HW10 := hide ((Below.on HW9.out hb).alloc (Below.on HW9.out hb).size (.cells #[.slice (some ⟨g10, 0, none⟩) nzp nzp, .slice (some ⟨G10, 0, none⟩) N N] 28)); clear hi1 hi2 hb v160 v161 f160 f161 x160 x161 xp0 xp1; obtain ⟨⟨xs0, xs1⟩, _⟩ := HUs5.out.cells; obtain ⟨⟨xt0, xt1⟩, _⟩ := HU19.out.cells)
          | (go_at_call 20; refine (law_two 5 (.inr (.inr rfl)) Z8 nz8 cz8 Zq nzq czq L N (some ⟨G8, 0, none⟩) N (List.replicate N by') (some ⟨Gq, 0, none⟩) N (f ys) _ HD8.out HPq3.out HX8.out HRq3.out HAN.out).mono ?_; rintro e w9 ⟨⟨g9, G9, rfl, hi1, hi2⟩, hb⟩; have hsz9 := hb.size; simp only [World.size_setCell] at hsz9; have HX16 := hide (HU163.out.below hb); have HD9 := hide (ints_put_arr hi1 HX16.out (fun _ _ e => by cases e) (fun _ _ e => by cases e) (.slice (some ⟨g9, 0, none⟩) nz8 nz8) (.slice (some ⟨G9, 0, none⟩) N N)); have HX9 := hide (ints_put_arr hi2 HX16.out (fun _ _ e => by cases e) (fun _ _ e => by cases e) (.slice (some ⟨g9, 0, none⟩) nz8 nz8) (.slice (some ⟨G9, 0, none⟩) N N)); have HPp4 := hide (ints_put_arr (HPp3.out.below hb) HX16.out (fun _ _ e => by cases e) (fun _ _ e => by cases e) (.slice (some ⟨g9, 0, none⟩) nz8 nz8) (.slice (some ⟨G9, 0, none⟩) N N)); have HRp4 := hide (ints_put_arr (HRp3.out.below hb) HX16.out (fun _ _ e => by cases e) (fun _ _ e => by cases e) (.slice (some ⟨g9, 0, none⟩) nz8 nz8) (.slice (some ⟨G9, 0, none⟩) N N)); have HPs4 := hide (ints_put_arr (HPs3.out.below hb) HX16.out (fun _ _ e => by cases e) (fun _ _ e => by cases e) (.slice (some ⟨g9, 0, none⟩) nz8 nz8) (.slice (some ⟨G9, 0, none⟩) N N)); have HRs4 := hide (ints_put_arr (HRs3.out.below hb) HX16.out (fun _ _ e => by cases e) (fun _ _ e => by cases e) (.slice (some ⟨g9, 0, none⟩) nz8 nz8) (.slice (some ⟨G9, 0, none⟩) N N)); have HUp4 := hide (((HUp3.out.below hb).set (p := ⟨w5.heap.size, 0, none⟩) (by simp; omega) (.slice (some ⟨g9, 0, none⟩) nz8 nz8)).set (p := ⟨w5.heap.size, 1, none⟩) (by simp; omega) (.slice (some ⟨G9, 0, none⟩) N N)); have HUs4 := hide (((HUs3.out.below hb).set (p := ⟨w5.heap.size, 0, none⟩) (by simp; omega) (.slice (some ⟨g9, 0, none⟩) nz8 nz8)).set (p := ⟨w5.heap.size, 1, none⟩) (by simp; omega) (.slice (some ⟨G9, 0, none⟩) N N)); have HU164 := hide (HX16.out.put (.slice (some ⟨g9, 0, none⟩) nz8 nz8) (.slice (some ⟨G9, 0, none⟩) N N)); have HW9 := hide (((Below.on HW8.out hb).setCell (p := ⟨w5.heap.size, 0, none⟩) (by simp; omega) (.slice (some ⟨g9, 0, none⟩) nz8 nz8)).setCell (p := ⟨w5.heap.size, 1, none⟩) (by simp; omega) (.slice (some ⟨G9, 0, none⟩) N N)); obtain ⟨⟨v160, v161⟩, f160, f161⟩ := HX16.out.cells; clear hi1 hi2 hb v140 v141 f140 f141 x140 x141 xq0 xq1; obtain ⟨⟨x160, x161⟩, _⟩ := HU164.out.cells; obtain ⟨⟨xp0, xp1⟩, _⟩ := HUp4.out.cells)
          | (go_at_call 25; refine (one0_fill by' Zp nzp czp L N _ HPp2.out HAN.out HBY.out).mono ?_; rintro e w8 ⟨⟨Z8, nz8, cz8, G8, rfl, ⟨hi1, _⟩, hi2⟩, hb⟩; have hsz8 := hb.size; have HV14 := hide (HU14.out.below hb); have HV16 := hide (HU16.out.below hb); have h14 := HU14.out.lt; have h16 := HU16.out.lt; have HD8 := hide (ints_put_arr hi1 HV14.out (fun _ _ e => by cases e) (fun _ _ e => by cases e) (.slice Z8 nz8 cz8) (.slice (some ⟨G8, 0, none⟩) N N)); have HX8 := hide (ints_put_arr hi2 HV14.out (fun _ _ e => by cases e) (fun _ _ e => by cases e) (.slice Z8 nz8 cz8) (.slice (some ⟨G8, 0, none⟩) N N)); have HPp3 := hide (ints_put_arr (HPp2.out.below hb) HV14.out (fun _ _ e => by cases e) (fun _ _ e => by cases e) (.slice Z8 nz8 cz8) (.slice (some ⟨G8, 0, none⟩) N N)); have HRp3 := hide (ints_put_arr (HRp2.out.below hb) HV14.out (fun _ _ e => by cases e) (fun _ _ e => by cases e) (.slice Z8 nz8 cz8) (.slice (some ⟨G8, 0, none⟩) N N)); have HPq3 := hide (ints_put_arr (HPq2.out.below hb) HV14.out (fun _ _ e => by cases e) (fun _ _ e => by cases e) (.slice Z8 nz8 cz8) (.slice (some ⟨G8, 0, none⟩) N N)); have HRq3 := hide (ints_put_arr (HRq2.out.below hb) HV14.out (fun _ _ e => by cases e) (fun _ _ e => by cases e) (.slice Z8 nz8 cz8) (.slice (some ⟨G8, 0, none⟩) N N)); have HPs3 := hide (ints_put_arr (HPs.out.below hb) HV14.out (fun _ _ e => by cases e) (fun _ _ e => by cases e) (.slice Z8 nz8 cz8) (.slice (some ⟨G8, 0, none⟩) N N)); have HRs3 := hide (ints_put_arr (HRs.out.below hb) HV14.out (fun _ _ e => by cases e) (fun _ _ e => by cases e) (.slice Z8 nz8 cz8) (.slice (some ⟨G8, 0, none⟩) N N)); have HUp3 := hide (((HUp.out.below hb).set (p := ⟨w4.heap.size, 0, none⟩) (by simp; omega) (.slice Z8 nz8 cz8)).set (p := ⟨w4.heap.size, 1, none⟩) (by simp; omega) (.slice (some ⟨G8, 0, none⟩) N N)); have HUq3 := hide (((HUq.out.below hb).set (p := ⟨w4.heap.size, 0, none⟩) (by simp; omega) (.slice Z8 nz8 cz8)).set (p := ⟨w4.heap.size, 1, none⟩) (by simp; omega) (.slice (some ⟨G8, 0, none⟩) N N)); have HU163 := hide (((HU16.out.below hb).set (p := ⟨w4.heap.size, 0, none⟩) (by simp; omega) (.slice Z8 nz8 cz8)).set (p := ⟨w4.heap.size, 1, none⟩) (by simp; omega) (.slice (some ⟨G8, 0, none⟩) N N)); have HUs3 := hide (((HAs.out.below hb).set (p := ⟨w4.heap.size, 0, none⟩) (by simp; omega) (.slice Z8 nz8 cz8)).set (p := ⟨w4.heap.size, 1, none⟩) (by simp; omega) (.slice (some ⟨G8, 0, none⟩) N N)); have HU143 := hide (HV14.out.put (.slice Z8 nz8 cz8) (.slice (some ⟨G8, 0, none⟩) N N)); have HW8 := hide (((Below.on HUw.out hb).setCell (p := ⟨w4.heap.size, 0, none⟩) (by simp; omega) (.slice Z8 nz8 cz8)).setCell (p := ⟨w4.heap.size, 1, none⟩) (by simp; omega) (.slice (some ⟨G8, 0, none⟩) N N)); obtain ⟨⟨v140, v141⟩, f140, f141⟩ := HV14.out.cells; clear hi1 hi2 hb p0 p1; obtain ⟨⟨x140, x141⟩, _⟩ := HU143.out.cells; obtain ⟨⟨xq0, xq1⟩, _⟩ := HUq3.out.cells))
        go_ret
        exact ⟨rfl, HBF.out⟩

end Go.Proofs.Ytcidhbkdaleomaa.V
