/-
  Contract: adjointref2.entry, of Take.
-/
import Derived.Test.YteoobeldmicjhaaGreatPRKArrayRows29
import Derived.Test.YteoobeldmicjhaaGreatPRKArrayRows36
import Derived.Test.YteoobeldmicjhaaGreatPRKArrayRows16
import Derived.Test.YteoobeldmicjhaaGreatPRKArrayRows1
namespace Go.Proofs.YteoobeldmicjhaaGreat.V
set_option maxRecDepth 20000
open Go.RowKit

/-- A list. -/
def fLst (xs : List Int) : Fact := ⟨fun v w => ∃ X n c, v = .slice X n c ∧ Lst w X n c xs, false⟩
theorem fLst_good (xs : List Int) : (fLst xs).Good := ⟨fun _ _ _ ⟨X, n, c, h1, h2⟩ hb => ⟨X, n, c, h1, h2.below hb⟩, fun h => by cases h⟩

/-- The entry that is taken. -/
def takeEnt (xs ys : List Int) (D p : Nat) (q : Nat → Nat) : Int := if 0 ≤ ys[p]?.getD 0 ∧ ys[p]?.getD 0 < (D : Int) then xs[q (ys[p]?.getD 0).toNat]?.getD 0 else 0

set_option maxRecDepth 100000 in
set_option maxHeartbeats 1000000 in
theorem rentry_take (x : Int) (vd va vl vh vs : Value) (b off cap : Nat) (da : Option Addr) (dl dc : Nat) (ds : List Int) (xa : Option Addr) (n1 xc : Nat) (xs : List Int) (fa : Option Addr) (fl fc : Nat) (gs : List Int) (ya : Option Addr) (m1 yc : Nat) (ys : List Int) (g l c : Nat) (at' : List Int) (nn : Int) (w : World) (D p : Nat) (q : Nat → Nat)
    (h0 : w.cell? ⟨b, off, none⟩ = some (.slice da dl dc)) (h1 : w.cell? ⟨b, off + 1, none⟩ = some (.slice xa n1 xc)) (h2 : w.cell? ⟨b, off + 2, none⟩ = some (.slice fa fl fc)) (h3 : w.cell? ⟨b, off + 3, none⟩ = some (.slice ya m1 yc))
    (hd : Ints w da dl ds) (hdc : dl ≤ dc) (hx : Ints w xa n1 xs) (hf : Ints w fa fl gs) (hfc : fl ≤ fc) (hy : Ints w ya m1 ys) (ha : Ints w (some ⟨g, 0, none⟩) l at') (hlc : l ≤ c) (hc6 : l ≤ 1000)
    (hD : ds[0]?.getD 0 = (D : Int)) (hD6 : D ≤ 4096) (hdl : 1 ≤ dl) (hl : fl ≤ l) (hp : placeN gs (sub at' 0 fl) = p) (hpm : p < m1) (hq : ∀ r : Nat, r < D → placeN ds ((r : Int) :: sub at' fl (l - fl)) = q r ∧ q r < n1) :
    Calls Tryz.prog 19 #[.agg #[.int .i64 18, vd, va, vl, vh, vs, .int .i64 x], .slice (some ⟨b, off, none⟩) 2 cap, .slice (some ⟨g, 0, none⟩) l c, .int .i64 nn] w fun e w' => e = .returned (.int .i64 (takeEnt xs ys D p q)) ∧ Below w.heap.size w w' := by
  have HB1 := hide ((Below.refl w.heap.size w).alloc (Nat.le_refl _) (.cells #[.int .i64 18, vd, va, vl, vh, vs, .int .i64 x] 31))
  have HOP := hide (OpAt.new w 18 vd va vl vh vs x)
  obtain ⟨o0, o1, o2, o3, o4, o5, o6⟩ := HOP.out.cells
  have k0 := (HB1.out.cell (p := ⟨b, off, none⟩) (lt_of_cell h0)).trans h0
  have k1 := (HB1.out.cell (p := ⟨b, off + 1, none⟩) (lt_of_cell h1)).trans h1
  have k2 := (HB1.out.cell (p := ⟨b, off + 2, none⟩) (lt_of_cell h2)).trans h2
  have k3 := (HB1.out.cell (p := ⟨b, off + 3, none⟩) (lt_of_cell h3)).trans h3
  have HS0 := hide (ints_sub ha 0 fl (by omega))
  have HSB : Hid (Lst w (if c = fl then some ⟨g, 0, none⟩ else some ⟨g, 0 + fl, none⟩) (l - fl) (c - fl) (sub at' fl (l - fl))) := ⟨ints_if (ints_sub ha fl (l - fl) (by omega)) (by omega), by omega, fun e => by split at e <;> cases e⟩
  have HG1 : Hid (∀ W, Below w.heap.size w W → Calls Tryz.prog 32 #[.agg #[.slice fa fl fc, .slice ya m1 yc], .slice (some ⟨g, 0, none⟩) fl c] W fun e w' => e = .returned (.int .i64 (ys[p]?.getD 0)) ∧ Below W.heap.size W w') := fun W hW => rget_any _ _ _ gs _ _ _ ys _ _ _ _ W p (hf.below hW) hfc (hy.below hW) (HS0.out.below hW) hp hpm
  have HYB := hide (hy.bd p hpm)
  have hflc : fl ≤ c := by omega
  obtain ⟨SX, hSX⟩ : ∃ SX : Option Addr, SX = (if c = fl then some ⟨g, 0, none⟩ else some ⟨g, 0 + fl, none⟩) := ⟨_, rfl⟩
  rw [← hSX] at HSB
  have HSX := hide hSX
  clear hSX
  obtain ⟨db, doff, rfl, hdb, hdcell⟩ := hd.at (by omega)
  have hdz := hdcell 0 (by omega)
  rw [hD, Nat.add_zero] at hdz
  have HDC := hide hdz
  have HD' := hide hd
  have HX := hide hx
  have HQ := hide hq
  clear h0 h1 h2 h3 hd hx hf hy ha hD hp hq hdcell hdz
  by_cases hr : 0 ≤ ys[p]?.getD 0 ∧ ys[p]?.getD 0 < (D : Int)
  · have et : takeEnt xs ys D p q = xs[q (ys[p]?.getD 0).toNat]?.getD 0 := by rw [takeEnt, if_pos hr]
    rw [et]
    obtain ⟨R, hR⟩ : ∃ R : Nat, ys[p]?.getD 0 = (R : Int) := ⟨(ys[p]?.getD 0).toNat, by omega⟩
    rw [hR] at HG1 HYB ⊢
    rw [hR] at hr
    rw [Int.toNat_natCast]
    obtain ⟨q1, q2⟩ := HQ.out R (by omega)
    obtain ⟨Q, hQ⟩ : ∃ Q, Q = q R := ⟨_, rfl⟩
    rw [← hQ] at q1 q2 ⊢
    have HG2 : Hid (∀ W, Below w.heap.size w W → ∀ X nx cx, Ints W X nx ((R : Int) :: sub at' fl (l - fl)) → Calls Tryz.prog 32 #[.agg #[.slice (some ⟨db, doff, none⟩) dl dc, .slice xa n1 xc], .slice X nx cx] W fun e w' => e = .returned (.int .i64 (xs[Q]?.getD 0)) ∧ Below W.heap.size W w') := fun W hW X nx cx hX => rget_any _ _ _ ds _ _ _ xs _ _ _ _ W Q (HD'.out.below hW) hdc (HX.out.below hW) hX q1 q2
    have hRD : (R : Int) < (D : Int) := hr.2
    have lt1 : decide ((R : Int) < 0) = false := by simp
    have ge1 : decide ((D : Int) ≤ (R : Int)) = false := by simp; omega
    clear hr q1 q2 hQ et HQ
    go_enter Tryz.func19, Tryz.ntmps19
    go_wp2_with fail
    refine region_made 11 14 [fIs (.slice (some ⟨b, off, none⟩) 2 cap), fIs (.pointer (some ⟨b, off + 2, none⟩)), fIs (.agg #[.slice fa fl fc, .slice ya m1 yc]), fIs (.slice (some ⟨g, 0, none⟩) l c), fIs (.slice (some ⟨b, off, none⟩) 2 cap), fIs (.pointer (some ⟨b, off + 2, none⟩)), fIs (.pointer (some ⟨b, off + 2, none⟩)), fIs (.slice fa fl fc), fIs (.int .i64 (fl : Int)), fIs (.slice (some ⟨g, 0, none⟩) fl c), fIs (.int .i64 ((R : Int)))] (by kernel_rfl) (by kernel_rfl) (by kernel_rfl) (fun _ ⟨_, _⟩ ⟨_, _⟩ _ e h => by cases e; exact h) ⟨fIs_good _, fIs_good _, fIs_good _, fIs_good _, fIs_good _, fIs_good _, fIs_good _, fIs_good _, fIs_good _, fIs_good _, fIs_good _, trivial⟩ ?mk ?rest
    case mk =>
      refine ⟨fun u wz hb hd => ?_, fun u wz hb hd => ?_, fun u wz hb hd => ?_, fun u wz hb hd => ?_, fun u wz hb hd => ?_, fun u wz hb hd => ?_, fun u wz hb hd => ?_, fun u wz hb hd => ?_, fun u wz hb hd => ?_, fun u wz hb hd => ?_, fun u wz hb hd => ?_, trivial⟩
      all_goals simp only [Act.put, List.setIfInBounds_toArray, List.set_cons_zero, List.set_cons_succ]
      · go_simp
        exact ⟨rfl, Below.refl _ _, fun h => by cases h⟩
      · have e0 : u 0 = .slice (some ⟨b, off, none⟩) 2 cap := hd 0 (by omega) (by kernel_rfl)
        rw [e0]
        go_simp
        exact ⟨rfl, Below.refl _ _, fun h => by cases h⟩
      · have e1 : u 1 = .pointer (some ⟨b, off + 2, none⟩) := hd 1 (by omega) (by kernel_rfl)
        rw [e1]
        have k2' := (hb.cell (p := ⟨b, off + 2, none⟩) (lt_of_cell k2)).trans k2
        have k3' := (hb.cell (p := ⟨b, off + 3, none⟩) (lt_of_cell k3)).trans k3
        go_simp
        exact ⟨rfl, Below.refl _ _, fun h => by cases h⟩
      · go_simp
        exact ⟨rfl, Below.refl _ _, fun h => by cases h⟩
      · go_simp
        exact ⟨rfl, Below.refl _ _, fun h => by cases h⟩
      · have e4 : u 4 = .slice (some ⟨b, off, none⟩) 2 cap := hd 4 (by omega) (by kernel_rfl)
        rw [e4]
        go_simp
        exact ⟨rfl, Below.refl _ _, fun h => by cases h⟩
      · have e5 : u 5 = .pointer (some ⟨b, off + 2, none⟩) := hd 5 (by omega) (by kernel_rfl)
        rw [e5]
        go_simp
        exact ⟨rfl, Below.refl _ _, fun h => by cases h⟩
      · have e6 : u 6 = .pointer (some ⟨b, off + 2, none⟩) := hd 6 (by omega) (by kernel_rfl)
        rw [e6]
        have k2' := (hb.cell (p := ⟨b, off + 2, none⟩) (lt_of_cell k2)).trans k2
        go_simp
        exact ⟨rfl, Below.refl _ _, fun h => by cases h⟩
      · have e7 : u 7 = .slice fa fl fc := hd 7 (by omega) (by kernel_rfl)
        rw [e7]
        go_simp
        exact ⟨rfl, Below.refl _ _, fun h => by cases h⟩
      · have e3 : u 3 = .slice (some ⟨g, 0, none⟩) l c := hd 3 (by omega) (by kernel_rfl)
        have e8 : u 8 = .int .i64 (fl : Int) := hd 8 (by omega) (by kernel_rfl)
        rw [e3, e8]
        go_simp
        exact ⟨rfl, Below.refl _ _, fun h => by cases h⟩
      · have e2 : u 2 = .agg #[.slice fa fl fc, .slice ya m1 yc] := hd 2 (by omega) (by kernel_rfl)
        have e9 : u 9 = .slice (some ⟨g, 0, none⟩) fl c := hd 9 (by omega) (by kernel_rfl)
        rw [e2, e9]
        go_simp
        refine (HG1.out wz (Below.on HB1.out hb)).mono ?_
        rintro e w2 ⟨rfl, hb2⟩
        exact ⟨rfl, hb2, fun h => by cases h⟩
    case rest =>
      intro u wz hb hf hp
      have f0 : u 0 = .slice (some ⟨b, off, none⟩) 2 cap := hf 0 (by omega)
      have f1 : u 1 = .pointer (some ⟨b, off + 2, none⟩) := hf 1 (by omega)
      have f2 : u 2 = .agg #[.slice fa fl fc, .slice ya m1 yc] := hf 2 (by omega)
      have f3 : u 3 = .slice (some ⟨g, 0, none⟩) l c := hf 3 (by omega)
      have f4 : u 4 = .slice (some ⟨b, off, none⟩) 2 cap := hf 4 (by omega)
      have f5 : u 5 = .pointer (some ⟨b, off + 2, none⟩) := hf 5 (by omega)
      have f6 : u 6 = .pointer (some ⟨b, off + 2, none⟩) := hf 6 (by omega)
      have f7 : u 7 = .slice fa fl fc := hf 7 (by omega)
      have f8 : u 8 = .int .i64 (fl : Int) := hf 8 (by omega)
      have f9 : u 9 = .slice (some ⟨g, 0, none⟩) fl c := hf 9 (by omega)
      have f10 : u 10 = .int .i64 ((R : Int)) := hf 10 (by omega)
      refine UptoW.rest 1 11 (by rfl) (by kernel_rfl) ?_
      simp only [List.take, List.drop, putOps, Act.put, List.setIfInBounds_toArray, List.set_cons_zero, List.set_cons_succ, Nat.reduceAdd, f0, f1, f2, f3, f4, f5, f6, f7, f8, f9, f10]
      clear f0 f1 f2 f3 f4 f5 f6 f7 f8 f9 f10 hf hp
      have HBz := hide (Below.on HB1.out hb)
      refine wpList_plain rfl (fun K hK => ?_)
      go_simp
      refine hK _ _ (wpList_nil ?_)
      clear hK K
      replace k0 := (hb.cell (p := ⟨b, off, none⟩) (lt_of_cell k0)).trans k0
      replace k1 := (hb.cell (p := ⟨b, off + 1, none⟩) (lt_of_cell k1)).trans k1
      replace k2 := (hb.cell (p := ⟨b, off + 2, none⟩) (lt_of_cell k2)).trans k2
      replace k3 := (hb.cell (p := ⟨b, off + 3, none⟩) (lt_of_cell k3)).trans k3
      have zd := (HBz.out.cell (p := ⟨db, doff, none⟩) hdb).trans HDC.out
      clear hb o0 o1 o2 o3 o4 o5 o6
      go_wp2_with fail
      refine region_made 14 18 [fIs (.slice (some ⟨b, off, none⟩) 2 cap), fIs (.pointer (some ⟨b, off, none⟩)), fIs (.agg #[.slice (some ⟨db, doff, none⟩) dl dc, .slice xa n1 xc]), fIs (.int .i64 (R : Int)), fLst [(R : Int)], fIs (.slice (some ⟨g, 0, none⟩) l c), fIs (.slice (some ⟨b, off, none⟩) 2 cap), fIs (.pointer (some ⟨b, off + 2, none⟩)), fIs (.pointer (some ⟨b, off + 2, none⟩)), fIs (.slice fa fl fc), fIs (.int .i64 (fl : Int)), fIs (.slice SX (l - fl) (c - fl)), fLst ((R : Int) :: sub at' fl (l - fl)), fIs (.int .i64 (xs[Q]?.getD 0))] (by kernel_rfl) (by kernel_rfl) (by kernel_rfl) (fun _ ⟨_, _⟩ ⟨_, _⟩ _ e h => by cases e; exact h) ⟨fIs_good _, fIs_good _, fIs_good _, fIs_good _, fLst_good _, fIs_good _, fIs_good _, fIs_good _, fIs_good _, fIs_good _, fIs_good _, fIs_good _, fLst_good _, fIs_good _, trivial⟩ ?mk ?rest
      case mk =>
        refine ⟨fun u wz hb hd => ?_, fun u wz hb hd => ?_, fun u wz hb hd => ?_, fun u wz hb hd => ?_, fun u wz hb hd => ?_, fun u wz hb hd => ?_, fun u wz hb hd => ?_, fun u wz hb hd => ?_, fun u wz hb hd => ?_, fun u wz hb hd => ?_, fun u wz hb hd => ?_, fun u wz hb hd => ?_, fun u wz hb hd => ?_, fun u wz hb hd => ?_, trivial⟩
        all_goals simp only [Act.put, List.setIfInBounds_toArray, List.set_cons_zero, List.set_cons_succ]
        · go_simp
          exact ⟨rfl, Below.refl _ _, fun h => by cases h⟩
        · have e0 : u 0 = .slice (some ⟨b, off, none⟩) 2 cap := hd 0 (by omega) (by kernel_rfl)
          rw [e0]
          go_simp
          exact ⟨rfl, Below.refl _ _, fun h => by cases h⟩
        · have e1 : u 1 = .pointer (some ⟨b, off, none⟩) := hd 1 (by omega) (by kernel_rfl)
          rw [e1]
          have k0' := (hb.cell (p := ⟨b, off, none⟩) (lt_of_cell k0)).trans k0
          have k1' := (hb.cell (p := ⟨b, off + 1, none⟩) (lt_of_cell k1)).trans k1
          go_simp
          exact ⟨rfl, Below.refl _ _, fun h => by cases h⟩
        · go_simp
          exact ⟨rfl, Below.refl _ _, fun h => by cases h⟩
        · have e3 : u 3 = .int .i64 (R : Int) := hd 3 (by omega) (by kernel_rfl)
          rw [e3]
          go_simp
          exact ⟨⟨_, _, _, rfl, lst_one wz R ⟨by omega, by omega⟩ _⟩, (Below.refl _ _).alloc (Nat.le_refl _) _, fun h => by cases h⟩
        · go_simp
          exact ⟨rfl, Below.refl _ _, fun h => by cases h⟩
        · go_simp
          exact ⟨rfl, Below.refl _ _, fun h => by cases h⟩
        · have e6 : u 6 = .slice (some ⟨b, off, none⟩) 2 cap := hd 6 (by omega) (by kernel_rfl)
          rw [e6]
          go_simp
          exact ⟨rfl, Below.refl _ _, fun h => by cases h⟩
        · have e7 : u 7 = .pointer (some ⟨b, off + 2, none⟩) := hd 7 (by omega) (by kernel_rfl)
          rw [e7]
          go_simp
          exact ⟨rfl, Below.refl _ _, fun h => by cases h⟩
        · have e8 : u 8 = .pointer (some ⟨b, off + 2, none⟩) := hd 8 (by omega) (by kernel_rfl)
          rw [e8]
          have k2' := (hb.cell (p := ⟨b, off + 2, none⟩) (lt_of_cell k2)).trans k2
          go_simp
          exact ⟨rfl, Below.refl _ _, fun h => by cases h⟩
        · have e9 : u 9 = .slice fa fl fc := hd 9 (by omega) (by kernel_rfl)
          rw [e9]
          go_simp
          exact ⟨rfl, Below.refl _ _, fun h => by cases h⟩
        · have e5 : u 5 = .slice (some ⟨g, 0, none⟩) l c := hd 5 (by omega) (by kernel_rfl)
          have e10 : u 10 = .int .i64 (fl : Int) := hd 10 (by omega) (by kernel_rfl)
          rw [e5, e10]
          go_simp
          exact ⟨(show Value.slice (if c = fl then some ⟨g, 0, none⟩ else some ⟨g, fl, none⟩) (l - fl) (c - fl) = .slice SX (l - fl) (c - fl) by rw [HSX.out, Nat.zero_add]), Below.refl _ _, fun h => by cases h⟩
        · obtain ⟨B4, n4, c4, e4, h4⟩ := hd 4 (by omega) (by kernel_rfl)
          have e11 : u 11 = .slice SX (l - fl) (c - fl) := hd 11 (by omega) (by kernel_rfl)
          rw [e4, e11]
          go_simp
          refine (both_any B4 n4 c4 [(R : Int)] _ _ _ (sub at' fl (l - fl)) wz h4 ((HSB.out.below (Below.on HBz.out hb))) (by have := h4.1.1; simp at this; omega)).mono ?_
          rintro e w2 ⟨⟨v, rfl, hv⟩, hb2⟩
          obtain ⟨X, nx, cx, rfl, hl2, _⟩ := hv
          exact ⟨⟨X, nx, cx, rfl, hl2⟩, hb2, fun h => by cases h⟩
        · have e2 : u 2 = .agg #[.slice (some ⟨db, doff, none⟩) dl dc, .slice xa n1 xc] := hd 2 (by omega) (by kernel_rfl)
          obtain ⟨X, nx, cx, e12, h12⟩ := hd 12 (by omega) (by kernel_rfl)
          rw [e2, e12]
          go_simp
          refine (HG2.out wz (Below.on HBz.out hb) X nx cx h12.1).mono ?_
          rintro e w2 ⟨rfl, hb2⟩
          exact ⟨rfl, hb2, fun h => by cases h⟩
      case rest =>
        intro u wz hb hf hp
        have f0 : u 0 = .slice (some ⟨b, off, none⟩) 2 cap := hf 0 (by omega)
        have f1 : u 1 = .pointer (some ⟨b, off, none⟩) := hf 1 (by omega)
        have f2 : u 2 = .agg #[.slice (some ⟨db, doff, none⟩) dl dc, .slice xa n1 xc] := hf 2 (by omega)
        have f3 : u 3 = .int .i64 (R : Int) := hf 3 (by omega)
        obtain ⟨_, _, _, f4, _⟩ := hf 4 (by omega)
        have f5 : u 5 = .slice (some ⟨g, 0, none⟩) l c := hf 5 (by omega)
        have f6 : u 6 = .slice (some ⟨b, off, none⟩) 2 cap := hf 6 (by omega)
        have f7 : u 7 = .pointer (some ⟨b, off + 2, none⟩) := hf 7 (by omega)
        have f8 : u 8 = .pointer (some ⟨b, off + 2, none⟩) := hf 8 (by omega)
        have f9 : u 9 = .slice fa fl fc := hf 9 (by omega)
        have f10 : u 10 = .int .i64 (fl : Int) := hf 10 (by omega)
        have f11 : u 11 = .slice SX (l - fl) (c - fl) := hf 11 (by omega)
        obtain ⟨_, _, _, f12, _⟩ := hf 12 (by omega)
        have f13 : u 13 = .int .i64 (xs[Q]?.getD 0) := hf 13 (by omega)
        refine UptoW.rest 1 14 (by rfl) (by kernel_rfl) ?_
        simp only [List.take, List.drop, putOps, Act.put, List.setIfInBounds_toArray, List.set_cons_zero, List.set_cons_succ, Nat.reduceAdd, f0, f1, f2, f3, f4, f5, f6, f7, f8, f9, f10, f11, f12, f13]
        clear f0 f1 f2 f3 f4 f5 f6 f7 f8 f9 f10 f11 f12 f13 hf hp
        have HBy := hide (Below.on HBz.out hb)
        refine wpList_plain rfl (fun K hK => ?_)
        go_simp
        refine hK _ _ (wpList_nil ?_)
        clear hK K hb k0 k1 k2 k3 zd
        go_wp2
        go_ret
        exact ⟨rfl, HBy.out⟩
  · have et : takeEnt xs ys D p q = 0 := by rw [takeEnt, if_neg hr]
    rw [et]
    obtain ⟨R, hR⟩ : ∃ R : Int, ys[p]?.getD 0 = R := ⟨_, rfl⟩
    rw [hR] at HG1 HYB
    rw [hR] at hr
    clear et HQ HSB HX HD'
    by_cases hn : R < 0
    · have lt1 : decide (R < 0) = true := by simp [hn]
      clear hr
      go_enter Tryz.func19, Tryz.ntmps19
      go_wp2_with fail
      refine region_made 11 14 [fIs (.slice (some ⟨b, off, none⟩) 2 cap), fIs (.pointer (some ⟨b, off + 2, none⟩)), fIs (.agg #[.slice fa fl fc, .slice ya m1 yc]), fIs (.slice (some ⟨g, 0, none⟩) l c), fIs (.slice (some ⟨b, off, none⟩) 2 cap), fIs (.pointer (some ⟨b, off + 2, none⟩)), fIs (.pointer (some ⟨b, off + 2, none⟩)), fIs (.slice fa fl fc), fIs (.int .i64 (fl : Int)), fIs (.slice (some ⟨g, 0, none⟩) fl c), fIs (.int .i64 (R))] (by kernel_rfl) (by kernel_rfl) (by kernel_rfl) (fun _ ⟨_, _⟩ ⟨_, _⟩ _ e h => by cases e; exact h) ⟨fIs_good _, fIs_good _, fIs_good _, fIs_good _, fIs_good _, fIs_good _, fIs_good _, fIs_good _, fIs_good _, fIs_good _, fIs_good _, trivial⟩ ?mk ?rest
      case mk =>
        refine ⟨fun u wz hb hd => ?_, fun u wz hb hd => ?_, fun u wz hb hd => ?_, fun u wz hb hd => ?_, fun u wz hb hd => ?_, fun u wz hb hd => ?_, fun u wz hb hd => ?_, fun u wz hb hd => ?_, fun u wz hb hd => ?_, fun u wz hb hd => ?_, fun u wz hb hd => ?_, trivial⟩
        all_goals simp only [Act.put, List.setIfInBounds_toArray, List.set_cons_zero, List.set_cons_succ]
        · go_simp
          exact ⟨rfl, Below.refl _ _, fun h => by cases h⟩
        · have e0 : u 0 = .slice (some ⟨b, off, none⟩) 2 cap := hd 0 (by omega) (by kernel_rfl)
          rw [e0]
          go_simp
          exact ⟨rfl, Below.refl _ _, fun h => by cases h⟩
        · have e1 : u 1 = .pointer (some ⟨b, off + 2, none⟩) := hd 1 (by omega) (by kernel_rfl)
          rw [e1]
          have k2' := (hb.cell (p := ⟨b, off + 2, none⟩) (lt_of_cell k2)).trans k2
          have k3' := (hb.cell (p := ⟨b, off + 3, none⟩) (lt_of_cell k3)).trans k3
          go_simp
          exact ⟨rfl, Below.refl _ _, fun h => by cases h⟩
        · go_simp
          exact ⟨rfl, Below.refl _ _, fun h => by cases h⟩
        · go_simp
          exact ⟨rfl, Below.refl _ _, fun h => by cases h⟩
        · have e4 : u 4 = .slice (some ⟨b, off, none⟩) 2 cap := hd 4 (by omega) (by kernel_rfl)
          rw [e4]
          go_simp
          exact ⟨rfl, Below.refl _ _, fun h => by cases h⟩
        · have e5 : u 5 = .pointer (some ⟨b, off + 2, none⟩) := hd 5 (by omega) (by kernel_rfl)
          rw [e5]
          go_simp
          exact ⟨rfl, Below.refl _ _, fun h => by cases h⟩
        · have e6 : u 6 = .pointer (some ⟨b, off + 2, none⟩) := hd 6 (by omega) (by kernel_rfl)
          rw [e6]
          have k2' := (hb.cell (p := ⟨b, off + 2, none⟩) (lt_of_cell k2)).trans k2
          go_simp
          exact ⟨rfl, Below.refl _ _, fun h => by cases h⟩
        · have e7 : u 7 = .slice fa fl fc := hd 7 (by omega) (by kernel_rfl)
          rw [e7]
          go_simp
          exact ⟨rfl, Below.refl _ _, fun h => by cases h⟩
        · have e3 : u 3 = .slice (some ⟨g, 0, none⟩) l c := hd 3 (by omega) (by kernel_rfl)
          have e8 : u 8 = .int .i64 (fl : Int) := hd 8 (by omega) (by kernel_rfl)
          rw [e3, e8]
          go_simp
          exact ⟨rfl, Below.refl _ _, fun h => by cases h⟩
        · have e2 : u 2 = .agg #[.slice fa fl fc, .slice ya m1 yc] := hd 2 (by omega) (by kernel_rfl)
          have e9 : u 9 = .slice (some ⟨g, 0, none⟩) fl c := hd 9 (by omega) (by kernel_rfl)
          rw [e2, e9]
          go_simp
          refine (HG1.out wz (Below.on HB1.out hb)).mono ?_
          rintro e w2 ⟨rfl, hb2⟩
          exact ⟨rfl, hb2, fun h => by cases h⟩
      case rest =>
        intro u wz hb hf hp
        have f0 : u 0 = .slice (some ⟨b, off, none⟩) 2 cap := hf 0 (by omega)
        have f1 : u 1 = .pointer (some ⟨b, off + 2, none⟩) := hf 1 (by omega)
        have f2 : u 2 = .agg #[.slice fa fl fc, .slice ya m1 yc] := hf 2 (by omega)
        have f3 : u 3 = .slice (some ⟨g, 0, none⟩) l c := hf 3 (by omega)
        have f4 : u 4 = .slice (some ⟨b, off, none⟩) 2 cap := hf 4 (by omega)
        have f5 : u 5 = .pointer (some ⟨b, off + 2, none⟩) := hf 5 (by omega)
        have f6 : u 6 = .pointer (some ⟨b, off + 2, none⟩) := hf 6 (by omega)
        have f7 : u 7 = .slice fa fl fc := hf 7 (by omega)
        have f8 : u 8 = .int .i64 (fl : Int) := hf 8 (by omega)
        have f9 : u 9 = .slice (some ⟨g, 0, none⟩) fl c := hf 9 (by omega)
        have f10 : u 10 = .int .i64 (R) := hf 10 (by omega)
        refine UptoW.rest 1 11 (by rfl) (by kernel_rfl) ?_
        simp only [List.take, List.drop, putOps, Act.put, List.setIfInBounds_toArray, List.set_cons_zero, List.set_cons_succ, Nat.reduceAdd, f0, f1, f2, f3, f4, f5, f6, f7, f8, f9, f10]
        clear f0 f1 f2 f3 f4 f5 f6 f7 f8 f9 f10 hf hp
        have HBz := hide (Below.on HB1.out hb)
        refine wpList_plain rfl (fun K hK => ?_)
        go_simp
        refine hK _ _ (wpList_nil ?_)
        clear hK K hb k0 k1 k2 k3 o0 o1 o2 o3 o4 o5 o6
        go_wp2
        go_ret
        exact ⟨rfl, HBz.out⟩
    · have lt1 : decide (R < 0) = false := by simp; omega
      have ge1 : decide ((D : Int) ≤ R) = true := by simp; omega
      clear hr
      go_enter Tryz.func19, Tryz.ntmps19
      go_wp2_with fail
      refine region_made 11 14 [fIs (.slice (some ⟨b, off, none⟩) 2 cap), fIs (.pointer (some ⟨b, off + 2, none⟩)), fIs (.agg #[.slice fa fl fc, .slice ya m1 yc]), fIs (.slice (some ⟨g, 0, none⟩) l c), fIs (.slice (some ⟨b, off, none⟩) 2 cap), fIs (.pointer (some ⟨b, off + 2, none⟩)), fIs (.pointer (some ⟨b, off + 2, none⟩)), fIs (.slice fa fl fc), fIs (.int .i64 (fl : Int)), fIs (.slice (some ⟨g, 0, none⟩) fl c), fIs (.int .i64 (R))] (by kernel_rfl) (by kernel_rfl) (by kernel_rfl) (fun _ ⟨_, _⟩ ⟨_, _⟩ _ e h => by cases e; exact h) ⟨fIs_good _, fIs_good _, fIs_good _, fIs_good _, fIs_good _, fIs_good _, fIs_good _, fIs_good _, fIs_good _, fIs_good _, fIs_good _, trivial⟩ ?mk ?rest
      case mk =>
        refine ⟨fun u wz hb hd => ?_, fun u wz hb hd => ?_, fun u wz hb hd => ?_, fun u wz hb hd => ?_, fun u wz hb hd => ?_, fun u wz hb hd => ?_, fun u wz hb hd => ?_, fun u wz hb hd => ?_, fun u wz hb hd => ?_, fun u wz hb hd => ?_, fun u wz hb hd => ?_, trivial⟩
        all_goals simp only [Act.put, List.setIfInBounds_toArray, List.set_cons_zero, List.set_cons_succ]
        · go_simp
          exact ⟨rfl, Below.refl _ _, fun h => by cases h⟩
        · have e0 : u 0 = .slice (some ⟨b, off, none⟩) 2 cap := hd 0 (by omega) (by kernel_rfl)
          rw [e0]
          go_simp
          exact ⟨rfl, Below.refl _ _, fun h => by cases h⟩
        · have e1 : u 1 = .pointer (some ⟨b, off + 2, none⟩) := hd 1 (by omega) (by kernel_rfl)
          rw [e1]
          have k2' := (hb.cell (p := ⟨b, off + 2, none⟩) (lt_of_cell k2)).trans k2
          have k3' := (hb.cell (p := ⟨b, off + 3, none⟩) (lt_of_cell k3)).trans k3
          go_simp
          exact ⟨rfl, Below.refl _ _, fun h => by cases h⟩
        · go_simp
          exact ⟨rfl, Below.refl _ _, fun h => by cases h⟩
        · go_simp
          exact ⟨rfl, Below.refl _ _, fun h => by cases h⟩
        · have e4 : u 4 = .slice (some ⟨b, off, none⟩) 2 cap := hd 4 (by omega) (by kernel_rfl)
          rw [e4]
          go_simp
          exact ⟨rfl, Below.refl _ _, fun h => by cases h⟩
        · have e5 : u 5 = .pointer (some ⟨b, off + 2, none⟩) := hd 5 (by omega) (by kernel_rfl)
          rw [e5]
          go_simp
          exact ⟨rfl, Below.refl _ _, fun h => by cases h⟩
        · have e6 : u 6 = .pointer (some ⟨b, off + 2, none⟩) := hd 6 (by omega) (by kernel_rfl)
          rw [e6]
          have k2' := (hb.cell (p := ⟨b, off + 2, none⟩) (lt_of_cell k2)).trans k2
          go_simp
          exact ⟨rfl, Below.refl _ _, fun h => by cases h⟩
        · have e7 : u 7 = .slice fa fl fc := hd 7 (by omega) (by kernel_rfl)
          rw [e7]
          go_simp
          exact ⟨rfl, Below.refl _ _, fun h => by cases h⟩
        · have e3 : u 3 = .slice (some ⟨g, 0, none⟩) l c := hd 3 (by omega) (by kernel_rfl)
          have e8 : u 8 = .int .i64 (fl : Int) := hd 8 (by omega) (by kernel_rfl)
          rw [e3, e8]
          go_simp
          exact ⟨rfl, Below.refl _ _, fun h => by cases h⟩
        · have e2 : u 2 = .agg #[.slice fa fl fc, .slice ya m1 yc] := hd 2 (by omega) (by kernel_rfl)
          have e9 : u 9 = .slice (some ⟨g, 0, none⟩) fl c := hd 9 (by omega) (by kernel_rfl)
          rw [e2, e9]
          go_simp
          refine (HG1.out wz (Below.on HB1.out hb)).mono ?_
          rintro e w2 ⟨rfl, hb2⟩
          exact ⟨rfl, hb2, fun h => by cases h⟩
      case rest =>
        intro u wz hb hf hp
        have f0 : u 0 = .slice (some ⟨b, off, none⟩) 2 cap := hf 0 (by omega)
        have f1 : u 1 = .pointer (some ⟨b, off + 2, none⟩) := hf 1 (by omega)
        have f2 : u 2 = .agg #[.slice fa fl fc, .slice ya m1 yc] := hf 2 (by omega)
        have f3 : u 3 = .slice (some ⟨g, 0, none⟩) l c := hf 3 (by omega)
        have f4 : u 4 = .slice (some ⟨b, off, none⟩) 2 cap := hf 4 (by omega)
        have f5 : u 5 = .pointer (some ⟨b, off + 2, none⟩) := hf 5 (by omega)
        have f6 : u 6 = .pointer (some ⟨b, off + 2, none⟩) := hf 6 (by omega)
        have f7 : u 7 = .slice fa fl fc := hf 7 (by omega)
        have f8 : u 8 = .int .i64 (fl : Int) := hf 8 (by omega)
        have f9 : u 9 = .slice (some ⟨g, 0, none⟩) fl c := hf 9 (by omega)
        have f10 : u 10 = .int .i64 (R) := hf 10 (by omega)
        refine UptoW.rest 1 11 (by rfl) (by kernel_rfl) ?_
        simp only [List.take, List.drop, putOps, Act.put, List.setIfInBounds_toArray, List.set_cons_zero, List.set_cons_succ, Nat.reduceAdd, f0, f1, f2, f3, f4, f5, f6, f7, f8, f9, f10]
        clear f0 f1 f2 f3 f4 f5 f6 f7 f8 f9 f10 hf hp
        have HBz := hide (Below.on HB1.out hb)
        refine wpList_plain rfl (fun K hK => ?_)
        go_simp
        refine hK _ _ (wpList_nil ?_)
        clear hK K
        replace k0 := (hb.cell (p := ⟨b, off, none⟩) (lt_of_cell k0)).trans k0
        have zd := (HBz.out.cell (p := ⟨db, doff, none⟩) hdb).trans HDC.out
        clear hb k1 k2 k3 o0 o1 o2 o3 o4 o5 o6
        go_wp2
        go_ret
        exact ⟨rfl, HBz.out⟩
end Go.Proofs.YteoobeldmicjhaaGreat.V
