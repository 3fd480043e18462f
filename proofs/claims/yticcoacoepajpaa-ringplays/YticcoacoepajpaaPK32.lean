/-
  Contract: the document's fits.
-/
import Derived.Test.YticcoacoepajpaaPK31
import Derived.Test.YticcoacoepajpaaPK11
namespace Go.Proofs.Yticcoacoepajpaa.V
open Go Go.RowKit
set_option linter.unusedVariables false
set_option linter.unusedSimpArgs false

theorem look_none (t : Nat) : ∀ l : List (Nat × List Int), (∀ (k : Nat) (x : Nat × List Int), l[k]? = some x → x.1 ≠ t) → lookL t l = none
  | [], _ => rfl
  | x :: l, h => by
    unfold lookL
    rw [if_neg (h 0 x rfl)]
    exact look_none t l fun k y hk => h (k + 1) y hk
theorem look_some (t : Nat) : ∀ (l : List (Nat × List Int)) (k : Nat) (x : Nat × List Int), l[k]? = some x → x.1 = t → lookL t l ≠ none
  | [], k, x, h, _ => by simp at h
  | y :: l, 0, x, h, e => by
    have : y = x := by simpa using h
    subst this
    unfold lookL
    rw [if_pos e]
    simp
  | y :: l, k + 1, x, h, e => by
    unfold lookL
    split
    · simp
    · exact look_some t l k x (by simpa using h) e
set_option maxRecDepth 20000 in
set_option maxHeartbeats 8000000 in
theorem rFits_any (q : Rs) (d n me : Nat) (s : St) (x : Nt) (y : Sl) (W : World) (h : RsA W q n s) (hok : StOk d n me s) (hy : Ints W y.a y.n x.data) (hyc : y.n ≤ y.c) :
    Calls Try.prog 40 #[.int .i64 (d : Int), .int .i64 (n : Int), .int .i64 (me : Int), q.v s, ntV x y] W fun e w' => e = .returned (.bool (fitsM d n me s x)) ∧ Below W.heap.size W w' := by
  have hn1 := hok.n1
  have hn16 := hok.n16
  have hme := hok.mel
  have hpl : q.p.n = n := by rw [← h.parts.1]; exact hok.lp
  have HP := hide h.parts
  have HE := hide h.early
  have HOK := hide hok
  obtain ⟨⟨oa, on, oc⟩, ⟨pa, pn, pc⟩, ⟨ea, en, ec⟩⟩ := q
  obtain ⟨xf, xt, xs, xd⟩ := x
  obtain ⟨ya, yn, yc⟩ := y
  simp only at hpl HP HE hy hyc
  subst hpl
  have hyl : xd.length = yn := hy.1
  unfold Rs.v ntV
  simp only
  obtain ⟨n, hnn⟩ : ∃ n, n = pn := ⟨_, rfl⟩
  subst hnn
  have hnb : notN d n ≤ 30 := notN_le hn16
  obtain ⟨fm, hfm⟩ : ∃ fm, fm = fitsM d n me s ⟨xf, xt, xs, xd⟩ := ⟨_, rfl⟩
  rw [← hfm]
  have HFM0 := hide hfm
  obtain ⟨V, hV⟩ : ∃ V, V = (W.alloc (.cells #[.slice oa on oc, .slice pa n pc, .int .i64 s.sent, .int .i64 s.taken, .slice ea en ec] 60)).alloc (.cells #[.int .i64 xf, .int .i64 xt, .int .i64 xs, .slice ya yn yc] 39) := ⟨_, rfl⟩
  have hB : Below W.heap.size W V := by rw [hV]; exact (bl_new _).alloc (by simp) _
  have hxb : V.heap[W.heap.size]? = some (.cells #[.slice oa on oc, .slice pa n pc, .int .i64 s.sent, .int .i64 s.taken, .slice ea en ec] 60 (0, 0)) := by
    rw [hV]; exact ((bl_new (w := W.alloc _) _).block _ (by simp)).trans (World.alloc_heap_new _ _)
  have hnb9 : V.heap[W.heap.size + 1]? = some (.cells #[.int .i64 xf, .int .i64 xt, .int .i64 xs, .slice ya yn yc] 39 (0, 0)) := by
    rw [hV]; exact World.alloc_heap_new' _ _ (by simp)
  have HV := hide hV
  obtain ⟨bx, hbx⟩ : ∃ bx, bx = W.heap.size := ⟨_, rfl⟩
  obtain ⟨nb, hnbx⟩ : ∃ nb, nb = W.heap.size + 1 := ⟨_, rfl⟩
  rw [← hbx] at hxb
  rw [← hnbx] at hnb9
  have b1 : V.cell? ⟨bx, 1, none⟩ = some (.slice pa n pc) := by simp only [World.cell?, hxb]; rfl
  have b3 : V.cell? ⟨bx, 3, none⟩ = some (.int .i64 s.taken) := by simp only [World.cell?, hxb]; rfl
  have b4 : V.cell? ⟨bx, 4, none⟩ = some (.slice ea en ec) := by simp only [World.cell?, hxb]; rfl
  have bz := (Array.getElem?_eq_some_iff.1 hxb).1
  have n0 : V.cell? ⟨nb, 0, none⟩ = some (.int .i64 xf) := by simp only [World.cell?, hnb9]; rfl
  have n1 : V.cell? ⟨nb, 1, none⟩ = some (.int .i64 xt) := by simp only [World.cell?, hnb9]; rfl
  have n2 : V.cell? ⟨nb, 2, none⟩ = some (.int .i64 xs) := by simp only [World.cell?, hnb9]; rfl
  have n3 : V.cell? ⟨nb, 3, none⟩ = some (.slice ya yn yc) := by simp only [World.cell?, hnb9]; rfl
  have nz := (Array.getElem?_eq_some_iff.1 hnb9).1
  obtain ⟨N, hN⟩ : ∃ N, N = notN d n := ⟨_, rfl⟩
  have hno := fun w => rNotes_any (d : Int) n w hn1 hn16
  have hdN : notN (d : Int).toNat n = N := by rw [hN]; rfl
  rw [hdN] at hno
  rw [← hN] at hnb
  have HNO := hide hno
  have HN := hide hN
  have HB := hide hB
  have HYL := hide hyl
  clear h hok hxb hnb9 hdN hno hN hB hfm hyl
  go_enter Try.func40, Try.ntmps40
  go_upto_region 1 with fail
  rw [← hV, ← hnbx, ← hbx]
  clear hV hbx hnbx
  unfold fitsM at HFM0
  simp only at HFM0
  by_cases a : xt = (me : Int)
  case neg =>
    have HFM : Hid (fm = false) := by show fm = false; rw [HFM0.out]; rw [show decide (xt = (me : Int)) = false by simpa using a]; rfl
    have q1 : (xt != (me : Int)) = true := by simpa using a
    have q2 : (xt == (me : Int)) = false := by simpa using a
    clear HFM0
    refine region_madeG 30 32 [fIs (.pointer (some ⟨nb, 1, none⟩)), fIs (.int .i64 xt), fIs (.int .i64 (me : Int)), fIs (.bool true), fIs (.bool true), fIs undef, fIs undef, fIs undef, fIs undef, fIs undef, fIs (.bool true), fIs (.bool true), fIs undef, fIs undef, fIs undef, fIs undef, fIs undef, fIs undef, fIs (.bool true), fIs (.bool true), fIs undef, fIs undef, fIs undef, fIs undef, fIs undef, fIs undef, fIs undef, fIs undef, fIs undef, fIs (.bool true)] [none, none, none, none, some true, none, none, none, none, none, none, some true, none, none, none, none, none, none, none, some true, none, none, none, none, none, none, none, none, none, none] [true, true, true, true, true, false, false, false, false, false, true, true, false, false, false, false, false, false, true, true, false, false, false, false, false, false, false, false, false, true] (by kernel_rfl) (by kernel_rfl) (by kernel_rfl) (fun ch p q w3 e h => by obtain ⟨t1, d1⟩ := p; obtain ⟨t2, d2⟩ := q; cases e; exact h) ⟨fIs_good _, fIs_good _, fIs_good _, fIs_good _, fIs_good _, fIs_good _, fIs_good _, fIs_good _, fIs_good _, fIs_good _, fIs_good _, fIs_good _, fIs_good _, fIs_good _, fIs_good _, fIs_good _, fIs_good _, fIs_good _, fIs_good _, fIs_good _, fIs_good _, fIs_good _, fIs_good _, fIs_good _, fIs_good _, fIs_good _, fIs_good _, fIs_good _, fIs_good _, fIs_good _, trivial⟩ ⟨fun _ _ h => h, fun _ _ h => h, fun _ _ h => h, rfl⟩ ?mkQ1 ?restQ1
    case mkQ1 =>
      refine ⟨fun u wz hb hd => ?_, fun u wz hb hd => ?_, fun u wz hb hd => ?_, fun u wz hb hd => ?_, fun u wz hb hd => ?_, ⟨fun _ => rfl, rfl⟩, ⟨fun _ => rfl, rfl⟩, ⟨fun _ => rfl, rfl⟩, ⟨fun _ => rfl, rfl⟩, ⟨fun _ => rfl, rfl⟩, fun u wz hb hd => ?_, fun u wz hb hd => ?_, ⟨fun _ => rfl, rfl⟩, ⟨fun _ => rfl, rfl⟩, ⟨fun _ => rfl, rfl⟩, ⟨fun _ => rfl, rfl⟩, ⟨fun _ => rfl, rfl⟩, ⟨fun _ => rfl, rfl⟩, fun u wz hb hd => ?_, fun u wz hb hd => ?_, ⟨fun _ => rfl, rfl⟩, ⟨fun _ => rfl, rfl⟩, ⟨fun _ => rfl, rfl⟩, ⟨fun _ => rfl, rfl⟩, ⟨fun _ => rfl, rfl⟩, ⟨fun _ => rfl, rfl⟩, ⟨fun _ => rfl, rfl⟩, ⟨fun _ => rfl, rfl⟩, ⟨fun _ => rfl, rfl⟩, fun u wz hb hd => ?_, trivial⟩
      all_goals simp only [Act.put, List.setIfInBounds_toArray, List.set_cons_zero, List.set_cons_succ]
      · go_simp
        exact ⟨rfl, Below.refl _ _, fun h => by cases h⟩
      · have e0 : u 0 = .pointer (some ⟨nb, 1, none⟩) := hd 0 (by omega) (by kernel_rfl)
        rw [e0]
        have n1' := (hb.cell (p := ⟨nb, 1, none⟩) (lt_of_cell n1)).trans n1
        go_simp
        exact ⟨rfl, Below.refl _ _, fun h => by cases h⟩
      · go_simp
        exact ⟨rfl, Below.refl _ _, fun h => by cases h⟩
      · have e1 : u 1 = .int .i64 xt := hd 1 (by omega) (by kernel_rfl)
        have e2 : u 2 = .int .i64 (me : Int) := hd 2 (by omega) (by kernel_rfl)
        rw [e1, e2]
        go_simp
        exact ⟨rfl, Below.refl _ _, fun h => by cases h⟩
      · have e3 : u 3 = .bool true := hd 3 (by omega) (by kernel_rfl)
        rw [e3]
        go_simp
        exact ⟨rfl, Below.refl _ _, fun h => by cases h⟩
      · have e4 : u 4 = .bool true := hd 4 (by omega) (by kernel_rfl)
        rw [e4]
        go_simp
        exact ⟨rfl, Below.refl _ _, fun h => by cases h⟩
      · have e10 : u 10 = .bool true := hd 10 (by omega) (by kernel_rfl)
        rw [e10]
        go_simp
        exact ⟨rfl, Below.refl _ _, fun h => by cases h⟩
      · have e11 : u 11 = .bool true := hd 11 (by omega) (by kernel_rfl)
        rw [e11]
        go_simp
        exact ⟨rfl, Below.refl _ _, fun h => by cases h⟩
      · have e18 : u 18 = .bool true := hd 18 (by omega) (by kernel_rfl)
        rw [e18]
        go_simp
        exact ⟨rfl, Below.refl _ _, fun h => by cases h⟩
      · have e19 : u 19 = .bool true := hd 19 (by omega) (by kernel_rfl)
        rw [e19]
        go_simp
        exact ⟨rfl, Below.refl _ _, fun h => by cases h⟩
    case restQ1 =>
      intro u wz hb hf hp
      have f0 : u 0 = .pointer (some ⟨nb, 1, none⟩) := hf 0 (by omega)
      have f1 : u 1 = .int .i64 xt := hf 1 (by omega)
      have f2 : u 2 = .int .i64 (me : Int) := hf 2 (by omega)
      have f3 : u 3 = .bool true := hf 3 (by omega)
      have f4 : u 4 = .bool true := hf 4 (by omega)
      have f5 : u 5 = undef := hf 5 (by omega)
      have f6 : u 6 = undef := hf 6 (by omega)
      have f7 : u 7 = undef := hf 7 (by omega)
      have f8 : u 8 = undef := hf 8 (by omega)
      have f9 : u 9 = undef := hf 9 (by omega)
      have f10 : u 10 = .bool true := hf 10 (by omega)
      have f11 : u 11 = .bool true := hf 11 (by omega)
      have f12 : u 12 = undef := hf 12 (by omega)
      have f13 : u 13 = undef := hf 13 (by omega)
      have f14 : u 14 = undef := hf 14 (by omega)
      have f15 : u 15 = undef := hf 15 (by omega)
      have f16 : u 16 = undef := hf 16 (by omega)
      have f17 : u 17 = undef := hf 17 (by omega)
      have f18 : u 18 = .bool true := hf 18 (by omega)
      have f19 : u 19 = .bool true := hf 19 (by omega)
      have f20 : u 20 = undef := hf 20 (by omega)
      have f21 : u 21 = undef := hf 21 (by omega)
      have f22 : u 22 = undef := hf 22 (by omega)
      have f23 : u 23 = undef := hf 23 (by omega)
      have f24 : u 24 = undef := hf 24 (by omega)
      have f25 : u 25 = undef := hf 25 (by omega)
      have f26 : u 26 = undef := hf 26 (by omega)
      have f27 : u 27 = undef := hf 27 (by omega)
      have f28 : u 28 = undef := hf 28 (by omega)
      have f29 : u 29 = .bool true := hf 29 (by omega)
      refine UptoW.rest 0 30 (by rfl) (by kernel_rfl) ?_
      simp only [List.take, List.drop, putOps, Act.put, List.setIfInBounds_toArray, List.set_cons_zero, List.set_cons_succ, Nat.reduceAdd, f0, f1, f2, f3, f4, f5, f6, f7, f8, f9, f10, f11, f12, f13, f14, f15, f16, f17, f18, f19, f20, f21, f22, f23, f24, f25, f26, f27, f28, f29]
      clear f0 f1 f2 f3 f4 f5 f6 f7 f8 f9 f10 f11 f12 f13 f14 f15 f16 f17 f18 f19 f20 f21 f22 f23 f24 f25 f26 f27 f28 f29 hf hp
      have HBZ := hide hb
      clear hb
      go_wp2_with fail
      go_ret
      exact ⟨by rw [HFM.out]; rfl, bl_on HB.out HBZ.out⟩
  subst a
  by_cases b : xs < (s.taken : Int)
  case pos =>
    have HFM : Hid (fm = false) := by show fm = false; rw [HFM0.out]; rw [show decide ((s.taken : Int) ≤ xs) = false by simp; omega]; simp
    clear HFM0
    refine region_madeG 30 32 [fIs (.pointer (some ⟨nb, 1, none⟩)), fIs (.int .i64 (me : Int)), fIs (.int .i64 (me : Int)), fIs (.bool false), fIs (.bool false), fIs (.pointer (some ⟨nb, 2, none⟩)), fIs (.int .i64 xs), fIs (.pointer (some ⟨bx, 3, none⟩)), fIs (.int .i64 (s.taken : Int)), fIs (.bool true), fIs (.bool true), fIs (.bool true), fIs undef, fIs undef, fIs undef, fIs undef, fIs undef, fIs undef, fIs (.bool true), fIs (.bool true), fIs undef, fIs undef, fIs undef, fIs undef, fIs undef, fIs undef, fIs undef, fIs undef, fIs undef, fIs (.bool true)] [none, none, none, none, some false, none, none, none, none, none, none, some true, none, none, none, none, none, none, none, some true, none, none, none, none, none, none, none, none, none, none] [true, true, true, true, true, true, true, true, true, true, true, true, false, false, false, false, false, false, true, true, false, false, false, false, false, false, false, false, false, true] (by kernel_rfl) (by kernel_rfl) (by kernel_rfl) (fun ch p q w3 e h => by obtain ⟨t1, d1⟩ := p; obtain ⟨t2, d2⟩ := q; cases e; exact h) ⟨fIs_good _, fIs_good _, fIs_good _, fIs_good _, fIs_good _, fIs_good _, fIs_good _, fIs_good _, fIs_good _, fIs_good _, fIs_good _, fIs_good _, fIs_good _, fIs_good _, fIs_good _, fIs_good _, fIs_good _, fIs_good _, fIs_good _, fIs_good _, fIs_good _, fIs_good _, fIs_good _, fIs_good _, fIs_good _, fIs_good _, fIs_good _, fIs_good _, fIs_good _, fIs_good _, trivial⟩ ⟨fun _ _ h => h, fun _ _ h => h, fun _ _ h => h, rfl⟩ ?mkQ2 ?restQ2
    case mkQ2 =>
      refine ⟨fun u wz hb hd => ?_, fun u wz hb hd => ?_, fun u wz hb hd => ?_, fun u wz hb hd => ?_, fun u wz hb hd => ?_, fun u wz hb hd => ?_, fun u wz hb hd => ?_, fun u wz hb hd => ?_, fun u wz hb hd => ?_, fun u wz hb hd => ?_, fun u wz hb hd => ?_, fun u wz hb hd => ?_, ⟨fun _ => rfl, rfl⟩, ⟨fun _ => rfl, rfl⟩, ⟨fun _ => rfl, rfl⟩, ⟨fun _ => rfl, rfl⟩, ⟨fun _ => rfl, rfl⟩, ⟨fun _ => rfl, rfl⟩, fun u wz hb hd => ?_, fun u wz hb hd => ?_, ⟨fun _ => rfl, rfl⟩, ⟨fun _ => rfl, rfl⟩, ⟨fun _ => rfl, rfl⟩, ⟨fun _ => rfl, rfl⟩, ⟨fun _ => rfl, rfl⟩, ⟨fun _ => rfl, rfl⟩, ⟨fun _ => rfl, rfl⟩, ⟨fun _ => rfl, rfl⟩, ⟨fun _ => rfl, rfl⟩, fun u wz hb hd => ?_, trivial⟩
      all_goals simp only [Act.put, List.setIfInBounds_toArray, List.set_cons_zero, List.set_cons_succ]
      · go_simp
        exact ⟨rfl, Below.refl _ _, fun h => by cases h⟩
      · have e0 : u 0 = .pointer (some ⟨nb, 1, none⟩) := hd 0 (by omega) (by kernel_rfl)
        rw [e0]
        have n1' := (hb.cell (p := ⟨nb, 1, none⟩) (lt_of_cell n1)).trans n1
        go_simp
        exact ⟨rfl, Below.refl _ _, fun h => by cases h⟩
      · go_simp
        exact ⟨rfl, Below.refl _ _, fun h => by cases h⟩
      · have e1 : u 1 = .int .i64 (me : Int) := hd 1 (by omega) (by kernel_rfl)
        have e2 : u 2 = .int .i64 (me : Int) := hd 2 (by omega) (by kernel_rfl)
        rw [e1, e2]
        go_simp
        exact ⟨rfl, Below.refl _ _, fun h => by cases h⟩
      · have e3 : u 3 = .bool false := hd 3 (by omega) (by kernel_rfl)
        rw [e3]
        go_simp
        exact ⟨rfl, Below.refl _ _, fun h => by cases h⟩
      · go_simp
        exact ⟨rfl, Below.refl _ _, fun h => by cases h⟩
      · have e5 : u 5 = .pointer (some ⟨nb, 2, none⟩) := hd 5 (by omega) (by kernel_rfl)
        rw [e5]
        have n2' := (hb.cell (p := ⟨nb, 2, none⟩) (lt_of_cell n2)).trans n2
        go_simp
        exact ⟨rfl, Below.refl _ _, fun h => by cases h⟩
      · go_simp
        exact ⟨rfl, Below.refl _ _, fun h => by cases h⟩
      · have e7 : u 7 = .pointer (some ⟨bx, 3, none⟩) := hd 7 (by omega) (by kernel_rfl)
        rw [e7]
        have b3' := (hb.cell (p := ⟨bx, 3, none⟩) (lt_of_cell b3)).trans b3
        go_simp
        exact ⟨rfl, Below.refl _ _, fun h => by cases h⟩
      · have e6 : u 6 = .int .i64 xs := hd 6 (by omega) (by kernel_rfl)
        have e8 : u 8 = .int .i64 (s.taken : Int) := hd 8 (by omega) (by kernel_rfl)
        rw [e6, e8]
        go_simp
        exact ⟨rfl, Below.refl _ _, fun h => by cases h⟩
      · have e4 : u 4 = .bool false := hd 4 (by omega) (by kernel_rfl)
        have e9 : u 9 = .bool true := hd 9 (by omega) (by kernel_rfl)
        rw [e4, e9]
        go_simp
        exact ⟨rfl, Below.refl _ _, fun h => by cases h⟩
      · have e10 : u 10 = .bool true := hd 10 (by omega) (by kernel_rfl)
        rw [e10]
        go_simp
        exact ⟨rfl, Below.refl _ _, fun h => by cases h⟩
      · have e11 : u 11 = .bool true := hd 11 (by omega) (by kernel_rfl)
        rw [e11]
        go_simp
        exact ⟨rfl, Below.refl _ _, fun h => by cases h⟩
      · have e18 : u 18 = .bool true := hd 18 (by omega) (by kernel_rfl)
        rw [e18]
        go_simp
        exact ⟨rfl, Below.refl _ _, fun h => by cases h⟩
      · have e19 : u 19 = .bool true := hd 19 (by omega) (by kernel_rfl)
        rw [e19]
        go_simp
        exact ⟨rfl, Below.refl _ _, fun h => by cases h⟩
    case restQ2 =>
      intro u wz hb hf hp
      have f0 : u 0 = .pointer (some ⟨nb, 1, none⟩) := hf 0 (by omega)
      have f1 : u 1 = .int .i64 (me : Int) := hf 1 (by omega)
      have f2 : u 2 = .int .i64 (me : Int) := hf 2 (by omega)
      have f3 : u 3 = .bool false := hf 3 (by omega)
      have f4 : u 4 = .bool false := hf 4 (by omega)
      have f5 : u 5 = .pointer (some ⟨nb, 2, none⟩) := hf 5 (by omega)
      have f6 : u 6 = .int .i64 xs := hf 6 (by omega)
      have f7 : u 7 = .pointer (some ⟨bx, 3, none⟩) := hf 7 (by omega)
      have f8 : u 8 = .int .i64 (s.taken : Int) := hf 8 (by omega)
      have f9 : u 9 = .bool true := hf 9 (by omega)
      have f10 : u 10 = .bool true := hf 10 (by omega)
      have f11 : u 11 = .bool true := hf 11 (by omega)
      have f12 : u 12 = undef := hf 12 (by omega)
      have f13 : u 13 = undef := hf 13 (by omega)
      have f14 : u 14 = undef := hf 14 (by omega)
      have f15 : u 15 = undef := hf 15 (by omega)
      have f16 : u 16 = undef := hf 16 (by omega)
      have f17 : u 17 = undef := hf 17 (by omega)
      have f18 : u 18 = .bool true := hf 18 (by omega)
      have f19 : u 19 = .bool true := hf 19 (by omega)
      have f20 : u 20 = undef := hf 20 (by omega)
      have f21 : u 21 = undef := hf 21 (by omega)
      have f22 : u 22 = undef := hf 22 (by omega)
      have f23 : u 23 = undef := hf 23 (by omega)
      have f24 : u 24 = undef := hf 24 (by omega)
      have f25 : u 25 = undef := hf 25 (by omega)
      have f26 : u 26 = undef := hf 26 (by omega)
      have f27 : u 27 = undef := hf 27 (by omega)
      have f28 : u 28 = undef := hf 28 (by omega)
      have f29 : u 29 = .bool true := hf 29 (by omega)
      refine UptoW.rest 0 30 (by rfl) (by kernel_rfl) ?_
      simp only [List.take, List.drop, putOps, Act.put, List.setIfInBounds_toArray, List.set_cons_zero, List.set_cons_succ, Nat.reduceAdd, f0, f1, f2, f3, f4, f5, f6, f7, f8, f9, f10, f11, f12, f13, f14, f15, f16, f17, f18, f19, f20, f21, f22, f23, f24, f25, f26, f27, f28, f29]
      clear f0 f1 f2 f3 f4 f5 f6 f7 f8 f9 f10 f11 f12 f13 f14 f15 f16 f17 f18 f19 f20 f21 f22 f23 f24 f25 f26 f27 f28 f29 hf hp
      have HBZ := hide hb
      clear hb
      go_wp2_with fail
      go_ret
      exact ⟨by rw [HFM.out]; rfl, bl_on HB.out HBZ.out⟩
  by_cases c : (N : Int) ≤ xs
  case pos =>
    have HFM : Hid (fm = false) := by show fm = false; rw [HFM0.out]; rw [show decide (xs < (notN d n : Int)) = false by have := HN.out; simp; omega]; simp
    clear HFM0
    refine region_madeG 30 32 [fIs (.pointer (some ⟨nb, 1, none⟩)), fIs (.int .i64 (me : Int)), fIs (.int .i64 (me : Int)), fIs (.bool false), fIs (.bool false), fIs (.pointer (some ⟨nb, 2, none⟩)), fIs (.int .i64 xs), fIs (.pointer (some ⟨bx, 3, none⟩)), fIs (.int .i64 (s.taken : Int)), fIs (.bool false), fIs (.bool false), fIs (.bool false), fIs (.pointer (some ⟨nb, 2, none⟩)), fIs (.int .i64 xs), fIs (.int .i64 (d : Int)), fIs (.int .i64 (n : Int)), fIs (.int .i64 (N : Int)), fIs (.bool true), fIs (.bool true), fIs (.bool true), fIs undef, fIs undef, fIs undef, fIs undef, fIs undef, fIs undef, fIs undef, fIs undef, fIs undef, fIs (.bool true)] [none, none, none, none, some false, none, none, none, none, none, none, some false, none, none, none, none, none, none, none, some true, none, none, none, none, none, none, none, none, none, none] [true, true, true, true, true, true, true, true, true, true, true, true, true, true, true, true, true, true, true, true, false, false, false, false, false, false, false, false, false, true] (by kernel_rfl) (by kernel_rfl) (by kernel_rfl) (fun ch p q w3 e h => by obtain ⟨t1, d1⟩ := p; obtain ⟨t2, d2⟩ := q; cases e; exact h) ⟨fIs_good _, fIs_good _, fIs_good _, fIs_good _, fIs_good _, fIs_good _, fIs_good _, fIs_good _, fIs_good _, fIs_good _, fIs_good _, fIs_good _, fIs_good _, fIs_good _, fIs_good _, fIs_good _, fIs_good _, fIs_good _, fIs_good _, fIs_good _, fIs_good _, fIs_good _, fIs_good _, fIs_good _, fIs_good _, fIs_good _, fIs_good _, fIs_good _, fIs_good _, fIs_good _, trivial⟩ ⟨fun _ _ h => h, fun _ _ h => h, fun _ _ h => h, rfl⟩ ?mkQ3 ?restQ3
    case mkQ3 =>
      refine ⟨fun u wz hb hd => ?_, fun u wz hb hd => ?_, fun u wz hb hd => ?_, fun u wz hb hd => ?_, fun u wz hb hd => ?_, fun u wz hb hd => ?_, fun u wz hb hd => ?_, fun u wz hb hd => ?_, fun u wz hb hd => ?_, fun u wz hb hd => ?_, fun u wz hb hd => ?_, fun u wz hb hd => ?_, fun u wz hb hd => ?_, fun u wz hb hd => ?_, fun u wz hb hd => ?_, fun u wz hb hd => ?_, fun u wz hb hd => ?_, fun u wz hb hd => ?_, fun u wz hb hd => ?_, fun u wz hb hd => ?_, ⟨fun _ => rfl, rfl⟩, ⟨fun _ => rfl, rfl⟩, ⟨fun _ => rfl, rfl⟩, ⟨fun _ => rfl, rfl⟩, ⟨fun _ => rfl, rfl⟩, ⟨fun _ => rfl, rfl⟩, ⟨fun _ => rfl, rfl⟩, ⟨fun _ => rfl, rfl⟩, ⟨fun _ => rfl, rfl⟩, fun u wz hb hd => ?_, trivial⟩
      all_goals simp only [Act.put, List.setIfInBounds_toArray, List.set_cons_zero, List.set_cons_succ]
      · go_simp
        exact ⟨rfl, Below.refl _ _, fun h => by cases h⟩
      · have e0 : u 0 = .pointer (some ⟨nb, 1, none⟩) := hd 0 (by omega) (by kernel_rfl)
        rw [e0]
        have n1' := (hb.cell (p := ⟨nb, 1, none⟩) (lt_of_cell n1)).trans n1
        go_simp
        exact ⟨rfl, Below.refl _ _, fun h => by cases h⟩
      · go_simp
        exact ⟨rfl, Below.refl _ _, fun h => by cases h⟩
      · have e1 : u 1 = .int .i64 (me : Int) := hd 1 (by omega) (by kernel_rfl)
        have e2 : u 2 = .int .i64 (me : Int) := hd 2 (by omega) (by kernel_rfl)
        rw [e1, e2]
        go_simp
        exact ⟨rfl, Below.refl _ _, fun h => by cases h⟩
      · have e3 : u 3 = .bool false := hd 3 (by omega) (by kernel_rfl)
        rw [e3]
        go_simp
        exact ⟨rfl, Below.refl _ _, fun h => by cases h⟩
      · go_simp
        exact ⟨rfl, Below.refl _ _, fun h => by cases h⟩
      · have e5 : u 5 = .pointer (some ⟨nb, 2, none⟩) := hd 5 (by omega) (by kernel_rfl)
        rw [e5]
        have n2' := (hb.cell (p := ⟨nb, 2, none⟩) (lt_of_cell n2)).trans n2
        go_simp
        exact ⟨rfl, Below.refl _ _, fun h => by cases h⟩
      · go_simp
        exact ⟨rfl, Below.refl _ _, fun h => by cases h⟩
      · have e7 : u 7 = .pointer (some ⟨bx, 3, none⟩) := hd 7 (by omega) (by kernel_rfl)
        rw [e7]
        have b3' := (hb.cell (p := ⟨bx, 3, none⟩) (lt_of_cell b3)).trans b3
        go_simp
        exact ⟨rfl, Below.refl _ _, fun h => by cases h⟩
      · have e6 : u 6 = .int .i64 xs := hd 6 (by omega) (by kernel_rfl)
        have e8 : u 8 = .int .i64 (s.taken : Int) := hd 8 (by omega) (by kernel_rfl)
        rw [e6, e8]
        go_simp
        exact ⟨rfl, Below.refl _ _, fun h => by cases h⟩
      · have e4 : u 4 = .bool false := hd 4 (by omega) (by kernel_rfl)
        have e9 : u 9 = .bool false := hd 9 (by omega) (by kernel_rfl)
        rw [e4, e9]
        go_simp
        exact ⟨rfl, Below.refl _ _, fun h => by cases h⟩
      · have e10 : u 10 = .bool false := hd 10 (by omega) (by kernel_rfl)
        rw [e10]
        go_simp
        exact ⟨rfl, Below.refl _ _, fun h => by cases h⟩
      · go_simp
        exact ⟨rfl, Below.refl _ _, fun h => by cases h⟩
      · have e12 : u 12 = .pointer (some ⟨nb, 2, none⟩) := hd 12 (by omega) (by kernel_rfl)
        rw [e12]
        have n2' := (hb.cell (p := ⟨nb, 2, none⟩) (lt_of_cell n2)).trans n2
        go_simp
        exact ⟨rfl, Below.refl _ _, fun h => by cases h⟩
      · go_simp
        exact ⟨rfl, Below.refl _ _, fun h => by cases h⟩
      · go_simp
        exact ⟨rfl, Below.refl _ _, fun h => by cases h⟩
      · have e14 : u 14 = .int .i64 (d : Int) := hd 14 (by omega) (by kernel_rfl)
        have e15 : u 15 = .int .i64 (n : Int) := hd 15 (by omega) (by kernel_rfl)
        rw [e14, e15]
        go_simp
        refine (HNO.out wz).mono ?_
        rintro e w2 ⟨rfl, rfl⟩
        exact ⟨rfl, Below.refl _ _, fun h => by cases h⟩
      · have e13 : u 13 = .int .i64 xs := hd 13 (by omega) (by kernel_rfl)
        have e16 : u 16 = .int .i64 (N : Int) := hd 16 (by omega) (by kernel_rfl)
        rw [e13, e16]
        go_simp
        exact ⟨rfl, Below.refl _ _, fun h => by cases h⟩
      · have e11 : u 11 = .bool false := hd 11 (by omega) (by kernel_rfl)
        have e17 : u 17 = .bool true := hd 17 (by omega) (by kernel_rfl)
        rw [e11, e17]
        go_simp
        exact ⟨rfl, Below.refl _ _, fun h => by cases h⟩
      · have e18 : u 18 = .bool true := hd 18 (by omega) (by kernel_rfl)
        rw [e18]
        go_simp
        exact ⟨rfl, Below.refl _ _, fun h => by cases h⟩
      · have e19 : u 19 = .bool true := hd 19 (by omega) (by kernel_rfl)
        rw [e19]
        go_simp
        exact ⟨rfl, Below.refl _ _, fun h => by cases h⟩
    case restQ3 =>
      intro u wz hb hf hp
      have f0 : u 0 = .pointer (some ⟨nb, 1, none⟩) := hf 0 (by omega)
      have f1 : u 1 = .int .i64 (me : Int) := hf 1 (by omega)
      have f2 : u 2 = .int .i64 (me : Int) := hf 2 (by omega)
      have f3 : u 3 = .bool false := hf 3 (by omega)
      have f4 : u 4 = .bool false := hf 4 (by omega)
      have f5 : u 5 = .pointer (some ⟨nb, 2, none⟩) := hf 5 (by omega)
      have f6 : u 6 = .int .i64 xs := hf 6 (by omega)
      have f7 : u 7 = .pointer (some ⟨bx, 3, none⟩) := hf 7 (by omega)
      have f8 : u 8 = .int .i64 (s.taken : Int) := hf 8 (by omega)
      have f9 : u 9 = .bool false := hf 9 (by omega)
      have f10 : u 10 = .bool false := hf 10 (by omega)
      have f11 : u 11 = .bool false := hf 11 (by omega)
      have f12 : u 12 = .pointer (some ⟨nb, 2, none⟩) := hf 12 (by omega)
      have f13 : u 13 = .int .i64 xs := hf 13 (by omega)
      have f14 : u 14 = .int .i64 (d : Int) := hf 14 (by omega)
      have f15 : u 15 = .int .i64 (n : Int) := hf 15 (by omega)
      have f16 : u 16 = .int .i64 (N : Int) := hf 16 (by omega)
      have f17 : u 17 = .bool true := hf 17 (by omega)
      have f18 : u 18 = .bool true := hf 18 (by omega)
      have f19 : u 19 = .bool true := hf 19 (by omega)
      have f20 : u 20 = undef := hf 20 (by omega)
      have f21 : u 21 = undef := hf 21 (by omega)
      have f22 : u 22 = undef := hf 22 (by omega)
      have f23 : u 23 = undef := hf 23 (by omega)
      have f24 : u 24 = undef := hf 24 (by omega)
      have f25 : u 25 = undef := hf 25 (by omega)
      have f26 : u 26 = undef := hf 26 (by omega)
      have f27 : u 27 = undef := hf 27 (by omega)
      have f28 : u 28 = undef := hf 28 (by omega)
      have f29 : u 29 = .bool true := hf 29 (by omega)
      refine UptoW.rest 0 30 (by rfl) (by kernel_rfl) ?_
      simp only [List.take, List.drop, putOps, Act.put, List.setIfInBounds_toArray, List.set_cons_zero, List.set_cons_succ, Nat.reduceAdd, f0, f1, f2, f3, f4, f5, f6, f7, f8, f9, f10, f11, f12, f13, f14, f15, f16, f17, f18, f19, f20, f21, f22, f23, f24, f25, f26, f27, f28, f29]
      clear f0 f1 f2 f3 f4 f5 f6 f7 f8 f9 f10 f11 f12 f13 f14 f15 f16 f17 f18 f19 f20 f21 f22 f23 f24 f25 f26 f27 f28 f29 hf hp
      have HBZ := hide hb
      clear hb
      go_wp2_with fail
      go_ret
      exact ⟨by rw [HFM.out]; rfl, bl_on HB.out HBZ.out⟩
  obtain ⟨t, rfl⟩ : ∃ t : Nat, xs = (t : Int) := ⟨xs.toNat, by omega⟩
  have ht30 : t ≤ 30 := by omega
  obtain ⟨F, hF⟩ : ∃ F, F = fromN d n me t := ⟨_, rfl⟩
  have HFR := hide (fun w => rFrom_any d n me t w hn1 hn16 hme (by omega))
  rw [← hF] at HFR
  have HF := hide hF
  clear hF
  by_cases e : xf = (F : Int)
  case neg =>
    have HFM : Hid (fm = false) := by
      show fm = false
      rw [HFM0.out, Int.toNat_natCast, ← HF.out, show decide (xf = (F : Int)) = false by simpa using e]; simp
    have q1 : (xf != (F : Int)) = true := by simpa using e
    have q2 : (xf == (F : Int)) = false := by simpa using e
    clear HFM0
    refine region_madeG 30 32 [fIs (.pointer (some ⟨nb, 1, none⟩)), fIs (.int .i64 (me : Int)), fIs (.int .i64 (me : Int)), fIs (.bool false), fIs (.bool false), fIs (.pointer (some ⟨nb, 2, none⟩)), fIs (.int .i64 (t : Int)), fIs (.pointer (some ⟨bx, 3, none⟩)), fIs (.int .i64 (s.taken : Int)), fIs (.bool false), fIs (.bool false), fIs (.bool false), fIs (.pointer (some ⟨nb, 2, none⟩)), fIs (.int .i64 (t : Int)), fIs (.int .i64 (d : Int)), fIs (.int .i64 (n : Int)), fIs (.int .i64 (N : Int)), fIs (.bool false), fIs (.bool false), fIs (.bool false), fIs (.pointer (some ⟨nb, 0, none⟩)), fIs (.int .i64 xf), fIs (.int .i64 (d : Int)), fIs (.int .i64 (n : Int)), fIs (.int .i64 (me : Int)), fIs (.pointer (some ⟨nb, 2, none⟩)), fIs (.int .i64 (t : Int)), fIs (.int .i64 (F : Int)), fIs (.bool true), fIs (.bool true)] [none, none, none, none, some false, none, none, none, none, none, none, some false, none, none, none, none, none, none, none, some false, none, none, none, none, none, none, none, none, none, none] [true, true, true, true, true, true, true, true, true, true, true, true, true, true, true, true, true, true, true, true, true, true, true, true, true, true, true, true, true, true] (by kernel_rfl) (by kernel_rfl) (by kernel_rfl) (fun ch p q w3 e h => by obtain ⟨t1, d1⟩ := p; obtain ⟨t2, d2⟩ := q; cases e; exact h) ⟨fIs_good _, fIs_good _, fIs_good _, fIs_good _, fIs_good _, fIs_good _, fIs_good _, fIs_good _, fIs_good _, fIs_good _, fIs_good _, fIs_good _, fIs_good _, fIs_good _, fIs_good _, fIs_good _, fIs_good _, fIs_good _, fIs_good _, fIs_good _, fIs_good _, fIs_good _, fIs_good _, fIs_good _, fIs_good _, fIs_good _, fIs_good _, fIs_good _, fIs_good _, fIs_good _, trivial⟩ ⟨fun _ _ h => h, fun _ _ h => h, fun _ _ h => h, rfl⟩ ?mkQ4 ?restQ4
    case mkQ4 =>
      refine ⟨fun u wz hb hd => ?_, fun u wz hb hd => ?_, fun u wz hb hd => ?_, fun u wz hb hd => ?_, fun u wz hb hd => ?_, fun u wz hb hd => ?_, fun u wz hb hd => ?_, fun u wz hb hd => ?_, fun u wz hb hd => ?_, fun u wz hb hd => ?_, fun u wz hb hd => ?_, fun u wz hb hd => ?_, fun u wz hb hd => ?_, fun u wz hb hd => ?_, fun u wz hb hd => ?_, fun u wz hb hd => ?_, fun u wz hb hd => ?_, fun u wz hb hd => ?_, fun u wz hb hd => ?_, fun u wz hb hd => ?_, fun u wz hb hd => ?_, fun u wz hb hd => ?_, fun u wz hb hd => ?_, fun u wz hb hd => ?_, fun u wz hb hd => ?_, fun u wz hb hd => ?_, fun u wz hb hd => ?_, fun u wz hb hd => ?_, fun u wz hb hd => ?_, fun u wz hb hd => ?_, trivial⟩
      all_goals simp only [Act.put, List.setIfInBounds_toArray, List.set_cons_zero, List.set_cons_succ]
      · go_simp
        exact ⟨rfl, Below.refl _ _, fun h => by cases h⟩
      · have e0 : u 0 = .pointer (some ⟨nb, 1, none⟩) := hd 0 (by omega) (by kernel_rfl)
        rw [e0]
        have n1' := (hb.cell (p := ⟨nb, 1, none⟩) (lt_of_cell n1)).trans n1
        go_simp
        exact ⟨rfl, Below.refl _ _, fun h => by cases h⟩
      · go_simp
        exact ⟨rfl, Below.refl _ _, fun h => by cases h⟩
      · have e1 : u 1 = .int .i64 (me : Int) := hd 1 (by omega) (by kernel_rfl)
        have e2 : u 2 = .int .i64 (me : Int) := hd 2 (by omega) (by kernel_rfl)
        rw [e1, e2]
        go_simp
        exact ⟨rfl, Below.refl _ _, fun h => by cases h⟩
      · have e3 : u 3 = .bool false := hd 3 (by omega) (by kernel_rfl)
        rw [e3]
        go_simp
        exact ⟨rfl, Below.refl _ _, fun h => by cases h⟩
      · go_simp
        exact ⟨rfl, Below.refl _ _, fun h => by cases h⟩
      · have e5 : u 5 = .pointer (some ⟨nb, 2, none⟩) := hd 5 (by omega) (by kernel_rfl)
        rw [e5]
        have n2' := (hb.cell (p := ⟨nb, 2, none⟩) (lt_of_cell n2)).trans n2
        go_simp
        exact ⟨rfl, Below.refl _ _, fun h => by cases h⟩
      · go_simp
        exact ⟨rfl, Below.refl _ _, fun h => by cases h⟩
      · have e7 : u 7 = .pointer (some ⟨bx, 3, none⟩) := hd 7 (by omega) (by kernel_rfl)
        rw [e7]
        have b3' := (hb.cell (p := ⟨bx, 3, none⟩) (lt_of_cell b3)).trans b3
        go_simp
        exact ⟨rfl, Below.refl _ _, fun h => by cases h⟩
      · have e6 : u 6 = .int .i64 (t : Int) := hd 6 (by omega) (by kernel_rfl)
        have e8 : u 8 = .int .i64 (s.taken : Int) := hd 8 (by omega) (by kernel_rfl)
        rw [e6, e8]
        go_simp
        exact ⟨rfl, Below.refl _ _, fun h => by cases h⟩
      · have e4 : u 4 = .bool false := hd 4 (by omega) (by kernel_rfl)
        have e9 : u 9 = .bool false := hd 9 (by omega) (by kernel_rfl)
        rw [e4, e9]
        go_simp
        exact ⟨rfl, Below.refl _ _, fun h => by cases h⟩
      · have e10 : u 10 = .bool false := hd 10 (by omega) (by kernel_rfl)
        rw [e10]
        go_simp
        exact ⟨rfl, Below.refl _ _, fun h => by cases h⟩
      · go_simp
        exact ⟨rfl, Below.refl _ _, fun h => by cases h⟩
      · have e12 : u 12 = .pointer (some ⟨nb, 2, none⟩) := hd 12 (by omega) (by kernel_rfl)
        rw [e12]
        have n2' := (hb.cell (p := ⟨nb, 2, none⟩) (lt_of_cell n2)).trans n2
        go_simp
        exact ⟨rfl, Below.refl _ _, fun h => by cases h⟩
      · go_simp
        exact ⟨rfl, Below.refl _ _, fun h => by cases h⟩
      · go_simp
        exact ⟨rfl, Below.refl _ _, fun h => by cases h⟩
      · have e14 : u 14 = .int .i64 (d : Int) := hd 14 (by omega) (by kernel_rfl)
        have e15 : u 15 = .int .i64 (n : Int) := hd 15 (by omega) (by kernel_rfl)
        rw [e14, e15]
        go_simp
        refine (HNO.out wz).mono ?_
        rintro e w2 ⟨rfl, rfl⟩
        exact ⟨rfl, Below.refl _ _, fun h => by cases h⟩
      · have e13 : u 13 = .int .i64 (t : Int) := hd 13 (by omega) (by kernel_rfl)
        have e16 : u 16 = .int .i64 (N : Int) := hd 16 (by omega) (by kernel_rfl)
        rw [e13, e16]
        go_simp
        exact ⟨rfl, Below.refl _ _, fun h => by cases h⟩
      · have e11 : u 11 = .bool false := hd 11 (by omega) (by kernel_rfl)
        have e17 : u 17 = .bool false := hd 17 (by omega) (by kernel_rfl)
        rw [e11, e17]
        go_simp
        exact ⟨rfl, Below.refl _ _, fun h => by cases h⟩
      · have e18 : u 18 = .bool false := hd 18 (by omega) (by kernel_rfl)
        rw [e18]
        go_simp
        exact ⟨rfl, Below.refl _ _, fun h => by cases h⟩
      · go_simp
        exact ⟨rfl, Below.refl _ _, fun h => by cases h⟩
      · have e20 : u 20 = .pointer (some ⟨nb, 0, none⟩) := hd 20 (by omega) (by kernel_rfl)
        rw [e20]
        have n0' := (hb.cell (p := ⟨nb, 0, none⟩) (lt_of_cell n0)).trans n0
        go_simp
        exact ⟨rfl, Below.refl _ _, fun h => by cases h⟩
      · go_simp
        exact ⟨rfl, Below.refl _ _, fun h => by cases h⟩
      · go_simp
        exact ⟨rfl, Below.refl _ _, fun h => by cases h⟩
      · go_simp
        exact ⟨rfl, Below.refl _ _, fun h => by cases h⟩
      · go_simp
        exact ⟨rfl, Below.refl _ _, fun h => by cases h⟩
      · have e25 : u 25 = .pointer (some ⟨nb, 2, none⟩) := hd 25 (by omega) (by kernel_rfl)
        rw [e25]
        have n2' := (hb.cell (p := ⟨nb, 2, none⟩) (lt_of_cell n2)).trans n2
        go_simp
        exact ⟨rfl, Below.refl _ _, fun h => by cases h⟩
      · have e22 : u 22 = .int .i64 (d : Int) := hd 22 (by omega) (by kernel_rfl)
        have e23 : u 23 = .int .i64 (n : Int) := hd 23 (by omega) (by kernel_rfl)
        have e24 : u 24 = .int .i64 (me : Int) := hd 24 (by omega) (by kernel_rfl)
        have e26 : u 26 = .int .i64 (t : Int) := hd 26 (by omega) (by kernel_rfl)
        rw [e22, e23, e24, e26]
        go_simp
        refine (HFR.out wz).mono ?_
        rintro e w2 ⟨rfl, rfl⟩
        exact ⟨rfl, Below.refl _ _, fun h => by cases h⟩
      · have e21 : u 21 = .int .i64 xf := hd 21 (by omega) (by kernel_rfl)
        have e27 : u 27 = .int .i64 (F : Int) := hd 27 (by omega) (by kernel_rfl)
        rw [e21, e27]
        go_simp
        exact ⟨rfl, Below.refl _ _, fun h => by cases h⟩
      · have e19 : u 19 = .bool false := hd 19 (by omega) (by kernel_rfl)
        have e28 : u 28 = .bool true := hd 28 (by omega) (by kernel_rfl)
        rw [e19, e28]
        go_simp
        exact ⟨rfl, Below.refl _ _, fun h => by cases h⟩
    case restQ4 =>
      intro u wz hb hf hp
      have f0 : u 0 = .pointer (some ⟨nb, 1, none⟩) := hf 0 (by omega)
      have f1 : u 1 = .int .i64 (me : Int) := hf 1 (by omega)
      have f2 : u 2 = .int .i64 (me : Int) := hf 2 (by omega)
      have f3 : u 3 = .bool false := hf 3 (by omega)
      have f4 : u 4 = .bool false := hf 4 (by omega)
      have f5 : u 5 = .pointer (some ⟨nb, 2, none⟩) := hf 5 (by omega)
      have f6 : u 6 = .int .i64 (t : Int) := hf 6 (by omega)
      have f7 : u 7 = .pointer (some ⟨bx, 3, none⟩) := hf 7 (by omega)
      have f8 : u 8 = .int .i64 (s.taken : Int) := hf 8 (by omega)
      have f9 : u 9 = .bool false := hf 9 (by omega)
      have f10 : u 10 = .bool false := hf 10 (by omega)
      have f11 : u 11 = .bool false := hf 11 (by omega)
      have f12 : u 12 = .pointer (some ⟨nb, 2, none⟩) := hf 12 (by omega)
      have f13 : u 13 = .int .i64 (t : Int) := hf 13 (by omega)
      have f14 : u 14 = .int .i64 (d : Int) := hf 14 (by omega)
      have f15 : u 15 = .int .i64 (n : Int) := hf 15 (by omega)
      have f16 : u 16 = .int .i64 (N : Int) := hf 16 (by omega)
      have f17 : u 17 = .bool false := hf 17 (by omega)
      have f18 : u 18 = .bool false := hf 18 (by omega)
      have f19 : u 19 = .bool false := hf 19 (by omega)
      have f20 : u 20 = .pointer (some ⟨nb, 0, none⟩) := hf 20 (by omega)
      have f21 : u 21 = .int .i64 xf := hf 21 (by omega)
      have f22 : u 22 = .int .i64 (d : Int) := hf 22 (by omega)
      have f23 : u 23 = .int .i64 (n : Int) := hf 23 (by omega)
      have f24 : u 24 = .int .i64 (me : Int) := hf 24 (by omega)
      have f25 : u 25 = .pointer (some ⟨nb, 2, none⟩) := hf 25 (by omega)
      have f26 : u 26 = .int .i64 (t : Int) := hf 26 (by omega)
      have f27 : u 27 = .int .i64 (F : Int) := hf 27 (by omega)
      have f28 : u 28 = .bool true := hf 28 (by omega)
      have f29 : u 29 = .bool true := hf 29 (by omega)
      refine UptoW.rest 0 30 (by rfl) (by kernel_rfl) ?_
      simp only [List.take, List.drop, putOps, Act.put, List.setIfInBounds_toArray, List.set_cons_zero, List.set_cons_succ, Nat.reduceAdd, f0, f1, f2, f3, f4, f5, f6, f7, f8, f9, f10, f11, f12, f13, f14, f15, f16, f17, f18, f19, f20, f21, f22, f23, f24, f25, f26, f27, f28, f29]
      clear f0 f1 f2 f3 f4 f5 f6 f7 f8 f9 f10 f11 f12 f13 f14 f15 f16 f17 f18 f19 f20 f21 f22 f23 f24 f25 f26 f27 f28 f29 hf hp
      have HBZ := hide hb
      clear hb
      go_wp2_with fail
      go_ret
      exact ⟨by rw [HFM.out]; rfl, bl_on HB.out HBZ.out⟩
  subst e
  have hfm : fm = ((lookL t s.early).isNone && (if d = 3 then decide (xd.length ≤ 65536) else decide (xd.length = (prt s.parts (takeN d n me t)).length))) := by
    rw [HFM0.out, Int.toNat_natCast, ← HF.out, show decide ((me : Int) = (me : Int)) = true by simp, show decide ((s.taken : Int) ≤ (t : Int)) = true by simp; omega, show decide ((t : Int) < (notN d n : Int)) = true by have := HN.out; simp; omega, show decide ((F : Int) = (F : Int)) = true by simp]
    simp
  have HFM := hide hfm
  clear hfm HFM0
  refine region_madeG 30 32 [fIs (.pointer (some ⟨nb, 1, none⟩)), fIs (.int .i64 (me : Int)), fIs (.int .i64 (me : Int)), fIs (.bool false), fIs (.bool false), fIs (.pointer (some ⟨nb, 2, none⟩)), fIs (.int .i64 (t : Int)), fIs (.pointer (some ⟨bx, 3, none⟩)), fIs (.int .i64 (s.taken : Int)), fIs (.bool false), fIs (.bool false), fIs (.bool false), fIs (.pointer (some ⟨nb, 2, none⟩)), fIs (.int .i64 (t : Int)), fIs (.int .i64 (d : Int)), fIs (.int .i64 (n : Int)), fIs (.int .i64 (N : Int)), fIs (.bool false), fIs (.bool false), fIs (.bool false), fIs (.pointer (some ⟨nb, 0, none⟩)), fIs (.int .i64 (F : Int)), fIs (.int .i64 (d : Int)), fIs (.int .i64 (n : Int)), fIs (.int .i64 (me : Int)), fIs (.pointer (some ⟨nb, 2, none⟩)), fIs (.int .i64 (t : Int)), fIs (.int .i64 (F : Int)), fIs (.bool false), fIs (.bool false)] [none, none, none, none, some false, none, none, none, none, none, none, some false, none, none, none, none, none, none, none, some false, none, none, none, none, none, none, none, none, none, none] [true, true, true, true, true, true, true, true, true, true, true, true, true, true, true, true, true, true, true, true, true, true, true, true, true, true, true, true, true, true] (by kernel_rfl) (by kernel_rfl) (by kernel_rfl) (fun ch p q w3 e h => by obtain ⟨t1, d1⟩ := p; obtain ⟨t2, d2⟩ := q; cases e; exact h) ⟨fIs_good _, fIs_good _, fIs_good _, fIs_good _, fIs_good _, fIs_good _, fIs_good _, fIs_good _, fIs_good _, fIs_good _, fIs_good _, fIs_good _, fIs_good _, fIs_good _, fIs_good _, fIs_good _, fIs_good _, fIs_good _, fIs_good _, fIs_good _, fIs_good _, fIs_good _, fIs_good _, fIs_good _, fIs_good _, fIs_good _, fIs_good _, fIs_good _, fIs_good _, fIs_good _, trivial⟩ ⟨fun _ _ h => h, fun _ _ h => h, fun _ _ h => h, rfl⟩ ?mkQ5 ?restQ5
  case mkQ5 =>
    refine ⟨fun u wz hb hd => ?_, fun u wz hb hd => ?_, fun u wz hb hd => ?_, fun u wz hb hd => ?_, fun u wz hb hd => ?_, fun u wz hb hd => ?_, fun u wz hb hd => ?_, fun u wz hb hd => ?_, fun u wz hb hd => ?_, fun u wz hb hd => ?_, fun u wz hb hd => ?_, fun u wz hb hd => ?_, fun u wz hb hd => ?_, fun u wz hb hd => ?_, fun u wz hb hd => ?_, fun u wz hb hd => ?_, fun u wz hb hd => ?_, fun u wz hb hd => ?_, fun u wz hb hd => ?_, fun u wz hb hd => ?_, fun u wz hb hd => ?_, fun u wz hb hd => ?_, fun u wz hb hd => ?_, fun u wz hb hd => ?_, fun u wz hb hd => ?_, fun u wz hb hd => ?_, fun u wz hb hd => ?_, fun u wz hb hd => ?_, fun u wz hb hd => ?_, fun u wz hb hd => ?_, trivial⟩
    all_goals simp only [Act.put, List.setIfInBounds_toArray, List.set_cons_zero, List.set_cons_succ]
    · go_simp
      exact ⟨rfl, Below.refl _ _, fun h => by cases h⟩
    · have e0 : u 0 = .pointer (some ⟨nb, 1, none⟩) := hd 0 (by omega) (by kernel_rfl)
      rw [e0]
      have n1' := (hb.cell (p := ⟨nb, 1, none⟩) (lt_of_cell n1)).trans n1
      go_simp
      exact ⟨rfl, Below.refl _ _, fun h => by cases h⟩
    · go_simp
      exact ⟨rfl, Below.refl _ _, fun h => by cases h⟩
    · have e1 : u 1 = .int .i64 (me : Int) := hd 1 (by omega) (by kernel_rfl)
      have e2 : u 2 = .int .i64 (me : Int) := hd 2 (by omega) (by kernel_rfl)
      rw [e1, e2]
      go_simp
      exact ⟨rfl, Below.refl _ _, fun h => by cases h⟩
    · have e3 : u 3 = .bool false := hd 3 (by omega) (by kernel_rfl)
      rw [e3]
      go_simp
      exact ⟨rfl, Below.refl _ _, fun h => by cases h⟩
    · go_simp
      exact ⟨rfl, Below.refl _ _, fun h => by cases h⟩
    · have e5 : u 5 = .pointer (some ⟨nb, 2, none⟩) := hd 5 (by omega) (by kernel_rfl)
      rw [e5]
      have n2' := (hb.cell (p := ⟨nb, 2, none⟩) (lt_of_cell n2)).trans n2
      go_simp
      exact ⟨rfl, Below.refl _ _, fun h => by cases h⟩
    · go_simp
      exact ⟨rfl, Below.refl _ _, fun h => by cases h⟩
    · have e7 : u 7 = .pointer (some ⟨bx, 3, none⟩) := hd 7 (by omega) (by kernel_rfl)
      rw [e7]
      have b3' := (hb.cell (p := ⟨bx, 3, none⟩) (lt_of_cell b3)).trans b3
      go_simp
      exact ⟨rfl, Below.refl _ _, fun h => by cases h⟩
    · have e6 : u 6 = .int .i64 (t : Int) := hd 6 (by omega) (by kernel_rfl)
      have e8 : u 8 = .int .i64 (s.taken : Int) := hd 8 (by omega) (by kernel_rfl)
      rw [e6, e8]
      go_simp
      exact ⟨rfl, Below.refl _ _, fun h => by cases h⟩
    · have e4 : u 4 = .bool false := hd 4 (by omega) (by kernel_rfl)
      have e9 : u 9 = .bool false := hd 9 (by omega) (by kernel_rfl)
      rw [e4, e9]
      go_simp
      exact ⟨rfl, Below.refl _ _, fun h => by cases h⟩
    · have e10 : u 10 = .bool false := hd 10 (by omega) (by kernel_rfl)
      rw [e10]
      go_simp
      exact ⟨rfl, Below.refl _ _, fun h => by cases h⟩
    · go_simp
      exact ⟨rfl, Below.refl _ _, fun h => by cases h⟩
    · have e12 : u 12 = .pointer (some ⟨nb, 2, none⟩) := hd 12 (by omega) (by kernel_rfl)
      rw [e12]
      have n2' := (hb.cell (p := ⟨nb, 2, none⟩) (lt_of_cell n2)).trans n2
      go_simp
      exact ⟨rfl, Below.refl _ _, fun h => by cases h⟩
    · go_simp
      exact ⟨rfl, Below.refl _ _, fun h => by cases h⟩
    · go_simp
      exact ⟨rfl, Below.refl _ _, fun h => by cases h⟩
    · have e14 : u 14 = .int .i64 (d : Int) := hd 14 (by omega) (by kernel_rfl)
      have e15 : u 15 = .int .i64 (n : Int) := hd 15 (by omega) (by kernel_rfl)
      rw [e14, e15]
      go_simp
      refine (HNO.out wz).mono ?_
      rintro e w2 ⟨rfl, rfl⟩
      exact ⟨rfl, Below.refl _ _, fun h => by cases h⟩
    · have e13 : u 13 = .int .i64 (t : Int) := hd 13 (by omega) (by kernel_rfl)
      have e16 : u 16 = .int .i64 (N : Int) := hd 16 (by omega) (by kernel_rfl)
      rw [e13, e16]
      go_simp
      exact ⟨rfl, Below.refl _ _, fun h => by cases h⟩
    · have e11 : u 11 = .bool false := hd 11 (by omega) (by kernel_rfl)
      have e17 : u 17 = .bool false := hd 17 (by omega) (by kernel_rfl)
      rw [e11, e17]
      go_simp
      exact ⟨rfl, Below.refl _ _, fun h => by cases h⟩
    · have e18 : u 18 = .bool false := hd 18 (by omega) (by kernel_rfl)
      rw [e18]
      go_simp
      exact ⟨rfl, Below.refl _ _, fun h => by cases h⟩
    · go_simp
      exact ⟨rfl, Below.refl _ _, fun h => by cases h⟩
    · have e20 : u 20 = .pointer (some ⟨nb, 0, none⟩) := hd 20 (by omega) (by kernel_rfl)
      rw [e20]
      have n0' := (hb.cell (p := ⟨nb, 0, none⟩) (lt_of_cell n0)).trans n0
      go_simp
      exact ⟨rfl, Below.refl _ _, fun h => by cases h⟩
    · go_simp
      exact ⟨rfl, Below.refl _ _, fun h => by cases h⟩
    · go_simp
      exact ⟨rfl, Below.refl _ _, fun h => by cases h⟩
    · go_simp
      exact ⟨rfl, Below.refl _ _, fun h => by cases h⟩
    · go_simp
      exact ⟨rfl, Below.refl _ _, fun h => by cases h⟩
    · have e25 : u 25 = .pointer (some ⟨nb, 2, none⟩) := hd 25 (by omega) (by kernel_rfl)
      rw [e25]
      have n2' := (hb.cell (p := ⟨nb, 2, none⟩) (lt_of_cell n2)).trans n2
      go_simp
      exact ⟨rfl, Below.refl _ _, fun h => by cases h⟩
    · have e22 : u 22 = .int .i64 (d : Int) := hd 22 (by omega) (by kernel_rfl)
      have e23 : u 23 = .int .i64 (n : Int) := hd 23 (by omega) (by kernel_rfl)
      have e24 : u 24 = .int .i64 (me : Int) := hd 24 (by omega) (by kernel_rfl)
      have e26 : u 26 = .int .i64 (t : Int) := hd 26 (by omega) (by kernel_rfl)
      rw [e22, e23, e24, e26]
      go_simp
      refine (HFR.out wz).mono ?_
      rintro e w2 ⟨rfl, rfl⟩
      exact ⟨rfl, Below.refl _ _, fun h => by cases h⟩
    · have e21 : u 21 = .int .i64 (F : Int) := hd 21 (by omega) (by kernel_rfl)
      have e27 : u 27 = .int .i64 (F : Int) := hd 27 (by omega) (by kernel_rfl)
      rw [e21, e27]
      go_simp
      exact ⟨rfl, Below.refl _ _, fun h => by cases h⟩
    · have e19 : u 19 = .bool false := hd 19 (by omega) (by kernel_rfl)
      have e28 : u 28 = .bool false := hd 28 (by omega) (by kernel_rfl)
      rw [e19, e28]
      go_simp
      exact ⟨rfl, Below.refl _ _, fun h => by cases h⟩
  case restQ5 =>
    intro u wz hb hf hp
    have f0 : u 0 = .pointer (some ⟨nb, 1, none⟩) := hf 0 (by omega)
    have f1 : u 1 = .int .i64 (me : Int) := hf 1 (by omega)
    have f2 : u 2 = .int .i64 (me : Int) := hf 2 (by omega)
    have f3 : u 3 = .bool false := hf 3 (by omega)
    have f4 : u 4 = .bool false := hf 4 (by omega)
    have f5 : u 5 = .pointer (some ⟨nb, 2, none⟩) := hf 5 (by omega)
    have f6 : u 6 = .int .i64 (t : Int) := hf 6 (by omega)
    have f7 : u 7 = .pointer (some ⟨bx, 3, none⟩) := hf 7 (by omega)
    have f8 : u 8 = .int .i64 (s.taken : Int) := hf 8 (by omega)
    have f9 : u 9 = .bool false := hf 9 (by omega)
    have f10 : u 10 = .bool false := hf 10 (by omega)
    have f11 : u 11 = .bool false := hf 11 (by omega)
    have f12 : u 12 = .pointer (some ⟨nb, 2, none⟩) := hf 12 (by omega)
    have f13 : u 13 = .int .i64 (t : Int) := hf 13 (by omega)
    have f14 : u 14 = .int .i64 (d : Int) := hf 14 (by omega)
    have f15 : u 15 = .int .i64 (n : Int) := hf 15 (by omega)
    have f16 : u 16 = .int .i64 (N : Int) := hf 16 (by omega)
    have f17 : u 17 = .bool false := hf 17 (by omega)
    have f18 : u 18 = .bool false := hf 18 (by omega)
    have f19 : u 19 = .bool false := hf 19 (by omega)
    have f20 : u 20 = .pointer (some ⟨nb, 0, none⟩) := hf 20 (by omega)
    have f21 : u 21 = .int .i64 (F : Int) := hf 21 (by omega)
    have f22 : u 22 = .int .i64 (d : Int) := hf 22 (by omega)
    have f23 : u 23 = .int .i64 (n : Int) := hf 23 (by omega)
    have f24 : u 24 = .int .i64 (me : Int) := hf 24 (by omega)
    have f25 : u 25 = .pointer (some ⟨nb, 2, none⟩) := hf 25 (by omega)
    have f26 : u 26 = .int .i64 (t : Int) := hf 26 (by omega)
    have f27 : u 27 = .int .i64 (F : Int) := hf 27 (by omega)
    have f28 : u 28 = .bool false := hf 28 (by omega)
    have f29 : u 29 = .bool false := hf 29 (by omega)
    refine UptoW.rest 0 30 (by rfl) (by kernel_rfl) ?_
    simp only [List.take, List.drop, putOps, Act.put, List.setIfInBounds_toArray, List.set_cons_zero, List.set_cons_succ, Nat.reduceAdd, f0, f1, f2, f3, f4, f5, f6, f7, f8, f9, f10, f11, f12, f13, f14, f15, f16, f17, f18, f19, f20, f21, f22, f23, f24, f25, f26, f27, f28, f29]
    clear f0 f1 f2 f3 f4 f5 f6 f7 f8 f9 f10 f11 f12 f13 f14 f15 f16 f17 f18 f19 f20 f21 f22 f23 f24 f25 f26 f27 f28 f29 hf hp
    have b1 := (hb.cell (p := ⟨bx, 1, none⟩) bz).trans b1
    have b4 := (hb.cell (p := ⟨bx, 4, none⟩) bz).trans b4
    have n2 := (hb.cell (p := ⟨nb, 2, none⟩) nz).trans n2
    have n3 := (hb.cell (p := ⟨nb, 3, none⟩) nz).trans n3
    have bz := Nat.lt_of_lt_of_le bz hb.size
    have nz := Nat.lt_of_lt_of_le nz hb.size
    have HBZ := hide (bl_on HB.out hb)
    have HBY := hide hb
    have hen : en ≤ 1000 := HE.out.2.1
    clear hb b3 n0 n1
    go_wp2_with fail
    go_loopw [46] (fun i wr => ∃ k : Nat, k ≤ en ∧ i = .int .i64 k ∧ (∀ (j : Nat) (x : Nat × List Int), j < k → s.early[j]? = some x → x.1 ≠ t) ∧ Below wz.heap.size wz wr) (fun i _ => en - (intOf i).toNat)
    case atStart => exact ⟨0, Nat.zero_le _, by first | rfl | trivial, fun j x hj => by omega, Below.refl _ _⟩
    case round =>
      obtain ⟨k, hk, rfl, hno, hbr⟩ := hrel
      have HNOT := hide hno
      have HBR := hide hbr
      have hbb := bl_on HBZ.out hbr
      have HBB := hide hbb
      have b1 := (hbr.cell (p := ⟨bx, 1, none⟩) bz).trans b1
      have n2 := (hbr.cell (p := ⟨nb, 2, none⟩) nz).trans n2
      have n3 := (hbr.cell (p := ⟨nb, 3, none⟩) nz).trans n3
      have bz := Nat.lt_of_lt_of_le bz hbr.size
      have nz := Nat.lt_of_lt_of_le nz hbr.size
      have hel : s.early.length = en := HE.out.1
      clear hno
      by_cases hlt : k < en
      · have hkz : (k : Int) < (en : Int) := by omega
        obtain ⟨⟨xk, xl⟩, hxk⟩ : ∃ x, s.early[k]? = some x := ⟨s.early[k], by simp [show k < s.early.length by omega]⟩
        have hE := HE.out.below hbb
        rcases hE.2.2 with h0 | ⟨eb, eo, rfl, hec⟩
        · omega
        obtain ⟨fr, tt, X, m, c, e0, e1, e2, e3, _, _⟩ := hec k _ hxk
        simp only at e2
        have ez := lt_of_cell e0
        have HXK := hide hxk
        clear hbb hbr hE hec hel hxk b4 b1 n3
        by_cases e : xk = t
        · have q1 : (xk : Int) = (t : Int) := by omega
          have q2 : ((xk : Int) == (t : Int)) = true := by simp; omega
          have E := hide e
          clear e q1
          go_wp2_with fail
          go_ret
          refine ⟨?_, bl_on (bl_on HBZ.out HBR.out) (bl_new _)⟩
          have h9 := look_some t s.early k _ HXK.out E.out
          rw [HFM.out]
          cases h8 : lookL t s.early with
          | none => exact absurd h8 h9
          | some z => rfl
        · have q1 : ¬ ((xk : Int) = (t : Int)) := by omega
          have q2 : ((xk : Int) == (t : Int)) = false := by simp; omega
          have E := hide e
          clear e
          go_wp2_with fail
          go_roundw
          case rel =>
            refine ⟨k + 1, by omega, by first | rfl | go_num, fun j x hj hx => ?_, HBR.out.trans ((bl_new _).mono HBR.out.size)⟩
            by_cases e : j = k
            · subst e
              have h9 := HXK.out
              rw [hx] at h9
              cases h9
              exact E.out
            · exact HNOT.out j x (by omega) hx
          case measure => simp [intOf]; omega
      · obtain rfl : k = en := by omega
        have hln : lookL t s.early = none := look_none t s.early fun j x hx => HNOT.out j x (by have := (List.getElem?_eq_some_iff.1 hx).1; omega) hx
        have HLN := hide hln
        clear hln hel b4 hbr
        by_cases d3 : d = 3
        · subst d3
          by_cases hy6 : yn ≤ 65536
          · have hy6' : (yn : Int) ≤ 65536 := by omega
            clear hbb
            go_wp2_with fail
            go_ret
            exact ⟨by rw [HFM.out, HLN.out, HYL.out]; simp [hy6], HBB.out⟩
          · have hy6' : ¬ (yn : Int) ≤ 65536 := by omega
            clear hbb
            go_wp2_with fail
            go_ret
            exact ⟨by rw [HFM.out, HLN.out, HYL.out]; simp [hy6], HBB.out⟩
        · have d3' : ¬ ((d : Int) = 3) := by omega
          obtain ⟨T, hT⟩ : ∃ T, T = takeN d n me t := ⟨_, rfl⟩
          have hTn : T < n := by rw [hT]; exact takeN_lt hn1
          have htk := fun w => rTakes_any d n me t w hn1 hn16 hme (by omega)
          rw [← hT] at htk
          have HTK := hide htk
          obtain ⟨pb, po, rfl, hat⟩ := HP.out.at (by omega)
          obtain ⟨X, m, c, c1, c2, _⟩ := hat T hTn
          have c1 := (hbb.cell (p := ⟨pb, po + T, none⟩) (lt_of_cell c1)).trans c1
          have cz := lt_of_cell c1
          have hTz : (T : Int) < (n : Int) := by omega
          have hml : (prt s.parts (takeN d n me t)).length = m := by unfold prt; rw [← hT]; exact c2.1
          have HML := hide hml
          have HT := hide hT
          clear hbb hT htk hat c2 hml
          go_upto_region 11 with fail
          by_cases hq : yn = m
          · have q1 : (yn : Int) = (m : Int) := by omega
            have q2 : ((yn : Int) == (m : Int)) = true := by simp; omega
            have HQ := hide hq
            clear hq
            refine region_made 15 17 [fIs (.pointer (some ⟨nb, 3, none⟩)), fIs (.slice ya yn yc), fIs (.int .i64 (yn : Int)), fIs (.pointer (some ⟨bx, 1, none⟩)), fIs (.slice (some ⟨pb, po, none⟩) n pc), fIs (.int .i64 (d : Int)), fIs (.int .i64 (n : Int)), fIs (.int .i64 (me : Int)), fIs (.pointer (some ⟨nb, 2, none⟩)), fIs (.int .i64 (t : Int)), fIs (.int .i64 (T : Int)), fIs (.pointer (some ⟨pb, po + T, none⟩)), fIs (.slice X m c), fIs (.int .i64 (m : Int)), fIs (.bool true)] (by kernel_rfl) (by kernel_rfl) (by kernel_rfl) (fun _ ⟨_, _⟩ ⟨_, _⟩ _ e h => by cases e; exact h) ⟨fIs_good _, fIs_good _, fIs_good _, fIs_good _, fIs_good _, fIs_good _, fIs_good _, fIs_good _, fIs_good _, fIs_good _, fIs_good _, fIs_good _, fIs_good _, fIs_good _, fIs_good _, trivial⟩ ?mktrue ?resttrue
            case mktrue =>
              refine ⟨fun u wz hb hd => ?_, fun u wz hb hd => ?_, fun u wz hb hd => ?_, fun u wz hb hd => ?_, fun u wz hb hd => ?_, fun u wz hb hd => ?_, fun u wz hb hd => ?_, fun u wz hb hd => ?_, fun u wz hb hd => ?_, fun u wz hb hd => ?_, fun u wz hb hd => ?_, fun u wz hb hd => ?_, fun u wz hb hd => ?_, fun u wz hb hd => ?_, fun u wz hb hd => ?_, trivial⟩
              all_goals simp only [Act.put, List.setIfInBounds_toArray, List.set_cons_zero, List.set_cons_succ]
              · go_simp
                exact ⟨rfl, Below.refl _ _, fun h => by cases h⟩
              · have e0 : u 0 = .pointer (some ⟨nb, 3, none⟩) := hd 0 (by omega) (by kernel_rfl)
                rw [e0]
                have n3' := (hb.cell (p := ⟨nb, 3, none⟩) (lt_of_cell n3)).trans n3
                go_simp
                exact ⟨rfl, Below.refl _ _, fun h => by cases h⟩
              · have e1 : u 1 = .slice ya yn yc := hd 1 (by omega) (by kernel_rfl)
                rw [e1]
                go_simp
                exact ⟨rfl, Below.refl _ _, fun h => by cases h⟩
              · go_simp
                exact ⟨rfl, Below.refl _ _, fun h => by cases h⟩
              · have e3 : u 3 = .pointer (some ⟨bx, 1, none⟩) := hd 3 (by omega) (by kernel_rfl)
                rw [e3]
                have b1' := (hb.cell (p := ⟨bx, 1, none⟩) (lt_of_cell b1)).trans b1
                go_simp
                exact ⟨rfl, Below.refl _ _, fun h => by cases h⟩
              · go_simp
                exact ⟨rfl, Below.refl _ _, fun h => by cases h⟩
              · go_simp
                exact ⟨rfl, Below.refl _ _, fun h => by cases h⟩
              · go_simp
                exact ⟨rfl, Below.refl _ _, fun h => by cases h⟩
              · go_simp
                exact ⟨rfl, Below.refl _ _, fun h => by cases h⟩
              · have e8 : u 8 = .pointer (some ⟨nb, 2, none⟩) := hd 8 (by omega) (by kernel_rfl)
                rw [e8]
                have n2' := (hb.cell (p := ⟨nb, 2, none⟩) (lt_of_cell n2)).trans n2
                go_simp
                exact ⟨rfl, Below.refl _ _, fun h => by cases h⟩
              · have e5 : u 5 = .int .i64 (d : Int) := hd 5 (by omega) (by kernel_rfl)
                have e6 : u 6 = .int .i64 (n : Int) := hd 6 (by omega) (by kernel_rfl)
                have e7 : u 7 = .int .i64 (me : Int) := hd 7 (by omega) (by kernel_rfl)
                have e9 : u 9 = .int .i64 (t : Int) := hd 9 (by omega) (by kernel_rfl)
                rw [e5, e6, e7, e9]
                go_simp
                refine (HTK.out wz).mono ?_
                rintro e w2 ⟨rfl, rfl⟩
                exact ⟨rfl, Below.refl _ _, fun h => by cases h⟩
              · have e4 : u 4 = .slice (some ⟨pb, po, none⟩) n pc := hd 4 (by omega) (by kernel_rfl)
                have e10 : u 10 = .int .i64 (T : Int) := hd 10 (by omega) (by kernel_rfl)
                rw [e4, e10]
                go_simp
                exact ⟨rfl, Below.refl _ _, fun h => by cases h⟩
              · have e11 : u 11 = .pointer (some ⟨pb, po + T, none⟩) := hd 11 (by omega) (by kernel_rfl)
                rw [e11]
                have c1' := (hb.cell (p := ⟨pb, po + T, none⟩) (lt_of_cell c1)).trans c1
                go_simp
                exact ⟨rfl, Below.refl _ _, fun h => by cases h⟩
              · have e12 : u 12 = .slice X m c := hd 12 (by omega) (by kernel_rfl)
                rw [e12]
                go_simp
                exact ⟨rfl, Below.refl _ _, fun h => by cases h⟩
              · have e2 : u 2 = .int .i64 (yn : Int) := hd 2 (by omega) (by kernel_rfl)
                have e13 : u 13 = .int .i64 (m : Int) := hd 13 (by omega) (by kernel_rfl)
                rw [e2, e13]
                go_simp
                exact ⟨rfl, Below.refl _ _, fun h => by cases h⟩
            case resttrue =>
              intro u wz hb hf hp
              have f0 : u 0 = .pointer (some ⟨nb, 3, none⟩) := hf 0 (by omega)
              have f1 : u 1 = .slice ya yn yc := hf 1 (by omega)
              have f2 : u 2 = .int .i64 (yn : Int) := hf 2 (by omega)
              have f3 : u 3 = .pointer (some ⟨bx, 1, none⟩) := hf 3 (by omega)
              have f4 : u 4 = .slice (some ⟨pb, po, none⟩) n pc := hf 4 (by omega)
              have f5 : u 5 = .int .i64 (d : Int) := hf 5 (by omega)
              have f6 : u 6 = .int .i64 (n : Int) := hf 6 (by omega)
              have f7 : u 7 = .int .i64 (me : Int) := hf 7 (by omega)
              have f8 : u 8 = .pointer (some ⟨nb, 2, none⟩) := hf 8 (by omega)
              have f9 : u 9 = .int .i64 (t : Int) := hf 9 (by omega)
              have f10 : u 10 = .int .i64 (T : Int) := hf 10 (by omega)
              have f11 : u 11 = .pointer (some ⟨pb, po + T, none⟩) := hf 11 (by omega)
              have f12 : u 12 = .slice X m c := hf 12 (by omega)
              have f13 : u 13 = .int .i64 (m : Int) := hf 13 (by omega)
              have f14 : u 14 = .bool true := hf 14 (by omega)
              refine UptoW.rest 1 15 (by rfl) (by kernel_rfl) ?_
              simp only [List.take, List.drop, putOps, Act.put, List.setIfInBounds_toArray, List.set_cons_zero, List.set_cons_succ, Nat.reduceAdd, f0, f1, f2, f3, f4, f5, f6, f7, f8, f9, f10, f11, f12, f13, f14]
              clear f0 f1 f2 f3 f4 f5 f6 f7 f8 f9 f10 f11 f12 f13 f14 hf hp
              have HBW := hide hb
              clear hb
              go_wp2_with fail
              go_ret
              exact ⟨by rw [HFM.out, HLN.out, HYL.out, HML.out, if_neg d3, HQ.out]; simp, bl_on HBB.out HBW.out⟩
          · have q1 : ¬ ((yn : Int) = (m : Int)) := by omega
            have q2 : ((yn : Int) == (m : Int)) = false := by simp; omega
            have HQ := hide hq
            clear hq
            refine region_made 15 17 [fIs (.pointer (some ⟨nb, 3, none⟩)), fIs (.slice ya yn yc), fIs (.int .i64 (yn : Int)), fIs (.pointer (some ⟨bx, 1, none⟩)), fIs (.slice (some ⟨pb, po, none⟩) n pc), fIs (.int .i64 (d : Int)), fIs (.int .i64 (n : Int)), fIs (.int .i64 (me : Int)), fIs (.pointer (some ⟨nb, 2, none⟩)), fIs (.int .i64 (t : Int)), fIs (.int .i64 (T : Int)), fIs (.pointer (some ⟨pb, po + T, none⟩)), fIs (.slice X m c), fIs (.int .i64 (m : Int)), fIs (.bool false)] (by kernel_rfl) (by kernel_rfl) (by kernel_rfl) (fun _ ⟨_, _⟩ ⟨_, _⟩ _ e h => by cases e; exact h) ⟨fIs_good _, fIs_good _, fIs_good _, fIs_good _, fIs_good _, fIs_good _, fIs_good _, fIs_good _, fIs_good _, fIs_good _, fIs_good _, fIs_good _, fIs_good _, fIs_good _, fIs_good _, trivial⟩ ?mkfalse ?restfalse
            case mkfalse =>
              refine ⟨fun u wz hb hd => ?_, fun u wz hb hd => ?_, fun u wz hb hd => ?_, fun u wz hb hd => ?_, fun u wz hb hd => ?_, fun u wz hb hd => ?_, fun u wz hb hd => ?_, fun u wz hb hd => ?_, fun u wz hb hd => ?_, fun u wz hb hd => ?_, fun u wz hb hd => ?_, fun u wz hb hd => ?_, fun u wz hb hd => ?_, fun u wz hb hd => ?_, fun u wz hb hd => ?_, trivial⟩
              all_goals simp only [Act.put, List.setIfInBounds_toArray, List.set_cons_zero, List.set_cons_succ]
              · go_simp
                exact ⟨rfl, Below.refl _ _, fun h => by cases h⟩
              · have e0 : u 0 = .pointer (some ⟨nb, 3, none⟩) := hd 0 (by omega) (by kernel_rfl)
                rw [e0]
                have n3' := (hb.cell (p := ⟨nb, 3, none⟩) (lt_of_cell n3)).trans n3
                go_simp
                exact ⟨rfl, Below.refl _ _, fun h => by cases h⟩
              · have e1 : u 1 = .slice ya yn yc := hd 1 (by omega) (by kernel_rfl)
                rw [e1]
                go_simp
                exact ⟨rfl, Below.refl _ _, fun h => by cases h⟩
              · go_simp
                exact ⟨rfl, Below.refl _ _, fun h => by cases h⟩
              · have e3 : u 3 = .pointer (some ⟨bx, 1, none⟩) := hd 3 (by omega) (by kernel_rfl)
                rw [e3]
                have b1' := (hb.cell (p := ⟨bx, 1, none⟩) (lt_of_cell b1)).trans b1
                go_simp
                exact ⟨rfl, Below.refl _ _, fun h => by cases h⟩
              · go_simp
                exact ⟨rfl, Below.refl _ _, fun h => by cases h⟩
              · go_simp
                exact ⟨rfl, Below.refl _ _, fun h => by cases h⟩
              · go_simp
                exact ⟨rfl, Below.refl _ _, fun h => by cases h⟩
              · go_simp
                exact ⟨rfl, Below.refl _ _, fun h => by cases h⟩
              · have e8 : u 8 = .pointer (some ⟨nb, 2, none⟩) := hd 8 (by omega) (by kernel_rfl)
                rw [e8]
                have n2' := (hb.cell (p := ⟨nb, 2, none⟩) (lt_of_cell n2)).trans n2
                go_simp
                exact ⟨rfl, Below.refl _ _, fun h => by cases h⟩
              · have e5 : u 5 = .int .i64 (d : Int) := hd 5 (by omega) (by kernel_rfl)
                have e6 : u 6 = .int .i64 (n : Int) := hd 6 (by omega) (by kernel_rfl)
                have e7 : u 7 = .int .i64 (me : Int) := hd 7 (by omega) (by kernel_rfl)
                have e9 : u 9 = .int .i64 (t : Int) := hd 9 (by omega) (by kernel_rfl)
                rw [e5, e6, e7, e9]
                go_simp
                refine (HTK.out wz).mono ?_
                rintro e w2 ⟨rfl, rfl⟩
                exact ⟨rfl, Below.refl _ _, fun h => by cases h⟩
              · have e4 : u 4 = .slice (some ⟨pb, po, none⟩) n pc := hd 4 (by omega) (by kernel_rfl)
                have e10 : u 10 = .int .i64 (T : Int) := hd 10 (by omega) (by kernel_rfl)
                rw [e4, e10]
                go_simp
                exact ⟨rfl, Below.refl _ _, fun h => by cases h⟩
              · have e11 : u 11 = .pointer (some ⟨pb, po + T, none⟩) := hd 11 (by omega) (by kernel_rfl)
                rw [e11]
                have c1' := (hb.cell (p := ⟨pb, po + T, none⟩) (lt_of_cell c1)).trans c1
                go_simp
                exact ⟨rfl, Below.refl _ _, fun h => by cases h⟩
              · have e12 : u 12 = .slice X m c := hd 12 (by omega) (by kernel_rfl)
                rw [e12]
                go_simp
                exact ⟨rfl, Below.refl _ _, fun h => by cases h⟩
              · have e2 : u 2 = .int .i64 (yn : Int) := hd 2 (by omega) (by kernel_rfl)
                have e13 : u 13 = .int .i64 (m : Int) := hd 13 (by omega) (by kernel_rfl)
                rw [e2, e13]
                go_simp
                exact ⟨rfl, Below.refl _ _, fun h => by cases h⟩
            case restfalse =>
              intro u wz hb hf hp
              have f0 : u 0 = .pointer (some ⟨nb, 3, none⟩) := hf 0 (by omega)
              have f1 : u 1 = .slice ya yn yc := hf 1 (by omega)
              have f2 : u 2 = .int .i64 (yn : Int) := hf 2 (by omega)
              have f3 : u 3 = .pointer (some ⟨bx, 1, none⟩) := hf 3 (by omega)
              have f4 : u 4 = .slice (some ⟨pb, po, none⟩) n pc := hf 4 (by omega)
              have f5 : u 5 = .int .i64 (d : Int) := hf 5 (by omega)
              have f6 : u 6 = .int .i64 (n : Int) := hf 6 (by omega)
              have f7 : u 7 = .int .i64 (me : Int) := hf 7 (by omega)
              have f8 : u 8 = .pointer (some ⟨nb, 2, none⟩) := hf 8 (by omega)
              have f9 : u 9 = .int .i64 (t : Int) := hf 9 (by omega)
              have f10 : u 10 = .int .i64 (T : Int) := hf 10 (by omega)
              have f11 : u 11 = .pointer (some ⟨pb, po + T, none⟩) := hf 11 (by omega)
              have f12 : u 12 = .slice X m c := hf 12 (by omega)
              have f13 : u 13 = .int .i64 (m : Int) := hf 13 (by omega)
              have f14 : u 14 = .bool false := hf 14 (by omega)
              refine UptoW.rest 1 15 (by rfl) (by kernel_rfl) ?_
              simp only [List.take, List.drop, putOps, Act.put, List.setIfInBounds_toArray, List.set_cons_zero, List.set_cons_succ, Nat.reduceAdd, f0, f1, f2, f3, f4, f5, f6, f7, f8, f9, f10, f11, f12, f13, f14]
              clear f0 f1 f2 f3 f4 f5 f6 f7 f8 f9 f10 f11 f12 f13 f14 hf hp
              have HBW := hide hb
              clear hb
              go_wp2_with fail
              go_ret
              exact ⟨by rw [HFM.out, HLN.out, HYL.out, HML.out, if_neg d3]; simp [HQ.out], bl_on HBB.out HBW.out⟩
end Go.Proofs.Yticcoacoepajpaa.V
