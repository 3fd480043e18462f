/-
  Contract: the document's Next.
-/
import Derived.Test.YticcoacoepajpaaPK33
namespace Go.Proofs.Yticcoacoepajpaa.V
open Go Go.RowKit
set_option linter.unusedVariables false
set_option linter.unusedSimpArgs false

/-- The answer of the document's Next. -/
def RNxAns (W : World) (q : Rs) (d n me : Nat) (s : St) (e : Ending) (w' : World) : Prop :=
  (canM d n s = false → e = .returned (.tuple #[ntV nt0 slZ, .bool false, q.v s])) ∧
  (canM d n s = true → ∃ y : Sl, e = .returned (.tuple #[ntV (noteM d n me s) y, .bool true, q.v (nextM d n s)]) ∧ Num w' y (noteM d n me s).data ∧ ∀ b, y.On b → W.heap.size ≤ b ∧ b < w'.heap.size) ∧ Below W.heap.size W w'
set_option maxRecDepth 20000 in
set_option maxHeartbeats 8000000 in
theorem rNext_any (q : Rs) (d n me : Nat) (s : St) (W : World) (h : RsA W q n s) (hok : StOk d n me s) :
    Calls Try.prog 22 #[.int .i64 (d : Int), .int .i64 (n : Int), .int .i64 (me : Int), q.v s] W fun e w' => RNxAns W q d n me s e w' := by
  have hn1 := hok.n1
  have hn16 := hok.n16
  have hme := hok.mel
  have hpl : q.p.n = n := by rw [← h.parts.1]; exact hok.lp
  have hol : q.o.n = n := by rw [← h.own.1]; exact hok.lo
  have HP := hide h.parts
  have HO := hide h.own
  have HOK := hide hok
  have hse := hok.sent
  obtain ⟨⟨oa, on, oc⟩, ⟨pa, pn, pc⟩, ⟨ea, en, ec⟩⟩ := q
  simp only at hpl hol HP HO
  subst hpl
  subst hol
  obtain ⟨n, hnn⟩ : ∃ n, n = on := ⟨_, rfl⟩
  subst hnn
  have hnb : notN d n ≤ 30 := notN_le hn16
  obtain ⟨N, hN⟩ : ∃ N, N = notN d n := ⟨_, rfl⟩
  have hno := fun w => rNotes_any (d : Int) n w hn1 hn16
  have hdN : notN (d : Int).toNat n = N := by rw [hN]; rfl
  rw [hdN] at hno
  rw [← hN] at hnb hse
  have HNO := hide hno
  have HN := hide hN
  unfold RNxAns Rs.v
  simp only
  obtain ⟨V, hV⟩ : ∃ V, V = ((W.alloc (.cells #[.slice oa n oc, .slice pa n pc, .int .i64 s.sent, .int .i64 s.taken, .slice ea en ec] 60)).alloc (.cells #[.int .i64 0, .int .i64 0, .int .i64 0, .slice none 0 0] 39)).alloc (.cells #[.slice none 0 0, .slice none 0 0, .int .i64 0, .int .i64 0, .slice none 0 0] 60) := ⟨_, rfl⟩
  have hB : Below W.heap.size W V := by rw [hV]; exact ((bl_new _).alloc (by simp) _).alloc (by simp; omega) _
  have hxb : V.heap[W.heap.size]? = some (.cells #[.slice oa n oc, .slice pa n pc, .int .i64 s.sent, .int .i64 s.taken, .slice ea en ec] 60 (0, 0)) := by
    rw [hV]; exact ((bl_new (w := (W.alloc _).alloc _) _).block _ (by simp; omega)).trans (((bl_new (w := W.alloc _) _).block _ (by simp)).trans (World.alloc_heap_new _ _))
  have hnb9 : V.heap[W.heap.size + 1]? = some (.cells #[.int .i64 0, .int .i64 0, .int .i64 0, .slice none 0 0] 39 (0, 0)) := by
    rw [hV]; exact ((bl_new (w := (W.alloc _).alloc _) _).block _ (by simp)).trans (World.alloc_heap_new' _ _ (by simp))
  have hrb : V.heap[W.heap.size + 2]? = some (.cells #[.slice none 0 0, .slice none 0 0, .int .i64 0, .int .i64 0, .slice none 0 0] 60 (0, 0)) := by
    rw [hV]; exact World.alloc_heap_new' _ _ (by simp)
  have hsz : V.heap.size = W.heap.size + 3 := by rw [hV]; simp
  obtain ⟨bx, hbx⟩ : ∃ bx, bx = W.heap.size := ⟨_, rfl⟩
  obtain ⟨bn, hbn⟩ : ∃ bn, bn = W.heap.size + 1 := ⟨_, rfl⟩
  obtain ⟨br, hbr⟩ : ∃ br, br = W.heap.size + 2 := ⟨_, rfl⟩
  rw [← hbx] at hxb
  rw [← hbn] at hnb9
  rw [← hbr] at hrb
  have HXB := hide hxb
  have HNB := hide hnb9
  have HRB := hide hrb
  have b0 : V.cell? ⟨bx, 0, none⟩ = some (.slice oa n oc) := by simp only [World.cell?, hxb]; rfl
  have b1 : V.cell? ⟨bx, 1, none⟩ = some (.slice pa n pc) := by simp only [World.cell?, hxb]; rfl
  have b2 : V.cell? ⟨bx, 2, none⟩ = some (.int .i64 s.sent) := by simp only [World.cell?, hxb]; rfl
  have b3 : V.cell? ⟨bx, 3, none⟩ = some (.int .i64 s.taken) := by simp only [World.cell?, hxb]; rfl
  have b4 : V.cell? ⟨bx, 4, none⟩ = some (.slice ea en ec) := by simp only [World.cell?, hxb]; rfl
  have bz := (Array.getElem?_eq_some_iff.1 hxb).1
  have n0 : V.cell? ⟨bn, 0, none⟩ = some (.int .i64 0) := by simp only [World.cell?, hnb9]; rfl
  have n1 : V.cell? ⟨bn, 1, none⟩ = some (.int .i64 0) := by simp only [World.cell?, hnb9]; rfl
  have n2 : V.cell? ⟨bn, 2, none⟩ = some (.int .i64 0) := by simp only [World.cell?, hnb9]; rfl
  have n3 : V.cell? ⟨bn, 3, none⟩ = some (.slice none 0 0) := by simp only [World.cell?, hnb9]; rfl
  have nf : ∀ k, V.frozen? ⟨bn, k, none⟩ = false := fun k => by simp [World.frozen?, hnb9]
  have nz := (Array.getElem?_eq_some_iff.1 hnb9).1
  have r0 : V.cell? ⟨br, 0, none⟩ = some (.slice none 0 0) := by simp only [World.cell?, hrb]; rfl
  have r1 : V.cell? ⟨br, 1, none⟩ = some (.slice none 0 0) := by simp only [World.cell?, hrb]; rfl
  have r2 : V.cell? ⟨br, 2, none⟩ = some (.int .i64 0) := by simp only [World.cell?, hrb]; rfl
  have r3 : V.cell? ⟨br, 3, none⟩ = some (.int .i64 0) := by simp only [World.cell?, hrb]; rfl
  have r4 : V.cell? ⟨br, 4, none⟩ = some (.slice none 0 0) := by simp only [World.cell?, hrb]; rfl
  have rf : ∀ k, V.frozen? ⟨br, k, none⟩ = false := fun k => by simp [World.frozen?, hrb]
  have rz := (Array.getElem?_eq_some_iff.1 hrb).1
  have HB := hide hB
  have HBX := hide hbx
  have HBN := hide hbn
  have HBR := hide hbr
  have HSZ := hide hsz
  clear h hok hxb hnb9 hrb hdN hno hN hB hsz
  go_enter Try.func22, Try.ntmps22
  go_upto_region 1 with fail
  rw [← hV, ← hbr, ← hbn, ← hbx]
  have x12 : ¬ bx = bn := by omega
  have x13 : ¬ bx = br := by omega
  have x23 : ¬ bn = br := by omega
  have x21 : ¬ bn = bx := by omega
  have x31 : ¬ br = bx := by omega
  have x32 : ¬ br = bn := by omega
  clear hV hbx hbn hbr
  obtain ⟨SE, hSE⟩ : ∃ x, x = s.sent := ⟨_, rfl⟩
  obtain ⟨TK, hTK⟩ : ∃ x, x = s.taken := ⟨_, rfl⟩
  rw [← hSE] at b2 hse
  rw [← hTK] at b3
  have HSE := hide hSE
  have HTK := hide hTK
  have hcan : canM d n s = !(decide (SE = N) || (decide (d ≠ 4) && decide (TK < SE))) := by rw [HN.out, hSE, hTK]; rfl
  have HCAN := hide hcan
  clear hSE hTK hcan
  by_cases hc1 : SE = N
  · have q1 : ((SE : Int) == (N : Int)) = true := by simp; omega
    have HC : Hid (canM d n s = false) := by show canM d n s = false; rw [HCAN.out]; simp [hc1]
    subst hc1
    go_quiet (first | (go_at_call 27; exact Calls.quiet_of_same (HNO.out _)))
    go_wp2_with fail
    go_region
    go_wp2_with fail
    refine bodyPost_ret (results_c3 Try.results22 _ _ bn br _ (.int .i64 0) (.int .i64 0) (.int .i64 0) (.slice none 0 0) (.slice oa n oc) (.slice pa n pc) (.int .i64 SE) (.int .i64 TK) (.slice ea en ec) (0, 0) (0, 0) rfl rfl rfl ?_ ?_) rfl ?_
    rotate_left 2
    · refine ⟨fun _ => by rw [← HSE.out, ← HTK.out]; rfl, fun h9 => absurd h9 (by rw [HC.out]; decide), ?_⟩
      exact rst5_below (set4_below (below_draws HB.out _) (by have := HBN.out; omega)) (by have := HBR.out; omega)
    · exact (rst5_other x23).trans (set4_heap HNB.out rfl)
    · exact rst5_heap ((set4_other x32).trans HRB.out) rfl
  have q1 : ((SE : Int) == (N : Int)) = false := by simp; omega
  have hc1z : ¬ ((SE : Int) = (N : Int)) := by omega
  by_cases d4 : d = 4
  · subst d4
    have HCC : Hid (canM 4 n s = true) := by show canM 4 n s = true; rw [HCAN.out]; simp [hc1]
    obtain ⟨TO, hTO⟩ : ∃ x, x = toN 4 n me SE := ⟨_, rfl⟩
    obtain ⟨PI, hPI⟩ : ∃ x, x = sendN 4 n me SE := ⟨_, rfl⟩
    have hto := fun w => rTo_any 4 n me SE w hn1 hn16 hme (by omega)
    have hsn := fun w => rSends_any 4 n me SE w hn1 hn16 hme (by omega)
    rw [← hTO] at hto
    rw [← hPI] at hsn
    have hPl : PI < n := by rw [hPI]; exact sendN_lt hn1
    obtain ⟨pb, po, rfl, hat⟩ := HO.out.at (by omega)
    obtain ⟨X, m, c, c1, c2, c3⟩ := hat PI hPl
    have c1 := (HB.out.cell (p := ⟨pb, po + PI, none⟩) (lt_of_cell c1)).trans c1
    obtain ⟨D, hD⟩ : ∃ D, D = s.own[PI]?.getD [] := ⟨_, rfl⟩
    rw [← hD] at c2
    have hm : m ≤ 65536 := by
      have h9 := (HOK.out.small PI).2
      unfold prt at h9
      rw [← hD, c2.1] at h9
      exact h9
    have HX := hide (c2.below HB.out)
    have HTO := hide hto
    have HSN := hide hsn
    have HTO2 := hide hTO
    have HPI := hide hPI
    have HD := hide hD
    have hPz : (PI : Int) < (n : Int) := by omega
    clear hat c2 hD hto hsn hTO hPI
    go_quiet (first | (go_at_call 27; exact Calls.quiet_of_same (HNO.out _)))
    go_wp2_with fail
    obtain ⟨VV, hVV⟩ : ∃ VV : World, VV = V.drewN nq := ⟨_, rfl⟩
    rw [← hVV]
    have hBV : Below V.heap.size V VV := by rw [hVV]; exact below_draws (Below.refl _ _) _
    have HBV := hide hBV
    have b0 := (hBV.cell (p := ⟨bx, 0, none⟩) bz).trans b0
    have b1 := (hBV.cell (p := ⟨bx, 1, none⟩) bz).trans b1
    have b2 := (hBV.cell (p := ⟨bx, 2, none⟩) bz).trans b2
    have b3 := (hBV.cell (p := ⟨bx, 3, none⟩) bz).trans b3
    have b4 := (hBV.cell (p := ⟨bx, 4, none⟩) bz).trans b4
    have c1 := (hBV.cell (p := ⟨pb, po + PI, none⟩) (lt_of_cell c1)).trans c1
    have HX := hide (HX.out.below hBV)
    have HVW : Hid (W.heap.size ≤ VV.heap.size) := Nat.le_trans HB.out.size hBV.size
    clear hBV hVV
    refine region_made 22 24 [fIs (.int .i64 (me : Int)), fIs (.int .i64 ((4 : Nat) : Int)), fIs (.int .i64 (n : Int)), fIs (.int .i64 (me : Int)), fIs (.pointer (some ⟨bx, 2, none⟩)), fIs (.int .i64 (SE : Int)), fIs (.int .i64 (TO : Int)), fIs (.pointer (some ⟨bx, 2, none⟩)), fIs (.int .i64 (SE : Int)), fEm, fIs (.slice (some ⟨pb, po, none⟩) n oc), fIs (.int .i64 ((4 : Nat) : Int)), fIs (.int .i64 (n : Int)), fIs (.int .i64 (me : Int)), fIs (.pointer (some ⟨bx, 2, none⟩)), fIs (.int .i64 (SE : Int)), fIs (.int .i64 (PI : Int)), fIs (.pointer (some ⟨pb, po + PI, none⟩)), fIs (.slice X m c), fNw W.heap.size D, fNtw W.heap.size ⟨(me : Int), (TO : Int), (SE : Int), D⟩, fNew VV.heap.size] (by kernel_rfl) (by kernel_rfl) (by kernel_rfl) (fun _ ⟨_, _⟩ ⟨_, _⟩ _ e h => by cases e; exact h) ⟨fIs_good _, fIs_good _, fIs_good _, fIs_good _, fIs_good _, fIs_good _, fIs_good _, fIs_good _, fIs_good _, fEm_good, fIs_good _, fIs_good _, fIs_good _, fIs_good _, fIs_good _, fIs_good _, fIs_good _, fIs_good _, fIs_good _, fNw_good _ _, fNtw_good _ _, fNew_good _, trivial⟩ ?mk ?rest
    case mk =>
      refine ⟨fun u wz hb hd => ?_, fun u wz hb hd => ?_, fun u wz hb hd => ?_, fun u wz hb hd => ?_, fun u wz hb hd => ?_, fun u wz hb hd => ?_, fun u wz hb hd => ?_, fun u wz hb hd => ?_, fun u wz hb hd => ?_, fun u wz hb hd => ?_, fun u wz hb hd => ?_, fun u wz hb hd => ?_, fun u wz hb hd => ?_, fun u wz hb hd => ?_, fun u wz hb hd => ?_, fun u wz hb hd => ?_, fun u wz hb hd => ?_, fun u wz hb hd => ?_, fun u wz hb hd => ?_, fun u wz hb hd => ?_, fun u wz hb hd => ?_, fun u wz hb hd => ?_, trivial⟩
      all_goals simp only [Act.put, List.setIfInBounds_toArray, List.set_cons_zero, List.set_cons_succ]
      · go_simp
        exact ⟨rfl, Below.refl _ _, fun h => by cases h⟩
      · go_simp
        exact ⟨rfl, Below.refl _ _, fun h => by cases h⟩
      · go_simp
        exact ⟨rfl, Below.refl _ _, fun h => by cases h⟩
      · go_simp
        exact ⟨rfl, Below.refl _ _, fun h => by cases h⟩
      · go_simp
        exact ⟨rfl, Below.refl _ _, fun h => by cases h⟩
      · have e4 : u 4 = .pointer (some ⟨bx, 2, none⟩) := hd 4 (by omega) (by kernel_rfl)
        rw [e4]
        have b2' := (hb.cell (p := ⟨bx, 2, none⟩) (lt_of_cell b2)).trans b2
        go_simp
        exact ⟨rfl, Below.refl _ _, fun h => by cases h⟩
      · have e1 : u 1 = .int .i64 ((4 : Nat) : Int) := hd 1 (by omega) (by kernel_rfl)
        have e2 : u 2 = .int .i64 (n : Int) := hd 2 (by omega) (by kernel_rfl)
        have e3 : u 3 = .int .i64 (me : Int) := hd 3 (by omega) (by kernel_rfl)
        have e5 : u 5 = .int .i64 (SE : Int) := hd 5 (by omega) (by kernel_rfl)
        rw [e1, e2, e3, e5]
        go_simp
        refine (HTO.out wz).mono ?_
        rintro e w2 ⟨rfl, rfl⟩
        exact ⟨rfl, Below.refl _ _, fun h => by cases h⟩
      · go_simp
        exact ⟨rfl, Below.refl _ _, fun h => by cases h⟩
      · have e7 : u 7 = .pointer (some ⟨bx, 2, none⟩) := hd 7 (by omega) (by kernel_rfl)
        rw [e7]
        have b2' := (hb.cell (p := ⟨bx, 2, none⟩) (lt_of_cell b2)).trans b2
        go_simp
        exact ⟨rfl, Below.refl _ _, fun h => by cases h⟩
      · go_simp
        exact ⟨⟨_, rfl⟩, bl_new _, fun h => by cases h⟩
      · go_simp
        exact ⟨rfl, Below.refl _ _, fun h => by cases h⟩
      · go_simp
        exact ⟨rfl, Below.refl _ _, fun h => by cases h⟩
      · go_simp
        exact ⟨rfl, Below.refl _ _, fun h => by cases h⟩
      · go_simp
        exact ⟨rfl, Below.refl _ _, fun h => by cases h⟩
      · go_simp
        exact ⟨rfl, Below.refl _ _, fun h => by cases h⟩
      · have e14 : u 14 = .pointer (some ⟨bx, 2, none⟩) := hd 14 (by omega) (by kernel_rfl)
        rw [e14]
        have b2' := (hb.cell (p := ⟨bx, 2, none⟩) (lt_of_cell b2)).trans b2
        go_simp
        exact ⟨rfl, Below.refl _ _, fun h => by cases h⟩
      · have e11 : u 11 = .int .i64 ((4 : Nat) : Int) := hd 11 (by omega) (by kernel_rfl)
        have e12 : u 12 = .int .i64 (n : Int) := hd 12 (by omega) (by kernel_rfl)
        have e13 : u 13 = .int .i64 (me : Int) := hd 13 (by omega) (by kernel_rfl)
        have e15 : u 15 = .int .i64 (SE : Int) := hd 15 (by omega) (by kernel_rfl)
        rw [e11, e12, e13, e15]
        go_simp
        refine (HSN.out wz).mono ?_
        rintro e w2 ⟨rfl, rfl⟩
        exact ⟨rfl, Below.refl _ _, fun h => by cases h⟩
      · have e10 : u 10 = .slice (some ⟨pb, po, none⟩) n oc := hd 10 (by omega) (by kernel_rfl)
        have e16 : u 16 = .int .i64 (PI : Int) := hd 16 (by omega) (by kernel_rfl)
        rw [e10, e16]
        go_simp
        exact ⟨rfl, Below.refl _ _, fun h => by cases h⟩
      · have e17 : u 17 = .pointer (some ⟨pb, po + PI, none⟩) := hd 17 (by omega) (by kernel_rfl)
        rw [e17]
        have c1' := (hb.cell (p := ⟨pb, po + PI, none⟩) (lt_of_cell c1)).trans c1
        go_simp
        exact ⟨rfl, Below.refl _ _, fun h => by cases h⟩
      · obtain ⟨B9, e9⟩ := hd 9 (by omega) (by kernel_rfl)
        have e18 : u 18 = .slice X m c := hd 18 (by omega) (by kernel_rfl)
        rw [e9, e18]
        exact wp_words_e (.tmp 47) (.tmp 56) rfl B9 m c X D rfl rfl (HX.out.below hb) (by omega) (fun y w2 k1 k2 k3 => ⟨_, rfl, ⟨y, rfl, k1, fun b hO => ⟨by have := (k2 b hO).1; have := hb.size; have := HVW.out; omega, (k2 b hO).2⟩⟩, k3, fun h => by cases h⟩)
      · have e0 : u 0 = .int .i64 (me : Int) := hd 0 (by omega) (by kernel_rfl)
        have e6 : u 6 = .int .i64 (TO : Int) := hd 6 (by omega) (by kernel_rfl)
        have e8 : u 8 = .int .i64 (SE : Int) := hd 8 (by omega) (by kernel_rfl)
        obtain ⟨y19, e19, n19, l19⟩ := hd 19 (by omega) (by kernel_rfl)
        rw [e0, e6, e8, e19]
        go_simp
        exact ⟨⟨y19, rfl, n19, l19⟩, Below.refl _ _, fun h => by cases h⟩
      · go_simp
        have hsz := hb.size
        exact ⟨⟨_, rfl, World.alloc_heap_new _ _, hsz⟩, bl_new _, fun h => by cases h⟩
    case rest =>
      intro u wz hb hf hp
      have f0 : u 0 = .int .i64 (me : Int) := hf 0 (by omega)
      have f1 : u 1 = .int .i64 ((4 : Nat) : Int) := hf 1 (by omega)
      have f2 : u 2 = .int .i64 (n : Int) := hf 2 (by omega)
      have f3 : u 3 = .int .i64 (me : Int) := hf 3 (by omega)
      have f4 : u 4 = .pointer (some ⟨bx, 2, none⟩) := hf 4 (by omega)
      have f5 : u 5 = .int .i64 (SE : Int) := hf 5 (by omega)
      have f6 : u 6 = .int .i64 (TO : Int) := hf 6 (by omega)
      have f7 : u 7 = .pointer (some ⟨bx, 2, none⟩) := hf 7 (by omega)
      have f8 : u 8 = .int .i64 (SE : Int) := hf 8 (by omega)
      obtain ⟨B9, f9⟩ := hf 9 (by omega)
      have f10 : u 10 = .slice (some ⟨pb, po, none⟩) n oc := hf 10 (by omega)
      have f11 : u 11 = .int .i64 ((4 : Nat) : Int) := hf 11 (by omega)
      have f12 : u 12 = .int .i64 (n : Int) := hf 12 (by omega)
      have f13 : u 13 = .int .i64 (me : Int) := hf 13 (by omega)
      have f14 : u 14 = .pointer (some ⟨bx, 2, none⟩) := hf 14 (by omega)
      have f15 : u 15 = .int .i64 (SE : Int) := hf 15 (by omega)
      have f16 : u 16 = .int .i64 (PI : Int) := hf 16 (by omega)
      have f17 : u 17 = .pointer (some ⟨pb, po + PI, none⟩) := hf 17 (by omega)
      have f18 : u 18 = .slice X m c := hf 18 (by omega)
      obtain ⟨y19, f19, n19, l19⟩ := hf 19 (by omega)
      obtain ⟨y20, f20, n20, l20⟩ := hf 20 (by omega)
      obtain ⟨C, f21, hC, hCN⟩ := hf 21 (by omega)
      refine UptoW.rest 1 22 (by rfl) (by kernel_rfl) ?_
      simp only [List.take, List.drop, putOps, Act.put, List.setIfInBounds_toArray, List.set_cons_zero, List.set_cons_succ, Nat.reduceAdd, f0, f1, f2, f3, f4, f5, f6, f7, f8, f9, f10, f11, f12, f13, f14, f15, f16, f17, f18, f19, f20, f21]
      clear f0 f1 f2 f3 f4 f5 f6 f7 f8 f9 f10 f11 f12 f13 f14 f15 f16 f17 f18 f19 f20 f21 hf hp
      obtain ⟨ya, yn, yc⟩ := y20
      simp only at n20 l20
      have hCz := (Array.getElem?_eq_some_iff.1 hC).1
      have z0 : wz.cell? ⟨C, 0, none⟩ = some (.int .i64 0) := by simp only [World.cell?, hC]; rfl
      have z1 : wz.cell? ⟨C, 1, none⟩ = some (.int .i64 0) := by simp only [World.cell?, hC]; rfl
      have z2 : wz.cell? ⟨C, 2, none⟩ = some (.int .i64 0) := by simp only [World.cell?, hC]; rfl
      have z3 : wz.cell? ⟨C, 3, none⟩ = some (.slice none 0 0) := by simp only [World.cell?, hC]; rfl
      have zf : ∀ k, wz.frozen? ⟨C, k, none⟩ = false := fun k => by simp [World.frozen?, hC]
      have HN20 := hide n20
      have HL20 := hide l20
      have HBZ := hide hb
      have HCC1 := hide hC
      have HCN := hide hCN
      clear hb n20 l20 n19 l19 hC hCN
      go_upto_region 7 with fail
      obtain ⟨U, hU⟩ : ∃ U, U = set4 wz C (.int .i64 (me : Int)) (.int .i64 (TO : Int)) (.int .i64 (SE : Int)) (.slice ya yn yc) := ⟨_, rfl⟩
      have hBU : Below VV.heap.size VV U := by rw [hU]; exact set4_below HBZ.out HCN.out
      have hCU : U.heap[C]? = some (.cells #[.int .i64 (me : Int), .int .i64 (TO : Int), .int .i64 (SE : Int), .slice ya yn yc] 39 (0, 0)) := by rw [hU]; exact set4_heap HCC1.out rfl
      have hNU : Num U ⟨ya, yn, yc⟩ D := by
        rw [hU]
        refine HN20.out.keep fun b hO => set4_other ?_
        obtain ⟨cur, hc⟩ := HN20.out.blk b hO
        intro e
        rw [e, HCC1.out] at hc
        simp at hc
      have hsU : U.heap.size = wz.heap.size := by rw [hU]; exact set4_size
      unfold set4 at hU
      rw [← hU]
      have hBVU := bl_on HBV.out hBU
      have hxU := (hBVU.block bx bz).trans HXB.out
      have hnU := (hBVU.block bn nz).trans HNB.out
      have hrU := (hBVU.block br rz).trans HRB.out
      rw [← HSE.out, ← HTK.out] at hxU
      have b2 : U.cell? ⟨bx, 2, none⟩ = some (.int .i64 (SE : Int)) := by simp only [World.cell?, hxU]; rfl
      have bf : U.frozen? ⟨bx, 2, none⟩ = false := by simp [World.frozen?, hxU]
      have uz := Nat.lt_of_lt_of_le bz hBVU.size
      have hVC : V.heap.size ≤ C := Nat.le_trans HBV.out.size HCN.out
      have y1 : ¬ C = bx := by omega
      have y2 : ¬ bx = C := by omega
      have y3 : ¬ C = bn := by omega
      have y4 : ¬ bn = C := by omega
      have y5 : ¬ C = br := by omega
      have y6 : ¬ br = C := by omega
      have HNU := hide hNU
      have HLU : Hid (∀ b, (⟨ya, yn, yc⟩ : Sl).On b → W.heap.size ≤ b ∧ b < U.heap.size) := by show ∀ b, (⟨ya, yn, yc⟩ : Sl).On b → W.heap.size ≤ b ∧ b < U.heap.size; rw [hsU]; exact HL20.out
      have HBU := hide hBVU
      have HNUB := hide hnU
      have HRUB := hide hrU
      have HXUB := hide hxU
      have HCUB := hide hCU
      clear hU hBU hCU hNU hsU hBVU hVC hxU hnU hrU hCz zf bz nz rz c1 b0 b1 b3 b4 n0 n1 n2 n3 nf r0 r1 r2 r3 r4 rf z0 z1 z2 z3
      go_upto_region 8 with fail
      obtain ⟨U2, hU2⟩ : ∃ U2, U2 = U.setCell ⟨bx, 2, none⟩ (.int .i64 ((SE : Int) + 1)) := ⟨_, rfl⟩
      rw [← hU2]
      have hxU : U2.heap[bx]? = some (.cells #[.slice (some ⟨pb, po, none⟩) n oc, .slice pa n pc, .int .i64 ((SE : Int) + 1), .int .i64 TK, .slice ea en ec] 60 (0, 0)) := by
        rw [hU2]
        simp [World.setCell, Array.getElem?_modify, HXUB.out]
      have hnU := (show U2.heap[bn]? = U.heap[bn]? by rw [hU2]; exact Below.heap_setCell _ _ _ _ x21).trans HNUB.out
      have hrU := (show U2.heap[br]? = U.heap[br]? by rw [hU2]; exact Below.heap_setCell _ _ _ _ x31).trans HRUB.out
      have hCU := (show U2.heap[C]? = U.heap[C]? by rw [hU2]; exact Below.heap_setCell _ _ _ _ y1).trans HCUB.out
      have hsz2 : U2.heap.size = U.heap.size := by rw [hU2]; simp [World.setCell]
      have HB2 : Hid (Below W.heap.size W U2) := by
        show Below W.heap.size W U2
        rw [hU2]
        exact (bl_on HB.out HBU.out).setCell (by have := HBX.out; simp only; omega) _
      have HN2 : Hid (Num U2 ⟨ya, yn, yc⟩ D) := by
        show Num U2 ⟨ya, yn, yc⟩ D
        rw [hU2]
        refine HNU.out.keep fun b hO => Below.heap_setCell _ _ _ _ ?_
        obtain ⟨cur, hc⟩ := HNU.out.blk b hO
        intro e
        rw [e, HXUB.out] at hc
        simp at hc
      have HL2 : Hid (∀ b, (⟨ya, yn, yc⟩ : Sl).On b → W.heap.size ≤ b ∧ b < U2.heap.size) := by show ∀ b, (⟨ya, yn, yc⟩ : Sl).On b → W.heap.size ≤ b ∧ b < U2.heap.size; rw [hsz2]; exact HLU.out
      have b0 : U2.cell? ⟨bx, 0, none⟩ = some (.slice (some ⟨pb, po, none⟩) n oc) := by simp only [World.cell?, hxU]; rfl
      have b1 : U2.cell? ⟨bx, 1, none⟩ = some (.slice pa n pc) := by simp only [World.cell?, hxU]; rfl
      have b2 : U2.cell? ⟨bx, 2, none⟩ = some (.int .i64 ((SE : Int) + 1)) := by simp only [World.cell?, hxU]; rfl
      have b3 : U2.cell? ⟨bx, 3, none⟩ = some (.int .i64 (TK : Int)) := by simp only [World.cell?, hxU]; rfl
      have b4 : U2.cell? ⟨bx, 4, none⟩ = some (.slice ea en ec) := by simp only [World.cell?, hxU]; rfl
      have n0 : U2.cell? ⟨bn, 0, none⟩ = some (.int .i64 0) := by simp only [World.cell?, hnU]; rfl
      have n1 : U2.cell? ⟨bn, 1, none⟩ = some (.int .i64 0) := by simp only [World.cell?, hnU]; rfl
      have n2 : U2.cell? ⟨bn, 2, none⟩ = some (.int .i64 0) := by simp only [World.cell?, hnU]; rfl
      have n3 : U2.cell? ⟨bn, 3, none⟩ = some (.slice none 0 0) := by simp only [World.cell?, hnU]; rfl
      have nf : ∀ k, U2.frozen? ⟨bn, k, none⟩ = false := fun k => by simp [World.frozen?, hnU]
      have r0 : U2.cell? ⟨br, 0, none⟩ = some (.slice none 0 0) := by simp only [World.cell?, hrU]; rfl
      have r1 : U2.cell? ⟨br, 1, none⟩ = some (.slice none 0 0) := by simp only [World.cell?, hrU]; rfl
      have r2 : U2.cell? ⟨br, 2, none⟩ = some (.int .i64 0) := by simp only [World.cell?, hrU]; rfl
      have r3 : U2.cell? ⟨br, 3, none⟩ = some (.int .i64 0) := by simp only [World.cell?, hrU]; rfl
      have r4 : U2.cell? ⟨br, 4, none⟩ = some (.slice none 0 0) := by simp only [World.cell?, hrU]; rfl
      have rf : ∀ k, U2.frozen? ⟨br, k, none⟩ = false := fun k => by simp [World.frozen?, hrU]
      have z0 : U2.cell? ⟨C, 0, none⟩ = some (.int .i64 (me : Int)) := by simp only [World.cell?, hCU]; rfl
      have z1 : U2.cell? ⟨C, 1, none⟩ = some (.int .i64 (TO : Int)) := by simp only [World.cell?, hCU]; rfl
      have z2 : U2.cell? ⟨C, 2, none⟩ = some (.int .i64 (SE : Int)) := by simp only [World.cell?, hCU]; rfl
      have z3 : U2.cell? ⟨C, 3, none⟩ = some (.slice ya yn yc) := by simp only [World.cell?, hCU]; rfl
      have ux := (Array.getElem?_eq_some_iff.1 hxU).1
      have un := (Array.getElem?_eq_some_iff.1 hnU).1
      have ur := (Array.getElem?_eq_some_iff.1 hrU).1
      have uc := (Array.getElem?_eq_some_iff.1 hCU).1
      have HNU2 := hide hnU
      have HRU2 := hide hrU
      obtain ⟨Z, hZ⟩ : ∃ Z, Z = rst5 (set4 U2 bn (.int .i64 (me : Int)) (.int .i64 (TO : Int)) (.int .i64 (SE : Int)) (.slice ya yn yc)) br (.slice (some ⟨pb, po, none⟩) n oc) (.slice pa n pc) (.int .i64 ((SE : Int) + 1)) (.int .i64 (TK : Int)) (.slice ea en ec) := ⟨_, rfl⟩
      have HZ1 : Hid (Z.heap[bn]? = some (.cells #[.int .i64 (me : Int), .int .i64 (TO : Int), .int .i64 (SE : Int), .slice ya yn yc] 39 (0, 0))) := by
        show Z.heap[bn]? = _
        rw [hZ]
        exact (rst5_other x23).trans (set4_heap hnU rfl)
      have HZ2 : Hid (Z.heap[br]? = some (.cells #[.slice (some ⟨pb, po, none⟩) n oc, .slice pa n pc, .int .i64 ((SE : Int) + 1), .int .i64 (TK : Int), .slice ea en ec] 60 (0, 0))) := by
        show Z.heap[br]? = _
        rw [hZ]
        exact rst5_heap ((set4_other x32).trans hrU) rfl
      have HZ3 : Hid (Num Z ⟨ya, yn, yc⟩ D) := by
        show Num Z ⟨ya, yn, yc⟩ D
        rw [hZ]
        refine HN2.out.keep fun b hO => (rst5_other ?_).trans (set4_other ?_)
        · obtain ⟨cur, hc⟩ := HN2.out.blk b hO
          intro e
          rw [e, hrU] at hc
          simp at hc
        · obtain ⟨cur, hc⟩ := HN2.out.blk b hO
          intro e
          rw [e, hnU] at hc
          simp at hc
      have HZ4 : Hid (∀ b, (⟨ya, yn, yc⟩ : Sl).On b → W.heap.size ≤ b ∧ b < Z.heap.size) := by
        show ∀ b, (⟨ya, yn, yc⟩ : Sl).On b → W.heap.size ≤ b ∧ b < Z.heap.size
        rw [hZ, rst5_size, set4_size]
        exact HL2.out
      have HZ5 : Hid (Below W.heap.size W Z) := by
        show Below W.heap.size W Z
        rw [hZ]
        exact rst5_below (set4_below HB2.out (by have := HBN.out; omega)) (by have := HBR.out; omega)
      have HZ := hide hZ
      clear hU2 hxU hnU hrU hCU hsz2 bf uz hZ
      go_region
      go_wp2_with fail
      have hz := HZ.out
      unfold rst5 set4 at hz
      rw [← hz]
      refine bodyPost_ret (results_c3 Try.results22 _ Z.drew bn br _ (.int .i64 (me : Int)) (.int .i64 (TO : Int)) (.int .i64 (SE : Int)) (.slice ya yn yc) (.slice (some ⟨pb, po, none⟩) n oc) (.slice pa n pc) (.int .i64 ((SE : Int) + 1)) (.int .i64 TK) (.slice ea en ec) (0, 0) (0, 0) rfl rfl rfl HZ1.out HZ2.out) rfl ?_
      refine ⟨fun h9 => absurd h9 (by rw [HCC.out]; decide), fun _ => ⟨⟨ya, yn, yc⟩, ?_, ?_, HZ4.out⟩, HZ5.out.drew⟩
      · unfold nextM
        rw [if_pos HCC.out]
        unfold noteM
        rw [← HSE.out, ← HTO2.out]
        simp only
        rw [← HTK.out]
        rfl
      · unfold noteM
        rw [← HSE.out, if_pos rfl, ← HPI.out]
        unfold prt
        simp only
        rw [← HD.out]
        exact HZ3.out.below (Below.refl _ _).drew
  have d4z : ¬ ((d : Int) = 4) := by omega
  have q2 : ((d : Int) != 4) = true := by simp; omega
  by_cases hc2 : TK < SE
  · have hc2z : (TK : Int) < (SE : Int) := by omega
    have HC : Hid (canM d n s = false) := by show canM d n s = false; rw [HCAN.out]; simp [hc2, d4]
    go_quiet (first | (go_at_call 27; exact Calls.quiet_of_same (HNO.out _)))
    go_wp2_with fail
    go_region
    go_wp2_with fail
    refine bodyPost_ret (results_c3 Try.results22 _ _ bn br _ (.int .i64 0) (.int .i64 0) (.int .i64 0) (.slice none 0 0) (.slice oa n oc) (.slice pa n pc) (.int .i64 SE) (.int .i64 TK) (.slice ea en ec) (0, 0) (0, 0) rfl rfl rfl ?_ ?_) rfl ?_
    rotate_left 2
    · refine ⟨fun _ => by rw [← HSE.out, ← HTK.out]; rfl, fun h9 => absurd h9 (by rw [HC.out]; decide), ?_⟩
      exact rst5_below (set4_below (below_draws HB.out _) (by have := HBN.out; omega)) (by have := HBR.out; omega)
    · exact (rst5_other x23).trans (set4_heap HNB.out rfl)
    · exact rst5_heap ((set4_other x32).trans HRB.out) rfl
  · have hc2z : ¬ (TK : Int) < (SE : Int) := by omega
    have HCC : Hid (canM d n s = true) := by show canM d n s = true; rw [HCAN.out]; simp [hc1, d4, hc2]
    obtain ⟨TO, hTO⟩ : ∃ x, x = toN d n me SE := ⟨_, rfl⟩
    obtain ⟨PI, hPI⟩ : ∃ x, x = sendN d n me SE := ⟨_, rfl⟩
    have hto := fun w => rTo_any d n me SE w hn1 hn16 hme (by omega)
    have hsn := fun w => rSends_any d n me SE w hn1 hn16 hme (by omega)
    rw [← hTO] at hto
    rw [← hPI] at hsn
    have hPl : PI < n := by rw [hPI]; exact sendN_lt hn1
    obtain ⟨pb, po, rfl, hat⟩ := HP.out.at (by omega)
    obtain ⟨X, m, c, c1, c2, c3⟩ := hat PI hPl
    have c1 := (HB.out.cell (p := ⟨pb, po + PI, none⟩) (lt_of_cell c1)).trans c1
    obtain ⟨D, hD⟩ : ∃ D, D = s.parts[PI]?.getD [] := ⟨_, rfl⟩
    rw [← hD] at c2
    have hm : m ≤ 65536 := by
      have h9 := (HOK.out.small PI).1
      unfold prt at h9
      rw [← hD, c2.1] at h9
      exact h9
    have HX := hide (c2.below HB.out)
    have HTO := hide hto
    have HSN := hide hsn
    have HTO2 := hide hTO
    have HPI := hide hPI
    have HD := hide hD
    have hPz : (PI : Int) < (n : Int) := by omega
    clear hat c2 hD hto hsn hTO hPI
    go_quiet (first | (go_at_call 27; exact Calls.quiet_of_same (HNO.out _)))
    go_wp2_with fail
    obtain ⟨VV, hVV⟩ : ∃ VV : World, VV = V.drewN nq := ⟨_, rfl⟩
    rw [← hVV]
    have hBV : Below V.heap.size V VV := by rw [hVV]; exact below_draws (Below.refl _ _) _
    have HBV := hide hBV
    have b0 := (hBV.cell (p := ⟨bx, 0, none⟩) bz).trans b0
    have b1 := (hBV.cell (p := ⟨bx, 1, none⟩) bz).trans b1
    have b2 := (hBV.cell (p := ⟨bx, 2, none⟩) bz).trans b2
    have b3 := (hBV.cell (p := ⟨bx, 3, none⟩) bz).trans b3
    have b4 := (hBV.cell (p := ⟨bx, 4, none⟩) bz).trans b4
    have c1 := (hBV.cell (p := ⟨pb, po + PI, none⟩) (lt_of_cell c1)).trans c1
    have HX := hide (HX.out.below hBV)
    have HVW : Hid (W.heap.size ≤ VV.heap.size) := Nat.le_trans HB.out.size hBV.size
    clear hBV hVV
    refine region_made 22 24 [fIs (.int .i64 (me : Int)), fIs (.int .i64 (d : Int)), fIs (.int .i64 (n : Int)), fIs (.int .i64 (me : Int)), fIs (.pointer (some ⟨bx, 2, none⟩)), fIs (.int .i64 (SE : Int)), fIs (.int .i64 (TO : Int)), fIs (.pointer (some ⟨bx, 2, none⟩)), fIs (.int .i64 (SE : Int)), fEm, fIs (.slice (some ⟨pb, po, none⟩) n pc), fIs (.int .i64 (d : Int)), fIs (.int .i64 (n : Int)), fIs (.int .i64 (me : Int)), fIs (.pointer (some ⟨bx, 2, none⟩)), fIs (.int .i64 (SE : Int)), fIs (.int .i64 (PI : Int)), fIs (.pointer (some ⟨pb, po + PI, none⟩)), fIs (.slice X m c), fNw W.heap.size D, fNtw W.heap.size ⟨(me : Int), (TO : Int), (SE : Int), D⟩, fNew VV.heap.size] (by kernel_rfl) (by kernel_rfl) (by kernel_rfl) (fun _ ⟨_, _⟩ ⟨_, _⟩ _ e h => by cases e; exact h) ⟨fIs_good _, fIs_good _, fIs_good _, fIs_good _, fIs_good _, fIs_good _, fIs_good _, fIs_good _, fIs_good _, fEm_good, fIs_good _, fIs_good _, fIs_good _, fIs_good _, fIs_good _, fIs_good _, fIs_good _, fIs_good _, fIs_good _, fNw_good _ _, fNtw_good _ _, fNew_good _, trivial⟩ ?mk ?rest
    case mk =>
      refine ⟨fun u wz hb hd => ?_, fun u wz hb hd => ?_, fun u wz hb hd => ?_, fun u wz hb hd => ?_, fun u wz hb hd => ?_, fun u wz hb hd => ?_, fun u wz hb hd => ?_, fun u wz hb hd => ?_, fun u wz hb hd => ?_, fun u wz hb hd => ?_, fun u wz hb hd => ?_, fun u wz hb hd => ?_, fun u wz hb hd => ?_, fun u wz hb hd => ?_, fun u wz hb hd => ?_, fun u wz hb hd => ?_, fun u wz hb hd => ?_, fun u wz hb hd => ?_, fun u wz hb hd => ?_, fun u wz hb hd => ?_, fun u wz hb hd => ?_, fun u wz hb hd => ?_, trivial⟩
      all_goals simp only [Act.put, List.setIfInBounds_toArray, List.set_cons_zero, List.set_cons_succ]
      · go_simp
        exact ⟨rfl, Below.refl _ _, fun h => by cases h⟩
      · go_simp
        exact ⟨rfl, Below.refl _ _, fun h => by cases h⟩
      · go_simp
        exact ⟨rfl, Below.refl _ _, fun h => by cases h⟩
      · go_simp
        exact ⟨rfl, Below.refl _ _, fun h => by cases h⟩
      · go_simp
        exact ⟨rfl, Below.refl _ _, fun h => by cases h⟩
      · have e4 : u 4 = .pointer (some ⟨bx, 2, none⟩) := hd 4 (by omega) (by kernel_rfl)
        rw [e4]
        have b2' := (hb.cell (p := ⟨bx, 2, none⟩) (lt_of_cell b2)).trans b2
        go_simp
        exact ⟨rfl, Below.refl _ _, fun h => by cases h⟩
      · have e1 : u 1 = .int .i64 (d : Int) := hd 1 (by omega) (by kernel_rfl)
        have e2 : u 2 = .int .i64 (n : Int) := hd 2 (by omega) (by kernel_rfl)
        have e3 : u 3 = .int .i64 (me : Int) := hd 3 (by omega) (by kernel_rfl)
        have e5 : u 5 = .int .i64 (SE : Int) := hd 5 (by omega) (by kernel_rfl)
        rw [e1, e2, e3, e5]
        go_simp
        refine (HTO.out wz).mono ?_
        rintro e w2 ⟨rfl, rfl⟩
        exact ⟨rfl, Below.refl _ _, fun h => by cases h⟩
      · go_simp
        exact ⟨rfl, Below.refl _ _, fun h => by cases h⟩
      · have e7 : u 7 = .pointer (some ⟨bx, 2, none⟩) := hd 7 (by omega) (by kernel_rfl)
        rw [e7]
        have b2' := (hb.cell (p := ⟨bx, 2, none⟩) (lt_of_cell b2)).trans b2
        go_simp
        exact ⟨rfl, Below.refl _ _, fun h => by cases h⟩
      · go_simp
        exact ⟨⟨_, rfl⟩, bl_new _, fun h => by cases h⟩
      · go_simp
        exact ⟨rfl, Below.refl _ _, fun h => by cases h⟩
      · go_simp
        exact ⟨rfl, Below.refl _ _, fun h => by cases h⟩
      · go_simp
        exact ⟨rfl, Below.refl _ _, fun h => by cases h⟩
      · go_simp
        exact ⟨rfl, Below.refl _ _, fun h => by cases h⟩
      · go_simp
        exact ⟨rfl, Below.refl _ _, fun h => by cases h⟩
      · have e14 : u 14 = .pointer (some ⟨bx, 2, none⟩) := hd 14 (by omega) (by kernel_rfl)
        rw [e14]
        have b2' := (hb.cell (p := ⟨bx, 2, none⟩) (lt_of_cell b2)).trans b2
        go_simp
        exact ⟨rfl, Below.refl _ _, fun h => by cases h⟩
      · have e11 : u 11 = .int .i64 (d : Int) := hd 11 (by omega) (by kernel_rfl)
        have e12 : u 12 = .int .i64 (n : Int) := hd 12 (by omega) (by kernel_rfl)
        have e13 : u 13 = .int .i64 (me : Int) := hd 13 (by omega) (by kernel_rfl)
        have e15 : u 15 = .int .i64 (SE : Int) := hd 15 (by omega) (by kernel_rfl)
        rw [e11, e12, e13, e15]
        go_simp
        refine (HSN.out wz).mono ?_
        rintro e w2 ⟨rfl, rfl⟩
        exact ⟨rfl, Below.refl _ _, fun h => by cases h⟩
      · have e10 : u 10 = .slice (some ⟨pb, po, none⟩) n pc := hd 10 (by omega) (by kernel_rfl)
        have e16 : u 16 = .int .i64 (PI : Int) := hd 16 (by omega) (by kernel_rfl)
        rw [e10, e16]
        go_simp
        exact ⟨rfl, Below.refl _ _, fun h => by cases h⟩
      · have e17 : u 17 = .pointer (some ⟨pb, po + PI, none⟩) := hd 17 (by omega) (by kernel_rfl)
        rw [e17]
        have c1' := (hb.cell (p := ⟨pb, po + PI, none⟩) (lt_of_cell c1)).trans c1
        go_simp
        exact ⟨rfl, Below.refl _ _, fun h => by cases h⟩
      · obtain ⟨B9, e9⟩ := hd 9 (by omega) (by kernel_rfl)
        have e18 : u 18 = .slice X m c := hd 18 (by omega) (by kernel_rfl)
        rw [e9, e18]
        exact wp_words_e (.tmp 47) (.tmp 56) rfl B9 m c X D rfl rfl (HX.out.below hb) (by omega) (fun y w2 k1 k2 k3 => ⟨_, rfl, ⟨y, rfl, k1, fun b hO => ⟨by have := (k2 b hO).1; have := hb.size; have := HVW.out; omega, (k2 b hO).2⟩⟩, k3, fun h => by cases h⟩)
      · have e0 : u 0 = .int .i64 (me : Int) := hd 0 (by omega) (by kernel_rfl)
        have e6 : u 6 = .int .i64 (TO : Int) := hd 6 (by omega) (by kernel_rfl)
        have e8 : u 8 = .int .i64 (SE : Int) := hd 8 (by omega) (by kernel_rfl)
        obtain ⟨y19, e19, n19, l19⟩ := hd 19 (by omega) (by kernel_rfl)
        rw [e0, e6, e8, e19]
        go_simp
        exact ⟨⟨y19, rfl, n19, l19⟩, Below.refl _ _, fun h => by cases h⟩
      · go_simp
        have hsz := hb.size
        exact ⟨⟨_, rfl, World.alloc_heap_new _ _, hsz⟩, bl_new _, fun h => by cases h⟩
    case rest =>
      intro u wz hb hf hp
      have f0 : u 0 = .int .i64 (me : Int) := hf 0 (by omega)
      have f1 : u 1 = .int .i64 (d : Int) := hf 1 (by omega)
      have f2 : u 2 = .int .i64 (n : Int) := hf 2 (by omega)
      have f3 : u 3 = .int .i64 (me : Int) := hf 3 (by omega)
      have f4 : u 4 = .pointer (some ⟨bx, 2, none⟩) := hf 4 (by omega)
      have f5 : u 5 = .int .i64 (SE : Int) := hf 5 (by omega)
      have f6 : u 6 = .int .i64 (TO : Int) := hf 6 (by omega)
      have f7 : u 7 = .pointer (some ⟨bx, 2, none⟩) := hf 7 (by omega)
      have f8 : u 8 = .int .i64 (SE : Int) := hf 8 (by omega)
      obtain ⟨B9, f9⟩ := hf 9 (by omega)
      have f10 : u 10 = .slice (some ⟨pb, po, none⟩) n pc := hf 10 (by omega)
      have f11 : u 11 = .int .i64 (d : Int) := hf 11 (by omega)
      have f12 : u 12 = .int .i64 (n : Int) := hf 12 (by omega)
      have f13 : u 13 = .int .i64 (me : Int) := hf 13 (by omega)
      have f14 : u 14 = .pointer (some ⟨bx, 2, none⟩) := hf 14 (by omega)
      have f15 : u 15 = .int .i64 (SE : Int) := hf 15 (by omega)
      have f16 : u 16 = .int .i64 (PI : Int) := hf 16 (by omega)
      have f17 : u 17 = .pointer (some ⟨pb, po + PI, none⟩) := hf 17 (by omega)
      have f18 : u 18 = .slice X m c := hf 18 (by omega)
      obtain ⟨y19, f19, n19, l19⟩ := hf 19 (by omega)
      obtain ⟨y20, f20, n20, l20⟩ := hf 20 (by omega)
      obtain ⟨C, f21, hC, hCN⟩ := hf 21 (by omega)
      refine UptoW.rest 1 22 (by rfl) (by kernel_rfl) ?_
      simp only [List.take, List.drop, putOps, Act.put, List.setIfInBounds_toArray, List.set_cons_zero, List.set_cons_succ, Nat.reduceAdd, f0, f1, f2, f3, f4, f5, f6, f7, f8, f9, f10, f11, f12, f13, f14, f15, f16, f17, f18, f19, f20, f21]
      clear f0 f1 f2 f3 f4 f5 f6 f7 f8 f9 f10 f11 f12 f13 f14 f15 f16 f17 f18 f19 f20 f21 hf hp
      obtain ⟨ya, yn, yc⟩ := y20
      simp only at n20 l20
      have hCz := (Array.getElem?_eq_some_iff.1 hC).1
      have z0 : wz.cell? ⟨C, 0, none⟩ = some (.int .i64 0) := by simp only [World.cell?, hC]; rfl
      have z1 : wz.cell? ⟨C, 1, none⟩ = some (.int .i64 0) := by simp only [World.cell?, hC]; rfl
      have z2 : wz.cell? ⟨C, 2, none⟩ = some (.int .i64 0) := by simp only [World.cell?, hC]; rfl
      have z3 : wz.cell? ⟨C, 3, none⟩ = some (.slice none 0 0) := by simp only [World.cell?, hC]; rfl
      have zf : ∀ k, wz.frozen? ⟨C, k, none⟩ = false := fun k => by simp [World.frozen?, hC]
      have HN20 := hide n20
      have HL20 := hide l20
      have HBZ := hide hb
      have HCC1 := hide hC
      have HCN := hide hCN
      clear hb n20 l20 n19 l19 hC hCN
      go_upto_region 7 with fail
      obtain ⟨U, hU⟩ : ∃ U, U = set4 wz C (.int .i64 (me : Int)) (.int .i64 (TO : Int)) (.int .i64 (SE : Int)) (.slice ya yn yc) := ⟨_, rfl⟩
      have hBU : Below VV.heap.size VV U := by rw [hU]; exact set4_below HBZ.out HCN.out
      have hCU : U.heap[C]? = some (.cells #[.int .i64 (me : Int), .int .i64 (TO : Int), .int .i64 (SE : Int), .slice ya yn yc] 39 (0, 0)) := by rw [hU]; exact set4_heap HCC1.out rfl
      have hNU : Num U ⟨ya, yn, yc⟩ D := by
        rw [hU]
        refine HN20.out.keep fun b hO => set4_other ?_
        obtain ⟨cur, hc⟩ := HN20.out.blk b hO
        intro e
        rw [e, HCC1.out] at hc
        simp at hc
      have hsU : U.heap.size = wz.heap.size := by rw [hU]; exact set4_size
      unfold set4 at hU
      rw [← hU]
      have hBVU := bl_on HBV.out hBU
      have hxU := (hBVU.block bx bz).trans HXB.out
      have hnU := (hBVU.block bn nz).trans HNB.out
      have hrU := (hBVU.block br rz).trans HRB.out
      rw [← HSE.out, ← HTK.out] at hxU
      have b2 : U.cell? ⟨bx, 2, none⟩ = some (.int .i64 (SE : Int)) := by simp only [World.cell?, hxU]; rfl
      have bf : U.frozen? ⟨bx, 2, none⟩ = false := by simp [World.frozen?, hxU]
      have uz := Nat.lt_of_lt_of_le bz hBVU.size
      have hVC : V.heap.size ≤ C := Nat.le_trans HBV.out.size HCN.out
      have y1 : ¬ C = bx := by omega
      have y2 : ¬ bx = C := by omega
      have y3 : ¬ C = bn := by omega
      have y4 : ¬ bn = C := by omega
      have y5 : ¬ C = br := by omega
      have y6 : ¬ br = C := by omega
      have HNU := hide hNU
      have HLU : Hid (∀ b, (⟨ya, yn, yc⟩ : Sl).On b → W.heap.size ≤ b ∧ b < U.heap.size) := by show ∀ b, (⟨ya, yn, yc⟩ : Sl).On b → W.heap.size ≤ b ∧ b < U.heap.size; rw [hsU]; exact HL20.out
      have HBU := hide hBVU
      have HNUB := hide hnU
      have HRUB := hide hrU
      have HXUB := hide hxU
      have HCUB := hide hCU
      clear hU hBU hCU hNU hsU hBVU hVC hxU hnU hrU hCz zf bz nz rz c1 b0 b1 b3 b4 n0 n1 n2 n3 nf r0 r1 r2 r3 r4 rf z0 z1 z2 z3
      go_upto_region 8 with fail
      obtain ⟨U2, hU2⟩ : ∃ U2, U2 = U.setCell ⟨bx, 2, none⟩ (.int .i64 ((SE : Int) + 1)) := ⟨_, rfl⟩
      rw [← hU2]
      have hxU : U2.heap[bx]? = some (.cells #[.slice oa n oc, .slice (some ⟨pb, po, none⟩) n pc, .int .i64 ((SE : Int) + 1), .int .i64 TK, .slice ea en ec] 60 (0, 0)) := by
        rw [hU2]
        simp [World.setCell, Array.getElem?_modify, HXUB.out]
      have hnU := (show U2.heap[bn]? = U.heap[bn]? by rw [hU2]; exact Below.heap_setCell _ _ _ _ x21).trans HNUB.out
      have hrU := (show U2.heap[br]? = U.heap[br]? by rw [hU2]; exact Below.heap_setCell _ _ _ _ x31).trans HRUB.out
      have hCU := (show U2.heap[C]? = U.heap[C]? by rw [hU2]; exact Below.heap_setCell _ _ _ _ y1).trans HCUB.out
      have hsz2 : U2.heap.size = U.heap.size := by rw [hU2]; simp [World.setCell]
      have HB2 : Hid (Below W.heap.size W U2) := by
        show Below W.heap.size W U2
        rw [hU2]
        exact (bl_on HB.out HBU.out).setCell (by have := HBX.out; simp only; omega) _
      have HN2 : Hid (Num U2 ⟨ya, yn, yc⟩ D) := by
        show Num U2 ⟨ya, yn, yc⟩ D
        rw [hU2]
        refine HNU.out.keep fun b hO => Below.heap_setCell _ _ _ _ ?_
        obtain ⟨cur, hc⟩ := HNU.out.blk b hO
        intro e
        rw [e, HXUB.out] at hc
        simp at hc
      have HL2 : Hid (∀ b, (⟨ya, yn, yc⟩ : Sl).On b → W.heap.size ≤ b ∧ b < U2.heap.size) := by show ∀ b, (⟨ya, yn, yc⟩ : Sl).On b → W.heap.size ≤ b ∧ b < U2.heap.size; rw [hsz2]; exact HLU.out
      have b0 : U2.cell? ⟨bx, 0, none⟩ = some (.slice oa n oc) := by simp only [World.cell?, hxU]; rfl
      have b1 : U2.cell? ⟨bx, 1, none⟩ = some (.slice (some ⟨pb, po, none⟩) n pc) := by simp only [World.cell?, hxU]; rfl
      have b2 : U2.cell? ⟨bx, 2, none⟩ = some (.int .i64 ((SE : Int) + 1)) := by simp only [World.cell?, hxU]; rfl
      have b3 : U2.cell? ⟨bx, 3, none⟩ = some (.int .i64 (TK : Int)) := by simp only [World.cell?, hxU]; rfl
      have b4 : U2.cell? ⟨bx, 4, none⟩ = some (.slice ea en ec) := by simp only [World.cell?, hxU]; rfl
      have n0 : U2.cell? ⟨bn, 0, none⟩ = some (.int .i64 0) := by simp only [World.cell?, hnU]; rfl
      have n1 : U2.cell? ⟨bn, 1, none⟩ = some (.int .i64 0) := by simp only [World.cell?, hnU]; rfl
      have n2 : U2.cell? ⟨bn, 2, none⟩ = some (.int .i64 0) := by simp only [World.cell?, hnU]; rfl
      have n3 : U2.cell? ⟨bn, 3, none⟩ = some (.slice none 0 0) := by simp only [World.cell?, hnU]; rfl
      have nf : ∀ k, U2.frozen? ⟨bn, k, none⟩ = false := fun k => by simp [World.frozen?, hnU]
      have r0 : U2.cell? ⟨br, 0, none⟩ = some (.slice none 0 0) := by simp only [World.cell?, hrU]; rfl
      have r1 : U2.cell? ⟨br, 1, none⟩ = some (.slice none 0 0) := by simp only [World.cell?, hrU]; rfl
      have r2 : U2.cell? ⟨br, 2, none⟩ = some (.int .i64 0) := by simp only [World.cell?, hrU]; rfl
      have r3 : U2.cell? ⟨br, 3, none⟩ = some (.int .i64 0) := by simp only [World.cell?, hrU]; rfl
      have r4 : U2.cell? ⟨br, 4, none⟩ = some (.slice none 0 0) := by simp only [World.cell?, hrU]; rfl
      have rf : ∀ k, U2.frozen? ⟨br, k, none⟩ = false := fun k => by simp [World.frozen?, hrU]
      have z0 : U2.cell? ⟨C, 0, none⟩ = some (.int .i64 (me : Int)) := by simp only [World.cell?, hCU]; rfl
      have z1 : U2.cell? ⟨C, 1, none⟩ = some (.int .i64 (TO : Int)) := by simp only [World.cell?, hCU]; rfl
      have z2 : U2.cell? ⟨C, 2, none⟩ = some (.int .i64 (SE : Int)) := by simp only [World.cell?, hCU]; rfl
      have z3 : U2.cell? ⟨C, 3, none⟩ = some (.slice ya yn yc) := by simp only [World.cell?, hCU]; rfl
      have ux := (Array.getElem?_eq_some_iff.1 hxU).1
      have un := (Array.getElem?_eq_some_iff.1 hnU).1
      have ur := (Array.getElem?_eq_some_iff.1 hrU).1
      have uc := (Array.getElem?_eq_some_iff.1 hCU).1
      have HNU2 := hide hnU
      have HRU2 := hide hrU
      obtain ⟨Z, hZ⟩ : ∃ Z, Z = rst5 (set4 U2 bn (.int .i64 (me : Int)) (.int .i64 (TO : Int)) (.int .i64 (SE : Int)) (.slice ya yn yc)) br (.slice oa n oc) (.slice (some ⟨pb, po, none⟩) n pc) (.int .i64 ((SE : Int) + 1)) (.int .i64 (TK : Int)) (.slice ea en ec) := ⟨_, rfl⟩
      have HZ1 : Hid (Z.heap[bn]? = some (.cells #[.int .i64 (me : Int), .int .i64 (TO : Int), .int .i64 (SE : Int), .slice ya yn yc] 39 (0, 0))) := by
        show Z.heap[bn]? = _
        rw [hZ]
        exact (rst5_other x23).trans (set4_heap hnU rfl)
      have HZ2 : Hid (Z.heap[br]? = some (.cells #[.slice oa n oc, .slice (some ⟨pb, po, none⟩) n pc, .int .i64 ((SE : Int) + 1), .int .i64 (TK : Int), .slice ea en ec] 60 (0, 0))) := by
        show Z.heap[br]? = _
        rw [hZ]
        exact rst5_heap ((set4_other x32).trans hrU) rfl
      have HZ3 : Hid (Num Z ⟨ya, yn, yc⟩ D) := by
        show Num Z ⟨ya, yn, yc⟩ D
        rw [hZ]
        refine HN2.out.keep fun b hO => (rst5_other ?_).trans (set4_other ?_)
        · obtain ⟨cur, hc⟩ := HN2.out.blk b hO
          intro e
          rw [e, hrU] at hc
          simp at hc
        · obtain ⟨cur, hc⟩ := HN2.out.blk b hO
          intro e
          rw [e, hnU] at hc
          simp at hc
      have HZ4 : Hid (∀ b, (⟨ya, yn, yc⟩ : Sl).On b → W.heap.size ≤ b ∧ b < Z.heap.size) := by
        show ∀ b, (⟨ya, yn, yc⟩ : Sl).On b → W.heap.size ≤ b ∧ b < Z.heap.size
        rw [hZ, rst5_size, set4_size]
        exact HL2.out
      have HZ5 : Hid (Below W.heap.size W Z) := by
        show Below W.heap.size W Z
        rw [hZ]
        exact rst5_below (set4_below HB2.out (by have := HBN.out; omega)) (by have := HBR.out; omega)
      have HZ := hide hZ
      clear hU2 hxU hnU hrU hCU hsz2 bf uz hZ
      go_region
      go_wp2_with fail
      have hz := HZ.out
      unfold rst5 set4 at hz
      rw [← hz]
      refine bodyPost_ret (results_c3 Try.results22 _ Z.drew bn br _ (.int .i64 (me : Int)) (.int .i64 (TO : Int)) (.int .i64 (SE : Int)) (.slice ya yn yc) (.slice oa n oc) (.slice (some ⟨pb, po, none⟩) n pc) (.int .i64 ((SE : Int) + 1)) (.int .i64 TK) (.slice ea en ec) (0, 0) (0, 0) rfl rfl rfl HZ1.out HZ2.out) rfl ?_
      refine ⟨fun h9 => absurd h9 (by rw [HCC.out]; decide), fun _ => ⟨⟨ya, yn, yc⟩, ?_, ?_, HZ4.out⟩, HZ5.out.drew⟩
      · unfold nextM
        rw [if_pos HCC.out]
        unfold noteM
        rw [← HSE.out, ← HTO2.out]
        simp only
        rw [← HTK.out]
        rfl
      · unfold noteM
        rw [← HSE.out, if_neg d4, ← HPI.out]
        unfold prt
        simp only
        rw [← HD.out]
        exact HZ3.out.below (Below.refl _ _).drew
end Go.Proofs.Yticcoacoepajpaa.V
