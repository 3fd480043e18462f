/-
  Contract: the document's Take.
-/
import Derived.Test.YticcoacoepajpaaPK34
namespace Go.Proofs.Yticcoacoepajpaa.V
open Go Go.RowKit
set_option linter.unusedVariables false
set_option linter.unusedSimpArgs false

def fOneI (v : Int) : Fact := ⟨fun u W => ∃ g : Nat, u = .slice (some ⟨g, 0, none⟩) 1 1 ∧ W.cell? ⟨g, 0, none⟩ = some (.int .i64 v), false⟩
theorem fOneI_good (v : Int) : (fOneI v).Good := ⟨fun _ _ _ ⟨g, h1, h2⟩ hb => ⟨g, h1, (hb.cell (p := ⟨g, 0, none⟩) (lt_of_cell h2)).trans h2⟩, fun h => by cases h⟩
theorem one_ints {W : World} {g : Nat} {v : Int} (h : W.cell? ⟨g, 0, none⟩ = some (.int .i64 (IntKind.i64.wrap v))) : Ints W (some ⟨g, 0, none⟩) 1 [wrap64 v] := by
  refine ⟨rfl, by omega, fun x hx => ?_, .inr ⟨g, 0, rfl, fun j hj => ?_⟩⟩
  · have : x = wrap64 v := by simpa using hx
    rw [this]
    exact wrap_in2 _
  · have : j = 0 := by omega
    subst this
    rw [IntKind.wrap_i64] at h
    show W.cell? ⟨g, 0, none⟩ = some (.int .i64 (wrap64 v))
    unfold wrap64
    exact h
theorem tkO_of {S : Nat → Prop} {W : World} {N b8 b11 d n me : Nat} {s1 : St} {q : Rs} {s : St} {wr : World} (h : TkI S W N b8 b11 d n me s1 q s wr) : tkO wr b8 = s.taken := by
  have hb := h.box
  have h3 : wr.cell? ⟨b8, 3, none⟩ = some (.int .i64 (s.taken : Int)) := by simp only [World.cell?, hb]; rfl
  unfold tkO
  rw [h3]
  simp [intOf]
theorem look_at (t : Nat) : ∀ (l : List (Nat × List Int)) (k : Nat) (x : Nat × List Int), l[k]? = some x → x.1 = t → (∀ (j : Nat) (z : Nat × List Int), j < k → l[j]? = some z → z.1 ≠ t) → lookL t l = some x.2
  | [], k, x, h, _, _ => by simp at h
  | y :: l, 0, x, h, e, _ => by
    have : y = x := by simpa using h
    subst this
    unfold lookL
    rw [if_pos e]
  | y :: l, k + 1, x, h, e, hn => by
    unfold lookL
    rw [if_neg (hn 0 y (by omega) rfl)]
    exact look_at t l k x (by simpa using h) e fun j z hj hz => hn (j + 1) z (by omega) (by simpa using hz)
set_option maxRecDepth 20000 in
set_option maxHeartbeats 16000000 in
theorem rTake_any (q : Rs) (d n me : Nat) (s : St) (x : Nt) (y : Sl) (W : World) (S : Nat → Prop) (hS : LowS S W.heap.size) (h : Stt S W fun V => RsA V q n s) (htop : Tops S q) (hy : Stt S W fun V => Ints V y.a y.n x.data) (hyc : y.n ≤ y.c) (hok : StOk d n me s) (hel : s.early.length ≤ 900) :
    Calls Try.prog 24 #[.int .i64 (d : Int), .int .i64 (n : Int), .int .i64 (me : Int), q.v s, ntV x y] W fun e w' => RTkAns W S d n me s x e w' := by
  have hn1 := hok.n1
  have hn16 := hok.n16
  have hme := hok.mel
  have hpl : q.p.n = n := by rw [← h.now.parts.1]; exact hok.lp
  have hel2 : q.e.n ≤ 900 := by rw [← h.now.early.1]; exact hel
  have HOK := hide hok
  have HH := hide h
  have HY := hide hy
  have HTOP := hide htop
  have HS := hide hS
  have hy0 := hy.now
  have HFI := hide (fun (V : World) (hb : Below W.heap.size W V) => rFits_any q d n me s x y V (h.now.below hb) hok (hy0.below hb) hyc)
  obtain ⟨⟨oa, on, oc⟩, ⟨pa, pn, pc⟩, ⟨ea, en, ec⟩⟩ := q
  obtain ⟨xf, xt, xs, xd⟩ := x
  obtain ⟨ya, yn, yc⟩ := y
  simp only at hpl hel2 hyc
  subst hpl
  obtain ⟨n, hnn⟩ : ∃ n, n = pn := ⟨_, rfl⟩
  subst hnn
  unfold RTkAns
  unfold Rs.v ntV at HFI ⊢
  simp only at HFI ⊢
  obtain ⟨V, hV⟩ : ∃ V, V = ((W.alloc (.cells #[.slice oa on oc, .slice pa n pc, .int .i64 (s.sent : Int), .int .i64 (s.taken : Int), .slice ea en ec] 60)).alloc (.cells #[.int .i64 xf, .int .i64 xt, .int .i64 xs, .slice ya yn yc] 39)).alloc (.cells #[.slice none 0 0, .slice none 0 0, .int .i64 0, .int .i64 0, .slice none 0 0] 60) := ⟨_, rfl⟩
  have hB : Below W.heap.size W V := by rw [hV]; exact ((bl_new _).alloc (by simp) _).alloc (by simp; omega) _
  obtain ⟨b8, hb8⟩ : ∃ b, b = W.heap.size := ⟨_, rfl⟩
  obtain ⟨b9, hb9⟩ : ∃ b, b = W.heap.size + 1 := ⟨_, rfl⟩
  obtain ⟨b11, hb11⟩ : ∃ b, b = W.heap.size + 2 := ⟨_, rfl⟩
  have h8 : V.heap[b8]? = some (.cells #[.slice oa on oc, .slice pa n pc, .int .i64 (s.sent : Int), .int .i64 (s.taken : Int), .slice ea en ec] 60 (0, 0)) := by
    rw [hV, hb8]; exact ((bl_new (w := (W.alloc _).alloc _) _).block _ (by simp; omega)).trans (((bl_new (w := W.alloc _) _).block _ (by simp)).trans (World.alloc_heap_new _ _))
  have h9 : V.heap[b9]? = some (.cells #[.int .i64 xf, .int .i64 xt, .int .i64 xs, .slice ya yn yc] 39 (0, 0)) := by
    rw [hV, hb9]; exact ((bl_new (w := (W.alloc _).alloc _) _).block _ (by simp)).trans (World.alloc_heap_new' _ _ (by simp))
  have h11 : V.heap[b11]? = some (.cells #[.slice none 0 0, .slice none 0 0, .int .i64 0, .int .i64 0, .slice none 0 0] 60 (0, 0)) := by
    rw [hV, hb11]; exact World.alloc_heap_new' _ _ (by simp)
  have hsz : V.heap.size = W.heap.size + 3 := by rw [hV]; simp
  have HBE : Hid (b8 = W.heap.size ∧ b9 = W.heap.size + 1 ∧ b11 = W.heap.size + 2) := ⟨hb8, hb9, hb11⟩
  have H8 := hide h8
  have H9 := hide h9
  have H11 := hide h11
  have HB := hide hB
  have HSZ := hide hsz
  have b0 : V.cell? ⟨b8, 0, none⟩ = some (.slice oa on oc) := by simp only [World.cell?, h8]; rfl
  have b1 : V.cell? ⟨b8, 1, none⟩ = some (.slice pa n pc) := by simp only [World.cell?, h8]; rfl
  have b2 : V.cell? ⟨b8, 2, none⟩ = some (.int .i64 (s.sent : Int)) := by simp only [World.cell?, h8]; rfl
  have b3 : V.cell? ⟨b8, 3, none⟩ = some (.int .i64 (s.taken : Int)) := by simp only [World.cell?, h8]; rfl
  have b4 : V.cell? ⟨b8, 4, none⟩ = some (.slice ea en ec) := by simp only [World.cell?, h8]; rfl
  have n0 : V.cell? ⟨b9, 0, none⟩ = some (.int .i64 xf) := by simp only [World.cell?, h9]; rfl
  have n1 : V.cell? ⟨b9, 1, none⟩ = some (.int .i64 xt) := by simp only [World.cell?, h9]; rfl
  have n2 : V.cell? ⟨b9, 2, none⟩ = some (.int .i64 xs) := by simp only [World.cell?, h9]; rfl
  have n3 : V.cell? ⟨b9, 3, none⟩ = some (.slice ya yn yc) := by simp only [World.cell?, h9]; rfl
  have bz := (Array.getElem?_eq_some_iff.1 h8).1
  have nz := (Array.getElem?_eq_some_iff.1 h9).1
  clear h hok hy hS htop h8 h9 h11 hB hsz hy0
  go_enter Try.func24, Try.ntmps24
  go_upto_region 1 with fail
  rw [← hV, ← hb11, ← hb9, ← hb8]
  clear hV hb8 hb9 hb11
  go_wp2_with (go_at_call 40; refine stp ?_)
  unfold Stp1
  refine (HFI.out V HB.out).mono ?_
  rintro e w1 ⟨rfl, hb1⟩
  obtain ⟨fm, hfm⟩ : ∃ fm, fm = fitsM d n me s ⟨xf, xt, xs, xd⟩ := ⟨_, rfl⟩
  rw [← hfm]
  have b0 := (hb1.cell (p := ⟨b8, 0, none⟩) bz).trans b0
  have b1 := (hb1.cell (p := ⟨b8, 1, none⟩) bz).trans b1
  have b2 := (hb1.cell (p := ⟨b8, 2, none⟩) bz).trans b2
  have b3 := (hb1.cell (p := ⟨b8, 3, none⟩) bz).trans b3
  have b4 := (hb1.cell (p := ⟨b8, 4, none⟩) bz).trans b4
  have n0 := (hb1.cell (p := ⟨b9, 0, none⟩) nz).trans n0
  have n1 := (hb1.cell (p := ⟨b9, 1, none⟩) nz).trans n1
  have n2 := (hb1.cell (p := ⟨b9, 2, none⟩) nz).trans n2
  have n3 := (hb1.cell (p := ⟨b9, 3, none⟩) nz).trans n3
  have bz := Nat.lt_of_lt_of_le bz hb1.size
  have nz := Nat.lt_of_lt_of_le nz hb1.size
  have H8 : Hid (w1.heap[b8]? = _) := (hb1.block b8 (by have := HBE.out; have := HSZ.out; omega)).trans H8.out
  have H9 : Hid (w1.heap[b9]? = _) := (hb1.block b9 (by have := HBE.out; have := HSZ.out; omega)).trans H9.out
  have H11 : Hid (w1.heap[b11]? = _) := (hb1.block b11 (by have := HBE.out; have := HSZ.out; omega)).trans H11.out
  have HB1 := hide (bl_on HB.out hb1)
  have HS1 : Hid (W.heap.size + 3 ≤ w1.heap.size) := by show W.heap.size + 3 ≤ w1.heap.size; have := HSZ.out; have := hb1.size; omega
  have x1 : ¬ b8 = b11 := by have := HBE.out; omega
  have x2 : ¬ b11 = b8 := by have := HBE.out; omega
  have r0 : w1.cell? ⟨b11, 0, none⟩ = some (.slice none 0 0) := by simp only [World.cell?, H11.out]; rfl
  have r1 : w1.cell? ⟨b11, 1, none⟩ = some (.slice none 0 0) := by simp only [World.cell?, H11.out]; rfl
  have r2 : w1.cell? ⟨b11, 2, none⟩ = some (.int .i64 0) := by simp only [World.cell?, H11.out]; rfl
  have r3 : w1.cell? ⟨b11, 3, none⟩ = some (.int .i64 0) := by simp only [World.cell?, H11.out]; rfl
  have r4 : w1.cell? ⟨b11, 4, none⟩ = some (.slice none 0 0) := by simp only [World.cell?, H11.out]; rfl
  have rz := (Array.getElem?_eq_some_iff.1 H11.out).1
  have rf : ∀ k, w1.frozen? ⟨b11, k, none⟩ = false := fun k => by simp [World.frozen?, H11.out]
  clear hb1
  have HFM := hide hfm
  clear hfm
  cases fm with
  | false =>
    have hta : takeM d n me s ⟨xf, xt, xs, xd⟩ = s := by unfold takeM; rw [if_neg (by rw [← HFM.out]; decide)]
    have hte : takeE d n me s ⟨xf, xt, xs, xd⟩ = 13 := by unfold takeE; rw [if_neg (by rw [← HFM.out]; decide)]
    have HTA := hide hta
    have HTE := hide hte
    clear hta hte
    obtain ⟨Z, hZ⟩ : ∃ Z, Z = rst5 w1 b11 (.slice oa on oc) (.slice pa n pc) (.int .i64 (s.sent : Int)) (.int .i64 (s.taken : Int)) (.slice ea en ec) := ⟨_, rfl⟩
    have HZ := hide hZ
    clear hZ
    go_wp2_with fail
    go_region
    go_wp2_with fail
    have hz := HZ.out
    unfold rst5 at hz
    rw [← hz]
    clear hz
    have hZ11 : Z.heap[b11]? = some (.cells #[.slice oa on oc, .slice pa n pc, .int .i64 (s.sent : Int), .int .i64 (s.taken : Int), .slice ea en ec] 60 (0, 0)) := by rw [HZ.out]; exact rst5_heap H11.out rfl
    have hfin := take_end (N := W.heap.size + 3) (b11 := b11) (U := w1) HS.out (by have := HBE.out; omega) ⟨_, _, H11.out⟩ ((HH.out.agr (agr_below HS.out HB1.out)).mono fun b h => .inl h) (HTOP.out.mono fun b h => .inl h) HB1.out (.slice oa on oc) (.slice pa n pc) (.int .i64 (s.sent : Int)) (.int .i64 (s.taken : Int)) (.slice ea en ec)
    rw [← HZ.out] at hfin
    refine bodyPost_ret (results_c2 Try.results24 _ Z.drew b11 _ (.slice oa on oc) (.slice pa n pc) (.int .i64 (s.sent : Int)) (.int .i64 (s.taken : Int)) (.slice ea en ec) (0, 0) rfl rfl hZ11) rfl ?_
    refine ⟨⟨⟨oa, on, oc⟩, ⟨pa, n, pc⟩, ⟨ea, en, ec⟩⟩, ?_, hfin.1, ?_, hfin.2.2⟩
    · rw [HTA.out, HTE.out]; rfl
    · rw [HTA.out]; exact hfin.2.1
  | true => 
    have hta : takeM d n me s ⟨xf, xt, xs, xd⟩ = drainA d n me { s with early := s.early ++ [(xs.toNat, xd)] } := by unfold takeM; rw [if_pos HFM.out.symm]
    have hte : takeE d n me s ⟨xf, xt, xs, xd⟩ = 0 := by unfold takeE; rw [if_pos HFM.out.symm]
    have HTA := hide hta
    have HTE := hide hte
    have hok1 := HOK.out.kept ⟨xf, xt, xs, xd⟩ HFM.out.symm
    have hx0 : 0 ≤ xs := by
      have h1 := HFM.out.symm
      unfold fitsM at h1
      simp only [Bool.and_eq_true, decide_eq_true_eq] at h1
      omega
    obtain ⟨t, rfl⟩ : ∃ t : Nat, xs = (t : Int) := ⟨xs.toNat, by omega⟩
    simp only [Int.toNat_natCast] at HTA hok1
    clear hta hte hx0
    obtain ⟨s1, hs1⟩ : ∃ s1 : St, s1 = { s with early := s.early ++ [(t, xd)] } := ⟨_, rfl⟩
    rw [← hs1] at HTA hok1
    have HOK1 := hide hok1
    have HS1E := hide hs1
    obtain ⟨CE, hcl, hcx⟩ := nts_cells HH.out.now.early
    have HCL := hide hcl
    have HCE : Hid (0 < en → ∃ b off, ea = some ⟨b, off, none⟩ ∧ ∀ j, j < en * 4 → CE[j]? = W.cell? ⟨b, off + j, none⟩) := fun h0 => by
      obtain ⟨b, off, e, _, h2⟩ := hcx h0
      exact ⟨b, off, e, h2⟩
    have HCX : Hid (∀ wz, LB w1.heap.size w1 wz → 0 < en → ∃ b off, ea = some ⟨b, off, none⟩ ∧ ∀ j u, CE[j]? = some u → wz.cell? ⟨b, off + j, none⟩ = some u) := fun wz hb h0 => by
      obtain ⟨b, off, e, h1, _⟩ := hcx h0
      refine ⟨b, off, e, fun j u hj => ?_⟩
      have h2 := h1 j u hj
      have h3 : b < W.heap.size := lt_of_cell h2
      have h4 : b < w1.heap.size := Nat.lt_of_lt_of_le h3 HB1.out.size
      exact (World.cell?_of_block (hb.2.2.2.2 b h4 h4)).trans ((HB1.out.cell (p := ⟨b, off + j, none⟩) h3).trans h2)
    clear hok1 hs1 hcl hcx
    go_upto_region 3 with fail
    refine region_made 6 8 [fEm, fIs (.pointer (some ⟨b8, 4, none⟩)), fIs (.slice ea en ec), fNts w1.heap.size en CE, fIs (.agg #[.int .i64 xf, .int .i64 xt, .int .i64 (t : Int), .slice ya yn yc]), fOneN #[.int .i64 xf, .int .i64 xt, .int .i64 (t : Int), .slice ya yn yc]] (by kernel_rfl) (by kernel_rfl) (by kernel_rfl) (fun _ ⟨_, _⟩ ⟨_, _⟩ _ e h => by cases e; exact h) ⟨fEm_good, fIs_good _, fIs_good _, fNts_good _ _ _, fIs_good _, fOneN_good _, trivial⟩ ?mkD ?restD
    case mkD =>
      refine ⟨fun u wz hb hd => ?_, fun u wz hb hd => ?_, fun u wz hb hd => ?_, fun u wz hb hd => ?_, fun u wz hb hd => ?_, fun u wz hb hd => ?_, trivial⟩
      all_goals simp only [Act.put, List.setIfInBounds_toArray, List.set_cons_zero, List.set_cons_succ]
      · go_simp
        exact ⟨⟨_, rfl⟩, bl_new _, fun h => by cases h⟩
      · go_simp
        exact ⟨rfl, Below.refl _ _, fun h => by cases h⟩
      · have e1 : u 1 = .pointer (some ⟨b8, 4, none⟩) := hd 1 (by omega) (by kernel_rfl)
        rw [e1]
        have b4' := (hb.cell (p := ⟨b8, 4, none⟩) (lt_of_cell b4)).trans b4
        go_simp
        exact ⟨rfl, Below.refl _ _, fun h => by cases h⟩
      · obtain ⟨B0, e0⟩ := hd 0 (by omega) (by kernel_rfl)
        have e2 : u 2 = .slice ea en ec := hd 2 (by omega) (by kernel_rfl)
        rw [e0, e2]
        exact wp_notes_e (.tmp 27) (.tmp 29) rfl w1.heap.size B0 en ec ea CE rfl rfl HCL.out (HCX.out wz (LB.of _ _ hb)) (by omega) hb.size (fun g cap w2 k1 k2 k3 => ⟨_, rfl, ⟨g, cap, rfl, k1, k2⟩, k3, fun h => by cases h⟩)
      · have n0' := (hb.cell (p := ⟨b9, 0, none⟩) (lt_of_cell n0)).trans n0
        have n1' := (hb.cell (p := ⟨b9, 1, none⟩) (lt_of_cell n1)).trans n1
        have n2' := (hb.cell (p := ⟨b9, 2, none⟩) (lt_of_cell n2)).trans n2
        have n3' := (hb.cell (p := ⟨b9, 3, none⟩) (lt_of_cell n3)).trans n3
        have nz' : b9 < wz.heap.size := Nat.lt_of_lt_of_le nz hb.size
        go_simp
        exact ⟨rfl, Below.refl _ _, fun h => by cases h⟩
      · have e4 : u 4 = .agg #[.int .i64 xf, .int .i64 xt, .int .i64 (t : Int), .slice ya yn yc] := hd 4 (by omega) (by kernel_rfl)
        rw [e4]
        go_simp
        exact ⟨⟨_, rfl, World.alloc_heap_new _ _⟩, bl_new _, fun h => by cases h⟩
    case restD =>
      intro u wz hb hf hp
      obtain ⟨B0, f0⟩ := hf 0 (by omega)
      have f1 : u 1 = .pointer (some ⟨b8, 4, none⟩) := hf 1 (by omega)
      have f2 : u 2 = .slice ea en ec := hf 2 (by omega)
      obtain ⟨g3, c3, f3, k3, z3⟩ := hf 3 (by omega)
      have f4 : u 4 = .agg #[.int .i64 xf, .int .i64 xt, .int .i64 (t : Int), .slice ya yn yc] := hf 4 (by omega)
      obtain ⟨g5, f5, k5⟩ := hf 5 (by omega)
      refine UptoW.rest 3 6 (by rfl) (by kernel_rfl) ?_
      simp only [List.take, List.drop, putOps, Act.put, List.setIfInBounds_toArray, List.set_cons_zero, List.set_cons_succ, Nat.reduceAdd, f0, f1, f2, f3, f4, f5]
      clear f0 f1 f2 f3 f4 f5 hf hp
      go_wp2_with (at_builtin; refine stp ?_)
      unfold Stp1
      refine append_notes_1 (by rfl) (.tmp 30) (.tmp 32) (by rfl) w1.heap.size g3 c3 en g5 CE #[.int .i64 xf, .int .i64 xt, .int .i64 (t : Int), .slice ya yn yc] (by rfl) (by rfl) k3 (fun e => ⟨z3 e, List.length_eq_zero_iff.1 (by rw [HCL.out, e])⟩) k5 rfl (by intro u hu; simp at hu; rcases hu with rfl | rfl | rfl | rfl <;> rfl) (by omega) hb.size ?_
      intro g6 c6 w6 h6 hlb6
      have hb := LB.trans _ _ _ (LB.of _ _ hb) hlb6
      obtain ⟨wz, rfl⟩ : ∃ w, w = w6 := ⟨_, rfl⟩
      clear hlb6 k3 k5
      have hk8 := (hb.2.2.2.2 b8 bz bz).trans H8.out
      have hk11 := (hb.2.2.2.2 b11 rz rz).trans H11.out
      have b4w : wz.cell? ⟨b8, 4, none⟩ = some (.slice ea en ec) := by simp only [World.cell?, hk8]; rfl
      have bfw : wz.frozen? ⟨b8, 4, none⟩ = false := by simp [World.frozen?, hk8]
      have bzw := (Array.getElem?_eq_some_iff.1 hk8).1
      have HK8 := hide hk8
      have HK11 := hide hk11
      have HLB := hide hb
      have H6 := hide h6
      clear hb h6 hk8 hk11 b0 b1 b2 b3 b4 n0 n1 n2 n3 r0 r1 r2 r3 r4 rf
      go_upto_region 4 with fail
      obtain ⟨U, hU⟩ : ∃ U, U = wz.setCell ⟨b8, 4, none⟩ (.slice (some ⟨g6, 0, none⟩) (en + 1) c6) := ⟨_, rfl⟩
      rw [← hU]
      have HST : Hid (TkI S W (W.heap.size + 3) b8 b11 d n me s1 ⟨⟨oa, on, oc⟩, ⟨pa, n, pc⟩, ⟨some ⟨g6, 0, none⟩, en + 1, c6⟩⟩ s1 U) := by
        show TkI S W (W.heap.size + 3) b8 b11 d n me s1 ⟨⟨oa, on, oc⟩, ⟨pa, n, pc⟩, ⟨some ⟨g6, 0, none⟩, en + 1, c6⟩⟩ s1 U
        have hbe := HBE.out
        have hs1w := HS1.out
        have hUsz : U.heap.size = wz.heap.size := by rw [hU]; simp [World.setCell]
        have hWz : Below W.heap.size W wz := HB1.out.trans (HLB.out.below.mono HB1.out.size)
        have hoth : ∀ b, b ≠ b8 → U.heap[b]? = wz.heap[b]? := fun b hb => by rw [hU, Below.heap_setCell _ _ _ _ hb]
        have hagU : Agr S W U := fun b hb => by
          have h1 := HS.out b hb
          rw [hoth b (by omega)]
          exact hWz.block b h1
        have hg6 : w1.heap.size ≤ g6 := H6.out.low
        have hg6l : g6 < wz.heap.size := by
          obtain ⟨cur, k1, _⟩ := H6.out.blk
          exact (Array.getElem?_eq_some_iff.1 k1).1
        have hrU : NtR U w1.heap.size g6 c6 (en + 1) (CE ++ [.int .i64 xf, .int .i64 xt, .int .i64 (t : Int), .slice ya yn yc]) := by
          obtain ⟨cur, k1, k2⟩ := H6.out.blk
          exact ⟨⟨cur, (hoth g6 (by omega)).trans k1, k2⟩, H6.out.low, H6.out.cap, H6.out.len⟩
        refine ⟨?_, (hoth b11 (by omega)).trans HK11.out, ?_, ?_, HOK1.out, rfl, ?_⟩
        · rw [hU, HS1E.out]
          simp [World.setCell, Array.getElem?_modify, HK8.out]
        · have hst := nts_more (S' := NwS S (W.heap.size + 3) U.heap.size) (x := ⟨xf, xt, (t : Int), xd⟩) (y := ⟨ya, yn, yc⟩) t rfl (fun V hV => (HH.out V hV).early) HTOP.out.2 HCE.out HCL.out HY.out hyc hagU hrU hel2 (fun b h => .inl h) (.inr ⟨by omega, by rw [hUsz]; exact hg6l⟩)
          intro V hV
          have hold := HH.out V (fun b hb => (hV b (.inl hb)).trans (hagU b hb))
          have he := hst V hV
          rw [HS1E.out]
          exact ⟨hold.own, hold.parts, he⟩
        · exact ⟨fun b off e => .inl (HTOP.out.1 b off e), fun b off e => by cases e; exact .inr ⟨by omega, by rw [hUsz]; exact hg6l⟩⟩
        · rw [hU]
          exact hWz.setCell (by simp only; omega) _
      clear hU b4w bfw bzw bz nz rz
      go_wp2_with fail
      go_loopw [12] (fun v12 wr => TkO S W (W.heap.size + 3) b8 b11 d n me s1 v12 wr) (fun v12 wr => 2 * (100 - tkO wr b8) + bN v12)
      case atStart => exact ⟨_, s1, true, by first | rfl | trivial, (fun h => by cases h), HST.out⟩
      case round =>
        obtain ⟨⟨⟨o2a, o2n, o2c⟩, ⟨p2a, p2n, p2c⟩, ⟨e2a, e2n, e2c⟩⟩, s2, ag, rfl, hno, hI⟩ := hrel
        have hp2 : p2n = n := by have h1 := hI.st.now.parts.1; have h2 := hI.ok.lp; simp only at h1; omega
        subst hp2
        obtain ⟨n, hnn⟩ : ∃ n, n = p2n := ⟨_, rfl⟩
        subst hnn
        have hbox := hI.box
        simp only at hbox
        obtain ⟨TK, hTK⟩ : ∃ t, t = s2.taken := ⟨_, rfl⟩
        rw [← hTK] at hbox
        have HI := hide hI
        have HOK2 := hide hI.ok
        have HNO := hide hno
        have HBX := hide hbox
        have b0 : wr.cell? ⟨b8, 0, none⟩ = some (.slice o2a o2n o2c) := by simp only [World.cell?, hbox]; rfl
        have b1 : wr.cell? ⟨b8, 1, none⟩ = some (.slice p2a n p2c) := by simp only [World.cell?, hbox]; rfl
        have b2 : wr.cell? ⟨b8, 2, none⟩ = some (.int .i64 (s2.sent : Int)) := by simp only [World.cell?, hbox]; rfl
        have b3 : wr.cell? ⟨b8, 3, none⟩ = some (.int .i64 (TK : Int)) := by simp only [World.cell?, hbox]; rfl
        have b4 : wr.cell? ⟨b8, 4, none⟩ = some (.slice e2a e2n e2c) := by simp only [World.cell?, hbox]; rfl
        have bz := (Array.getElem?_eq_some_iff.1 hbox).1
        have hen2 : s2.early.length = e2n := hI.st.now.early.1
        have HEN2 := hide hen2
        have he9 := hI.st.now.early.2.1
        simp only at he9
        have HTKO : Hid (tkO wr b8 = TK) := by show tkO wr b8 = TK; unfold tkO; rw [b3]; simp [intOf]
        clear hI hno hbox hen2
        cases ag with
        | false =>
          have hrb := HI.out.res
          have HRB := hide hrb
          have r0 : wr.cell? ⟨b11, 0, none⟩ = some (.slice none 0 0) := by simp only [World.cell?, hrb]; rfl
          have r1 : wr.cell? ⟨b11, 1, none⟩ = some (.slice none 0 0) := by simp only [World.cell?, hrb]; rfl
          have r2 : wr.cell? ⟨b11, 2, none⟩ = some (.int .i64 0) := by simp only [World.cell?, hrb]; rfl
          have r3 : wr.cell? ⟨b11, 3, none⟩ = some (.int .i64 0) := by simp only [World.cell?, hrb]; rfl
          have r4 : wr.cell? ⟨b11, 4, none⟩ = some (.slice none 0 0) := by simp only [World.cell?, hrb]; rfl
          have rz := (Array.getElem?_eq_some_iff.1 hrb).1
          have rf : ∀ k, wr.frozen? ⟨b11, k, none⟩ = false := fun k => by simp [World.frozen?, hrb]
          obtain ⟨Z, hZ⟩ : ∃ Z, Z = rst5 wr b11 (.slice o2a o2n o2c) (.slice p2a n p2c) (.int .i64 (s2.sent : Int)) (.int .i64 (TK : Int)) (.slice e2a e2n e2c) := ⟨_, rfl⟩
          have HZ := hide hZ
          have HTK2 := hide hTK
          clear hZ hTK hrb
          go_wp2_with fail
          go_region
          go_wp2_with fail
          have hz := HZ.out
          unfold rst5 at hz
          rw [← hz]
          clear hz
          have hZ11 : Z.heap[b11]? = some (.cells #[.slice o2a o2n o2c, .slice p2a n p2c, .int .i64 (s2.sent : Int), .int .i64 (TK : Int), .slice e2a e2n e2c] 60 (0, 0)) := by rw [HZ.out]; exact rst5_heap HRB.out rfl
          have hfin := take_end (N := W.heap.size + 3) (b11 := b11) (U := wr) HS.out (by have := HBE.out; omega) ⟨_, _, HRB.out⟩ HI.out.st HI.out.top HI.out.bel (.slice o2a o2n o2c) (.slice p2a n p2c) (.int .i64 (s2.sent : Int)) (.int .i64 (TK : Int)) (.slice e2a e2n e2c)
          rw [← HZ.out] at hfin
          refine bodyPost_ret (results_c2 Try.results24 _ Z.drew b11 _ (.slice o2a o2n o2c) (.slice p2a n p2c) (.int .i64 (s2.sent : Int)) (.int .i64 (TK : Int)) (.slice e2a e2n e2c) (0, 0) rfl rfl hZ11) rfl ?_
          have hdr : drainA d n me s1 = s2 := by rw [← HI.out.dr]; exact drainA_none _ _ _ _ (HNO.out (by first | rfl | trivial))
          refine ⟨⟨⟨o2a, o2n, o2c⟩, ⟨p2a, n, p2c⟩, ⟨e2a, e2n, e2c⟩⟩, ?_, hfin.1, ?_, hfin.2.2⟩
          · rw [HTA.out, HTE.out, hdr]
            show _ = Ending.returned (.tuple #[.int .i64 0, .agg #[.slice o2a o2n o2c, .slice p2a n p2c, .int .i64 s2.sent, .int .i64 s2.taken, .slice e2a e2n e2c]])
            rw [← HTK2.out]
            rfl
          · rw [HTA.out, hdr]; exact hfin.2.1
        | true =>
          clear b0 b1 b2
          go_wp2_with fail
          go_loopw [12, 39] (fun v12 i w2 => ∃ k : Nat, k ≤ e2n ∧ i = .int .i64 k ∧ v12 = .bool false ∧ (∀ j z, j < k → s2.early[j]? = some z → z.1 ≠ TK) ∧ TkI S W (W.heap.size + 3) b8 b11 d n me s1 ⟨⟨o2a, o2n, o2c⟩, ⟨p2a, n, p2c⟩, ⟨e2a, e2n, e2c⟩⟩ s2 w2) (fun _ i _ => e2n - (intOf i).toNat)
          case atStart => exact ⟨0, Nat.zero_le _, by first | rfl | trivial, by first | rfl | trivial, fun j z hj => by omega, HI.out⟩
          case round =>
            obtain ⟨w2, rfl⟩ : ∃ w, w = wr := ⟨_, rfl⟩
            obtain ⟨k, hk, rfl, rfl, hne, hI2⟩ := hrel
            have hbox2 := hI2.box
            simp only at hbox2
            rw [← hTK] at hbox2
            have H82 := hide hbox2
            have b32 : w2.cell? ⟨b8, 3, none⟩ = some (.int .i64 (TK : Int)) := by simp only [World.cell?, hbox2]; rfl
            have bz2 := (Array.getElem?_eq_some_iff.1 hbox2).1
            have HN2 : Hid (W.heap.size + 3 ≤ w2.heap.size) := by
              show W.heap.size + 3 ≤ w2.heap.size
              have h1 := (Array.getElem?_eq_some_iff.1 hI2.res).1
              have := HBE.out
              omega
            have HI2 := hide hI2
            by_cases hlt : k < e2n
            · have hkz : (k : Int) < (e2n : Int) := by omega
              obtain ⟨⟨zt, zd⟩, hz⟩ : ∃ z, s2.early[k]? = some z := ⟨s2.early[k]'(by rw [HEN2.out]; exact hlt), by simp [show k < s2.early.length by rw [HEN2.out]; exact hlt]⟩
              obtain ⟨eb, eo, fr, tt, X, m, c, heq, c0, c1, c2, c3, hmc, hez, hXS⟩ := early_at hI2 hz
              simp only at heq c2
              subst heq
              have HXS := hide hXS
              have HXC := hide hmc
              clear hI2 hbox2 hXS
              by_cases htz : zt = TK
              · subst htz
                obtain ⟨TK, hTE⟩ : ∃ T, T = zt := ⟨_, rfl⟩
                subst hTE
                have HTK : Hid (TK = s2.taken) := hTK
                have hlk : lookL s2.taken s2.early = some zd := look_at _ _ k (TK, zd) hz hTK (fun j z hj hzj => by rw [← hTK]; exact hne j z hj hzj)
                have HLK := hide hlk
                have htl : TK < notN d n := by rw [hTK]; exact HOK2.out.early _ _ hlk
                have hnb : notN d n ≤ 30 := notN_le hn16
                have HFIT : Hid (d ≠ 3 → zd.length = (prt s2.parts (takeN d n me TK)).length) := fun h3 => by rw [hTK]; exact HOK2.out.fit h3 _ _ (Nat.le_refl _) hlk
                have htc := fun w => rTakes_any d n me TK w hn1 hn16 hme (by omega)
                obtain ⟨T, hT⟩ : ∃ T, T = takeN d n me TK := ⟨_, rfl⟩
                rw [← hT] at htc HFIT
                have HTC := hide htc
                have HTT := hide hT
                have HTL : Hid (T < n) := by show T < n; rw [hT]; exact takeN_lt hn1
                have hTz : (T : Int) < (n : Int) := by have := HTL.out; omega
                have HMEA : Hid (TK < 100) := by show TK < 100; omega
                have hqe : ((TK : Int) == (TK : Int)) = true := by simp
                clear htc hT hlk htl hnb hTK hne hz
                go_upto_region 12 with (go_at_call 41; refine (HTC.out _).mono ?_; rintro e w9 ⟨rfl, rfl⟩)
                obtain ⟨w3, hw3⟩ : ∃ w, w = w2.alloc (.cells #[.int .i64 fr, .int .i64 tt, .int .i64 (TK : Int), .slice X m c] 39) := ⟨_, rfl⟩
                rw [← hw3]
                obtain ⟨C, hC⟩ : ∃ C, C = w2.heap.size := ⟨_, rfl⟩
                rw [← hC]
                have hb23 : Below w2.heap.size w2 w3 := by rw [hw3]; exact bl_new _
                have hC3 : w3.heap[C]? = some (.cells #[.int .i64 fr, .int .i64 tt, .int .i64 (TK : Int), .slice X m c] 39 (0, 0)) := by rw [hw3, hC]; exact World.alloc_heap_new _ _
                have hx83 := (hb23.block b8 bz2).trans H82.out
                have b13 : w3.cell? ⟨b8, 1, none⟩ = some (.slice p2a n p2c) := by simp only [World.cell?, hx83]; rfl
                have bz3 := Nat.lt_of_lt_of_le bz2 hb23.size
                have HB23 := hide hb23
                have HC3 := hide hC3
                have HX83 := hide hx83
                clear hw3 hC hb23 hC3 hx83
                go_upto_region 13 with (at_builtin; refine stp ?_)
                unfold Stp1
                refine append_rows_e (by rfl) (.tmp 54) (.tmp 56) (by rfl) w3.heap.size (by rfl) p2a n p2c (by rfl) s2.parts ((HI2.out.st.now.parts.below HB23.out).below (bl_new _)) (by omega) ?_
                intro g4 cap4 w4 hcap4 hb4 hrow4
                obtain ⟨hg4, cur4, pb, po, hpa, hblk4, hcs4, hcur4⟩ := hrow4 (by omega)
                have hb24 : Below w2.heap.size w2 w4 := bl_on HB23.out (bl_on (bl_new _) hb4)
                have hb34 : Below w3.heap.size w3 w4 := bl_on (bl_new _) hb4
                have HW24 := hide hb24
                have HCAP := hide hcap4
                have HB4 := hide hblk4
                have HCS := hide hcs4
                have HPA := hide hpa
                have HG4 : Hid (w2.heap.size ≤ g4) := by show w2.heap.size ≤ g4; have := HB23.out.size; simp at hg4; omega
                have HPAT : Hid (∀ i, i < n → ∃ X m c, w2.cell? ⟨pb, po + i, none⟩ = some (.slice X m c) ∧ Ints w2 X m (prt s2.parts i) ∧ m ≤ c) := fun i hi => by
                  obtain ⟨b', off', e', hat⟩ := HI2.out.st.now.parts.at (show 0 < n by omega)
                  have e2 : p2a = some ⟨b', off', none⟩ := e'
                  rw [hpa] at e2
                  cases e2
                  exact hat i hi
                have HCUR : Hid (∀ j, j < n → cur4[j]? = w2.cell? ⟨pb, po + j, none⟩) := fun j hj => by
                  obtain ⟨X1, m1, c1, q1, _⟩ := HPAT.out j hj
                  rw [hcur4 j hj, q1]
                  exact ((bl_new _).cell (p := ⟨pb, po + j, none⟩) (Nat.lt_of_lt_of_le (lt_of_cell q1) HB23.out.size)).trans ((HB23.out.cell (p := ⟨pb, po + j, none⟩) (lt_of_cell q1)).trans q1)
                have hCz3 := (Array.getElem?_eq_some_iff.1 HC3.out).1
                have hC4 := (hb34.block C hCz3).trans HC3.out
                have z24 : w4.cell? ⟨C, 2, none⟩ = some (.int .i64 (TK : Int)) := by simp only [World.cell?, hC4]; rfl
                have z34 : w4.cell? ⟨C, 3, none⟩ = some (.slice X m c) := by simp only [World.cell?, hC4]; rfl
                have hCz4 := Nat.lt_of_lt_of_le hCz3 hb34.size
                have HX84 : Hid (w4.heap[b8]? = _) := (hb34.block b8 bz3).trans HX83.out
                have hb8z4 := Nat.lt_of_lt_of_le bz3 hb34.size
                have HXW := hide HXS.out.now
                clear hb4 hrow4 hg4 hpa hblk4 hcs4 hcur4 hb24 hb34 hcap4 hC4 b13 bz3 hCz3
                by_cases c2 : d = 2
                · have q2 : ((d : Int) == 2) = true := by simp; omega
                  have HD3 : d ≠ 3 := by omega
                  have HSB : Hid (sumsB d n TK = true) := by show sumsB d n TK = _; unfold sumsB; simp; omega
                  clear c2
                  obtain ⟨PX, pm, c9, d1, d2, d3⟩ := HPAT.out T HTL.out
                  have hpm : pm = m := by
                    have h1 : (prt s2.parts T).length = pm := d2.1
                    have h2 := HFIT.out (by omega)
                    have h3 := HXW.out.1
                    omega
                  subst hpm
                  obtain ⟨m, hmm⟩ : ∃ m, m = pm := ⟨_, rfl⟩
                  subst hmm
                  have HPX := hide d2
                  have HM6 : Hid (m ≤ 65536) := by
                    show m ≤ 65536
                    have h1 := (HOK2.out.small T).1
                    rw [d2.1] at h1
                    exact h1
                  have cT : w4.cell? ⟨g4, T, none⟩ = some (.slice PX m c9) := by
                    simp only [World.cell?, HB4.out]
                    rw [HCUR.out T HTL.out]
                    exact d1
                  have hg4z : g4 < w4.heap.size := (Array.getElem?_eq_some_iff.1 HB4.out).1
                  clear d1 d2
                  go_wp2_with fail
                  go_loopw [17, 74] (fun v17 i w5 => ∃ j : Nat, j ≤ m ∧ i = .int .i64 j ∧ Ow w5 w4.heap.size v17 ((addW (prt s2.parts T) zd).take j) ∧ Below w4.heap.size w4 w5) (fun _ i _ => m - (intOf i).toNat)
                  case atStart => exact ⟨0, Nat.zero_le _, by first | rfl | trivial, by rw [List.take_zero]; exact Ow.start _ _, Below.refl _ _⟩
                  case round =>
                    obtain ⟨w5, rfl⟩ : ∃ w, w = wr := ⟨_, rfl⟩
                    obtain ⟨v17, rfl⟩ : ∃ v, v = u17 := ⟨_, rfl⟩
                    obtain ⟨j, hj, rfl, ho, hb5⟩ := hrel
                    have HO := hide ho
                    have HB5 := hide hb5
                    have z3 := (hb5.cell (p := ⟨C, 3, none⟩) hCz4).trans z34
                    have zz5 := Nat.lt_of_lt_of_le hCz4 hb5.size
                    by_cases hltj : j < m
                    · have hjz : (j : Int) < (m : Int) := by omega
                      have hm6 : m ≤ 65536 := HM6.out
                      obtain ⟨pxb, pxo, rfl, _, hpa⟩ := (HPX.out.below (HW24.out.trans (hb5.mono HW24.out.size))).at (by omega)
                      have ca := hpa j hltj
                      obtain ⟨xb, xo, rfl, _, hxa⟩ := (HXW.out.below (HW24.out.trans (hb5.mono HW24.out.size))).at (by omega)
                      have cb := hxa j hltj
                      have cT := (hb5.cell (p := ⟨g4, T, none⟩) hg4z).trans cT
                      obtain ⟨aj, haj⟩ : ∃ a, a = (prt s2.parts T)[j]?.getD 0 := ⟨_, rfl⟩
                      obtain ⟨bj, hbj⟩ : ∃ b, b = zd[j]?.getD 0 := ⟨_, rfl⟩
                      rw [← haj] at ca
                      rw [← hbj] at cb
                      have hstep : (addW (prt s2.parts T) zd).take (j + 1) = (addW (prt s2.parts T) zd).take j ++ [wrap64 (aj + bj)] := by
                        have hzl : zd.length = m := HXW.out.1
                        have hl : j < (addW (prt s2.parts T) zd).length := by rw [addW_len, hzl]; exact hltj
                        rw [List.take_add_one, List.getElem?_eq_getElem hl]
                        have he : (addW (prt s2.parts T) zd)[j] = wrap64 (aj + bj) := by rw [haj, hbj]; simp [addW]
                        rw [he]
                        rfl
                      have HSTEP := hide hstep
                      have HLT : Hid (((addW (prt s2.parts T) zd).take j).length + 1 ≤ 1000000) := by
                        show ((addW (prt s2.parts T) zd).take j).length + 1 ≤ 1000000
                        rw [List.length_take]
                        have := HM6.out
                        omega
                      have jpa : pxb < w5.heap.size := lt_of_cell ca
                      have jpb : xb < w5.heap.size := lt_of_cell cb
                      have jpg : g4 < w5.heap.size := lt_of_cell cT
                      clear hpa hxa haj hbj hstep ho hb5
                      go_upto_region 18 with fail
                      refine region_made 15 17 [fIs (v17), fIs (.slice (some ⟨g4, 0, none⟩) n cap4), fIs (.int .i64 (T : Int)), fIs (.pointer (some ⟨g4, T, none⟩)), fIs (.slice (some ⟨pxb, pxo, none⟩) m c9), fIs (.int .i64 (j : Int)), fIs (.pointer (some ⟨pxb, pxo + j, none⟩)), fIs (.int .i64 aj), fIs (.pointer (some ⟨C, 3, none⟩)), fIs (.slice (some ⟨xb, xo, none⟩) m c), fIs (.int .i64 (j : Int)), fIs (.pointer (some ⟨xb, xo + j, none⟩)), fIs (.int .i64 bj), fIs (.int .i64 (IntKind.i64.wrap (aj + bj))), fOneI (IntKind.i64.wrap (aj + bj))] (by kernel_rfl) (by kernel_rfl) (by kernel_rfl) (fun ch p q w3 e h => by obtain ⟨t1, d1⟩ := p; obtain ⟨t2, d2⟩ := q; cases e; exact h) ⟨fIs_good _, fIs_good _, fIs_good _, fIs_good _, fIs_good _, fIs_good _, fIs_good _, fIs_good _, fIs_good _, fIs_good _, fIs_good _, fIs_good _, fIs_good _, fIs_good _, fOneI_good _, trivial⟩ ?mkS ?restS
                      case mkS =>
                        refine ⟨fun u wz hb hd => ?_, fun u wz hb hd => ?_, fun u wz hb hd => ?_, fun u wz hb hd => ?_, fun u wz hb hd => ?_, fun u wz hb hd => ?_, fun u wz hb hd => ?_, fun u wz hb hd => ?_, fun u wz hb hd => ?_, fun u wz hb hd => ?_, fun u wz hb hd => ?_, fun u wz hb hd => ?_, fun u wz hb hd => ?_, fun u wz hb hd => ?_, fun u wz hb hd => ?_, trivial⟩
                        all_goals simp only [Act.put, List.setIfInBounds_toArray, List.set_cons_zero, List.set_cons_succ]
                        · go_simp
                          exact ⟨rfl, Below.refl _ _, fun h => by cases h⟩
                        · go_simp
                          exact ⟨rfl, Below.refl _ _, fun h => by cases h⟩
                        · go_simp
                          exact ⟨rfl, Below.refl _ _, fun h => by cases h⟩
                        · have e1 : u 1 = .slice (some ⟨g4, 0, none⟩) n cap4 := hd 1 (by omega) (by kernel_rfl)
                          have e2 : u 2 = .int .i64 (T : Int) := hd 2 (by omega) (by kernel_rfl)
                          rw [e1, e2]
                          go_simp
                          exact ⟨rfl, Below.refl _ _, fun h => by cases h⟩
                        · have e3 : u 3 = .pointer (some ⟨g4, T, none⟩) := hd 3 (by omega) (by kernel_rfl)
                          rw [e3]
                          have cT' := (hb.cell (p := ⟨g4, T, none⟩) (lt_of_cell cT)).trans cT
                          go_simp
                          exact ⟨rfl, Below.refl _ _, fun h => by cases h⟩
                        · go_simp
                          exact ⟨rfl, Below.refl _ _, fun h => by cases h⟩
                        · have e4 : u 4 = .slice (some ⟨pxb, pxo, none⟩) m c9 := hd 4 (by omega) (by kernel_rfl)
                          have e5 : u 5 = .int .i64 (j : Int) := hd 5 (by omega) (by kernel_rfl)
                          rw [e4, e5]
                          go_simp
                          exact ⟨rfl, Below.refl _ _, fun h => by cases h⟩
                        · have e6 : u 6 = .pointer (some ⟨pxb, pxo + j, none⟩) := hd 6 (by omega) (by kernel_rfl)
                          rw [e6]
                          have ca' := (hb.cell (p := ⟨pxb, pxo + j, none⟩) (lt_of_cell ca)).trans ca
                          go_simp
                          exact ⟨rfl, Below.refl _ _, fun h => by cases h⟩
                        · go_simp
                          exact ⟨rfl, Below.refl _ _, fun h => by cases h⟩
                        · have e8 : u 8 = .pointer (some ⟨C, 3, none⟩) := hd 8 (by omega) (by kernel_rfl)
                          rw [e8]
                          have z3' := (hb.cell (p := ⟨C, 3, none⟩) (lt_of_cell z3)).trans z3
                          go_simp
                          exact ⟨rfl, Below.refl _ _, fun h => by cases h⟩
                        · go_simp
                          exact ⟨rfl, Below.refl _ _, fun h => by cases h⟩
                        · have e9 : u 9 = .slice (some ⟨xb, xo, none⟩) m c := hd 9 (by omega) (by kernel_rfl)
                          have e10 : u 10 = .int .i64 (j : Int) := hd 10 (by omega) (by kernel_rfl)
                          rw [e9, e10]
                          go_simp
                          exact ⟨rfl, Below.refl _ _, fun h => by cases h⟩
                        · have e11 : u 11 = .pointer (some ⟨xb, xo + j, none⟩) := hd 11 (by omega) (by kernel_rfl)
                          rw [e11]
                          have cb' := (hb.cell (p := ⟨xb, xo + j, none⟩) (lt_of_cell cb)).trans cb
                          go_simp
                          exact ⟨rfl, Below.refl _ _, fun h => by cases h⟩
                        · have e7 : u 7 = .int .i64 aj := hd 7 (by omega) (by kernel_rfl)
                          have e12 : u 12 = .int .i64 bj := hd 12 (by omega) (by kernel_rfl)
                          rw [e7, e12]
                          go_simp
                          exact ⟨rfl, Below.refl _ _, fun h => by cases h⟩
                        · have e13 : u 13 = .int .i64 (IntKind.i64.wrap (aj + bj)) := hd 13 (by omega) (by kernel_rfl)
                          rw [e13]
                          go_simp
                          exact ⟨⟨_, rfl, cell_new1 _ _ _⟩, bl_new _, fun h => by cases h⟩
                      case restS =>
                        intro u wz hb hf hp
                        have f0 : u 0 = v17 := hf 0 (by omega)
                        have f1 : u 1 = .slice (some ⟨g4, 0, none⟩) n cap4 := hf 1 (by omega)
                        have f2 : u 2 = .int .i64 (T : Int) := hf 2 (by omega)
                        have f3 : u 3 = .pointer (some ⟨g4, T, none⟩) := hf 3 (by omega)
                        have f4 : u 4 = .slice (some ⟨pxb, pxo, none⟩) m c9 := hf 4 (by omega)
                        have f5 : u 5 = .int .i64 (j : Int) := hf 5 (by omega)
                        have f6 : u 6 = .pointer (some ⟨pxb, pxo + j, none⟩) := hf 6 (by omega)
                        have f7 : u 7 = .int .i64 aj := hf 7 (by omega)
                        have f8 : u 8 = .pointer (some ⟨C, 3, none⟩) := hf 8 (by omega)
                        have f9 : u 9 = .slice (some ⟨xb, xo, none⟩) m c := hf 9 (by omega)
                        have f10 : u 10 = .int .i64 (j : Int) := hf 10 (by omega)
                        have f11 : u 11 = .pointer (some ⟨xb, xo + j, none⟩) := hf 11 (by omega)
                        have f12 : u 12 = .int .i64 bj := hf 12 (by omega)
                        have f13 : u 13 = .int .i64 (IntKind.i64.wrap (aj + bj)) := hf 13 (by omega)
                        obtain ⟨g14, f14, k14⟩ := hf 14 (by omega)
                        refine UptoW.rest 2 15 (by rfl) (by kernel_rfl) ?_
                        simp only [List.take, List.drop, putOps, Act.put, List.setIfInBounds_toArray, List.set_cons_zero, List.set_cons_succ, Nat.reduceAdd, f0, f1, f2, f3, f4, f5, f6, f7, f8, f9, f10, f11, f12, f13, f14]
                        clear f0 f1 f2 f3 f4 f5 f6 f7 f8 f9 f10 f11 f12 f13 f14 hf hp
                        have HBZ := hide hb
                        have HON := hide k14
                        clear hb k14
                        go_wp2_with (at_builtin; refine stp ?_)
                        unfold Stp1
                        refine append_ow (by rfl) (.tmp 77) (.tmp 91) (by rfl) w4.heap.size v17 _ (by rfl) (HO.out.below HBZ.out) _ _ _ [wrap64 (aj + bj)] (by rfl) (one_ints HON.out) HLT.out (Nat.le_trans HB5.out.size HBZ.out.size) ?_
                        intro v9 w9 ho9 hb9
                        have HO9 := hide ho9
                        have HB9 := hide ((HB5.out.trans (HBZ.out.mono HB5.out.size)).trans hb9)
                        clear ho9 hb9
                        go_wp2_with fail
                        go_roundw
                        case rel =>
                          refine ⟨j + 1, by omega, by first | rfl | go_num, ?_, HB9.out⟩
                          rw [HSTEP.out]
                          exact HO9.out
                        case measure => simp [intOf]; omega
                    · obtain rfl : m = j := by omega
                      have hzl : zd.length = m := HXW.out.1
                      rw [List.take_of_length_le (by rw [addW_len]; omega)] at ho
                      have hal : (addW (prt s2.parts T) zd).length = m := by rw [addW_len, hzl]
                      obtain ⟨⟨sa, sn, sc⟩, rfl, hnum, hon⟩ := num_of_own ho (by have := HM6.out; omega) (fun x hx => by
                        unfold addW at hx
                        obtain ⟨i, _, rfl⟩ := List.mem_map.1 hx
                        exact wrap_in2 _)
                      have HNUM := hide hnum
                      have HON2 := hide hon
                      have hgb5 := (hb5.block g4 hg4z).trans HB4.out
                      have HG5 := hide hgb5
                      have cT5 := (hb5.cell (p := ⟨g4, T, none⟩) hg4z).trans cT
                      have gz5 := Nat.lt_of_lt_of_le hg4z hb5.size
                      have gf5 : w5.frozen? ⟨g4, T, none⟩ = false := by simp [World.frozen?, hgb5]
                      have hx8 := (hb5.block b8 hb8z4).trans HX84.out
                      have HX85 := hide hx8
                      clear ho hnum hon hgb5 cT
                      have k0 : w5.cell? ⟨b8, 1, none⟩ = some (.slice p2a n p2c) := by simp only [World.cell?, HX85.out]; rfl
                      have k1 : w5.cell? ⟨b8, 3, none⟩ = some (.int .i64 (TK : Int)) := by simp only [World.cell?, HX85.out]; rfl
                      have kf : ∀ k, w5.frozen? ⟨b8, k, none⟩ = false := fun k => by simp [World.frozen?, HX85.out]
                      have kz := (Array.getElem?_eq_some_iff.1 HX85.out).1
                      have y1 : ¬ g4 = b8 := by have := HG4.out; have := HN2.out; have := HBE.out; omega
                      have y2 : ¬ b8 = g4 := by have := HG4.out; have := HN2.out; have := HBE.out; omega
                      have hfin := TkI.used (w5 := w5) HI2.out HS.out (by have := HBE.out; omega) HN2.out zd HLK.out (HW24.out.trans (HB5.out.mono HW24.out.size)) g4 cap4 pb po p2c HG4.out cur4 (HG5.out) HCS.out HCAP.out (by rw [HPA.out]) HCUR.out ⟨sa, sn, sc⟩ (HNUM.out.cap) (fun V hV => by
                        rw [← HTK.out, ← HTT.out, if_pos HSB.out]
                        exact (HNUM.out.keep fun b hO => hV b (.inr ⟨by have := HON2.out b hO; have := HW24.out.size; have := HN2.out; omega, HNUM.out.lt hO⟩) (fun e => by
                          obtain ⟨cur', hc'⟩ := HNUM.out.blk b hO
                          rw [e, HG5.out] at hc'
                          simp at hc')).ints)
                      rw [← HTK.out, ← HTT.out] at hfin
                      simp only at hfin
                      have hq9 : wrap64 ((TK : Int) + 1) = (TK : Int) + 1 := wrap_small (by have := HMEA.out; omega) (by have := HMEA.out; omega)
                      have HFIN0 := hide hfin
                      rw [← hq9] at hfin
                      have HFIN := hide hfin
                      clear hfin hq9
                      go_wp2_with fail
                      go_roundw
                      case rel => first | exact ⟨⟨⟨o2a, o2n, o2c⟩, ⟨some ⟨g4, 0, none⟩, n, cap4⟩, ⟨some ⟨eb, eo, none⟩, e2n, e2c⟩⟩, useM d n me s2 zd, true, rfl, (fun h => by cases h), HFIN.out⟩ | exact ⟨⟨⟨o2a, o2n, o2c⟩, ⟨some ⟨g4, 0, none⟩, n, cap4⟩, ⟨some ⟨eb, eo, none⟩, e2n, e2c⟩⟩, useM d n me s2 zd, true, rfl, (fun h => by cases h), HFIN0.out⟩
                      case measure =>
                        have hm9 := HMEA.out
                        have h9 := tkO_of HFIN.out
                        have h90 := tkO_of HFIN0.out
                        have h8 : (useM d n me s2 zd).taken = TK + 1 := by rw [HTK.out]; rfl
                        first | rw [HTKO.out, h9, h8] | rw [HTKO.out, h90, h8]
                        simp only [bN]
                        omega
                have q2 : ¬ ((d : Int) = 2) := by omega
                by_cases c1 : d = 1
                · have q1 : ((d : Int) == 1) = true := by simp; omega
                  by_cases c3 : TK < n - 1
                  · have q3 : (TK : Int) < (n : Int) - 1 := by omega
                    have HD3 : d ≠ 3 := by omega
                    have HSB : Hid (sumsB d n TK = true) := by show sumsB d n TK = _; unfold sumsB; simp; omega
                    clear c1 c2 c3
                    obtain ⟨PX, pm, c9, d1, d2, d3⟩ := HPAT.out T HTL.out
                    have hpm : pm = m := by
                      have h1 : (prt s2.parts T).length = pm := d2.1
                      have h2 := HFIT.out (by omega)
                      have h3 := HXW.out.1
                      omega
                    subst hpm
                    obtain ⟨m, hmm⟩ : ∃ m, m = pm := ⟨_, rfl⟩
                    subst hmm
                    have HPX := hide d2
                    have HM6 : Hid (m ≤ 65536) := by
                      show m ≤ 65536
                      have h1 := (HOK2.out.small T).1
                      rw [d2.1] at h1
                      exact h1
                    have cT : w4.cell? ⟨g4, T, none⟩ = some (.slice PX m c9) := by
                      simp only [World.cell?, HB4.out]
                      rw [HCUR.out T HTL.out]
                      exact d1
                    have hg4z : g4 < w4.heap.size := (Array.getElem?_eq_some_iff.1 HB4.out).1
                    clear d1 d2
                    go_wp2_with fail
                    go_loopw [17, 74] (fun v17 i w5 => ∃ j : Nat, j ≤ m ∧ i = .int .i64 j ∧ Ow w5 w4.heap.size v17 ((addW (prt s2.parts T) zd).take j) ∧ Below w4.heap.size w4 w5) (fun _ i _ => m - (intOf i).toNat)
                    case atStart => exact ⟨0, Nat.zero_le _, by first | rfl | trivial, by rw [List.take_zero]; exact Ow.start _ _, Below.refl _ _⟩
                    case round =>
                      obtain ⟨w5, rfl⟩ : ∃ w, w = wr := ⟨_, rfl⟩
                      obtain ⟨v17, rfl⟩ : ∃ v, v = u17 := ⟨_, rfl⟩
                      obtain ⟨j, hj, rfl, ho, hb5⟩ := hrel
                      have HO := hide ho
                      have HB5 := hide hb5
                      have z3 := (hb5.cell (p := ⟨C, 3, none⟩) hCz4).trans z34
                      have zz5 := Nat.lt_of_lt_of_le hCz4 hb5.size
                      by_cases hltj : j < m
                      · have hjz : (j : Int) < (m : Int) := by omega
                        have hm6 : m ≤ 65536 := HM6.out
                        obtain ⟨pxb, pxo, rfl, _, hpa⟩ := (HPX.out.below (HW24.out.trans (hb5.mono HW24.out.size))).at (by omega)
                        have ca := hpa j hltj
                        obtain ⟨xb, xo, rfl, _, hxa⟩ := (HXW.out.below (HW24.out.trans (hb5.mono HW24.out.size))).at (by omega)
                        have cb := hxa j hltj
                        have cT := (hb5.cell (p := ⟨g4, T, none⟩) hg4z).trans cT
                        obtain ⟨aj, haj⟩ : ∃ a, a = (prt s2.parts T)[j]?.getD 0 := ⟨_, rfl⟩
                        obtain ⟨bj, hbj⟩ : ∃ b, b = zd[j]?.getD 0 := ⟨_, rfl⟩
                        rw [← haj] at ca
                        rw [← hbj] at cb
                        have hstep : (addW (prt s2.parts T) zd).take (j + 1) = (addW (prt s2.parts T) zd).take j ++ [wrap64 (aj + bj)] := by
                          have hzl : zd.length = m := HXW.out.1
                          have hl : j < (addW (prt s2.parts T) zd).length := by rw [addW_len, hzl]; exact hltj
                          rw [List.take_add_one, List.getElem?_eq_getElem hl]
                          have he : (addW (prt s2.parts T) zd)[j] = wrap64 (aj + bj) := by rw [haj, hbj]; simp [addW]
                          rw [he]
                          rfl
                        have HSTEP := hide hstep
                        have HLT : Hid (((addW (prt s2.parts T) zd).take j).length + 1 ≤ 1000000) := by
                          show ((addW (prt s2.parts T) zd).take j).length + 1 ≤ 1000000
                          rw [List.length_take]
                          have := HM6.out
                          omega
                        have jpa : pxb < w5.heap.size := lt_of_cell ca
                        have jpb : xb < w5.heap.size := lt_of_cell cb
                        have jpg : g4 < w5.heap.size := lt_of_cell cT
                        clear hpa hxa haj hbj hstep ho hb5
                        go_upto_region 18 with fail
                        refine region_made 15 17 [fIs (v17), fIs (.slice (some ⟨g4, 0, none⟩) n cap4), fIs (.int .i64 (T : Int)), fIs (.pointer (some ⟨g4, T, none⟩)), fIs (.slice (some ⟨pxb, pxo, none⟩) m c9), fIs (.int .i64 (j : Int)), fIs (.pointer (some ⟨pxb, pxo + j, none⟩)), fIs (.int .i64 aj), fIs (.pointer (some ⟨C, 3, none⟩)), fIs (.slice (some ⟨xb, xo, none⟩) m c), fIs (.int .i64 (j : Int)), fIs (.pointer (some ⟨xb, xo + j, none⟩)), fIs (.int .i64 bj), fIs (.int .i64 (IntKind.i64.wrap (aj + bj))), fOneI (IntKind.i64.wrap (aj + bj))] (by kernel_rfl) (by kernel_rfl) (by kernel_rfl) (fun ch p q w3 e h => by obtain ⟨t1, d1⟩ := p; obtain ⟨t2, d2⟩ := q; cases e; exact h) ⟨fIs_good _, fIs_good _, fIs_good _, fIs_good _, fIs_good _, fIs_good _, fIs_good _, fIs_good _, fIs_good _, fIs_good _, fIs_good _, fIs_good _, fIs_good _, fIs_good _, fOneI_good _, trivial⟩ ?mkS ?restS
                        case mkS =>
                          refine ⟨fun u wz hb hd => ?_, fun u wz hb hd => ?_, fun u wz hb hd => ?_, fun u wz hb hd => ?_, fun u wz hb hd => ?_, fun u wz hb hd => ?_, fun u wz hb hd => ?_, fun u wz hb hd => ?_, fun u wz hb hd => ?_, fun u wz hb hd => ?_, fun u wz hb hd => ?_, fun u wz hb hd => ?_, fun u wz hb hd => ?_, fun u wz hb hd => ?_, fun u wz hb hd => ?_, trivial⟩
                          all_goals simp only [Act.put, List.setIfInBounds_toArray, List.set_cons_zero, List.set_cons_succ]
                          · go_simp
                            exact ⟨rfl, Below.refl _ _, fun h => by cases h⟩
                          · go_simp
                            exact ⟨rfl, Below.refl _ _, fun h => by cases h⟩
                          · go_simp
                            exact ⟨rfl, Below.refl _ _, fun h => by cases h⟩
                          · have e1 : u 1 = .slice (some ⟨g4, 0, none⟩) n cap4 := hd 1 (by omega) (by kernel_rfl)
                            have e2 : u 2 = .int .i64 (T : Int) := hd 2 (by omega) (by kernel_rfl)
                            rw [e1, e2]
                            go_simp
                            exact ⟨rfl, Below.refl _ _, fun h => by cases h⟩
                          · have e3 : u 3 = .pointer (some ⟨g4, T, none⟩) := hd 3 (by omega) (by kernel_rfl)
                            rw [e3]
                            have cT' := (hb.cell (p := ⟨g4, T, none⟩) (lt_of_cell cT)).trans cT
                            go_simp
                            exact ⟨rfl, Below.refl _ _, fun h => by cases h⟩
                          · go_simp
                            exact ⟨rfl, Below.refl _ _, fun h => by cases h⟩
                          · have e4 : u 4 = .slice (some ⟨pxb, pxo, none⟩) m c9 := hd 4 (by omega) (by kernel_rfl)
                            have e5 : u 5 = .int .i64 (j : Int) := hd 5 (by omega) (by kernel_rfl)
                            rw [e4, e5]
                            go_simp
                            exact ⟨rfl, Below.refl _ _, fun h => by cases h⟩
                          · have e6 : u 6 = .pointer (some ⟨pxb, pxo + j, none⟩) := hd 6 (by omega) (by kernel_rfl)
                            rw [e6]
                            have ca' := (hb.cell (p := ⟨pxb, pxo + j, none⟩) (lt_of_cell ca)).trans ca
                            go_simp
                            exact ⟨rfl, Below.refl _ _, fun h => by cases h⟩
                          · go_simp
                            exact ⟨rfl, Below.refl _ _, fun h => by cases h⟩
                          · have e8 : u 8 = .pointer (some ⟨C, 3, none⟩) := hd 8 (by omega) (by kernel_rfl)
                            rw [e8]
                            have z3' := (hb.cell (p := ⟨C, 3, none⟩) (lt_of_cell z3)).trans z3
                            go_simp
                            exact ⟨rfl, Below.refl _ _, fun h => by cases h⟩
                          · go_simp
                            exact ⟨rfl, Below.refl _ _, fun h => by cases h⟩
                          · have e9 : u 9 = .slice (some ⟨xb, xo, none⟩) m c := hd 9 (by omega) (by kernel_rfl)
                            have e10 : u 10 = .int .i64 (j : Int) := hd 10 (by omega) (by kernel_rfl)
                            rw [e9, e10]
                            go_simp
                            exact ⟨rfl, Below.refl _ _, fun h => by cases h⟩
                          · have e11 : u 11 = .pointer (some ⟨xb, xo + j, none⟩) := hd 11 (by omega) (by kernel_rfl)
                            rw [e11]
                            have cb' := (hb.cell (p := ⟨xb, xo + j, none⟩) (lt_of_cell cb)).trans cb
                            go_simp
                            exact ⟨rfl, Below.refl _ _, fun h => by cases h⟩
                          · have e7 : u 7 = .int .i64 aj := hd 7 (by omega) (by kernel_rfl)
                            have e12 : u 12 = .int .i64 bj := hd 12 (by omega) (by kernel_rfl)
                            rw [e7, e12]
                            go_simp
                            exact ⟨rfl, Below.refl _ _, fun h => by cases h⟩
                          · have e13 : u 13 = .int .i64 (IntKind.i64.wrap (aj + bj)) := hd 13 (by omega) (by kernel_rfl)
                            rw [e13]
                            go_simp
                            exact ⟨⟨_, rfl, cell_new1 _ _ _⟩, bl_new _, fun h => by cases h⟩
                        case restS =>
                          intro u wz hb hf hp
                          have f0 : u 0 = v17 := hf 0 (by omega)
                          have f1 : u 1 = .slice (some ⟨g4, 0, none⟩) n cap4 := hf 1 (by omega)
                          have f2 : u 2 = .int .i64 (T : Int) := hf 2 (by omega)
                          have f3 : u 3 = .pointer (some ⟨g4, T, none⟩) := hf 3 (by omega)
                          have f4 : u 4 = .slice (some ⟨pxb, pxo, none⟩) m c9 := hf 4 (by omega)
                          have f5 : u 5 = .int .i64 (j : Int) := hf 5 (by omega)
                          have f6 : u 6 = .pointer (some ⟨pxb, pxo + j, none⟩) := hf 6 (by omega)
                          have f7 : u 7 = .int .i64 aj := hf 7 (by omega)
                          have f8 : u 8 = .pointer (some ⟨C, 3, none⟩) := hf 8 (by omega)
                          have f9 : u 9 = .slice (some ⟨xb, xo, none⟩) m c := hf 9 (by omega)
                          have f10 : u 10 = .int .i64 (j : Int) := hf 10 (by omega)
                          have f11 : u 11 = .pointer (some ⟨xb, xo + j, none⟩) := hf 11 (by omega)
                          have f12 : u 12 = .int .i64 bj := hf 12 (by omega)
                          have f13 : u 13 = .int .i64 (IntKind.i64.wrap (aj + bj)) := hf 13 (by omega)
                          obtain ⟨g14, f14, k14⟩ := hf 14 (by omega)
                          refine UptoW.rest 2 15 (by rfl) (by kernel_rfl) ?_
                          simp only [List.take, List.drop, putOps, Act.put, List.setIfInBounds_toArray, List.set_cons_zero, List.set_cons_succ, Nat.reduceAdd, f0, f1, f2, f3, f4, f5, f6, f7, f8, f9, f10, f11, f12, f13, f14]
                          clear f0 f1 f2 f3 f4 f5 f6 f7 f8 f9 f10 f11 f12 f13 f14 hf hp
                          have HBZ := hide hb
                          have HON := hide k14
                          clear hb k14
                          go_wp2_with (at_builtin; refine stp ?_)
                          unfold Stp1
                          refine append_ow (by rfl) (.tmp 77) (.tmp 91) (by rfl) w4.heap.size v17 _ (by rfl) (HO.out.below HBZ.out) _ _ _ [wrap64 (aj + bj)] (by rfl) (one_ints HON.out) HLT.out (Nat.le_trans HB5.out.size HBZ.out.size) ?_
                          intro v9 w9 ho9 hb9
                          have HO9 := hide ho9
                          have HB9 := hide ((HB5.out.trans (HBZ.out.mono HB5.out.size)).trans hb9)
                          clear ho9 hb9
                          go_wp2_with fail
                          go_roundw
                          case rel =>
                            refine ⟨j + 1, by omega, by first | rfl | go_num, ?_, HB9.out⟩
                            rw [HSTEP.out]
                            exact HO9.out
                          case measure => simp [intOf]; omega
                      · obtain rfl : m = j := by omega
                        have hzl : zd.length = m := HXW.out.1
                        rw [List.take_of_length_le (by rw [addW_len]; omega)] at ho
                        have hal : (addW (prt s2.parts T) zd).length = m := by rw [addW_len, hzl]
                        obtain ⟨⟨sa, sn, sc⟩, rfl, hnum, hon⟩ := num_of_own ho (by have := HM6.out; omega) (fun x hx => by
                          unfold addW at hx
                          obtain ⟨i, _, rfl⟩ := List.mem_map.1 hx
                          exact wrap_in2 _)
                        have HNUM := hide hnum
                        have HON2 := hide hon
                        have hgb5 := (hb5.block g4 hg4z).trans HB4.out
                        have HG5 := hide hgb5
                        have cT5 := (hb5.cell (p := ⟨g4, T, none⟩) hg4z).trans cT
                        have gz5 := Nat.lt_of_lt_of_le hg4z hb5.size
                        have gf5 : w5.frozen? ⟨g4, T, none⟩ = false := by simp [World.frozen?, hgb5]
                        have hx8 := (hb5.block b8 hb8z4).trans HX84.out
                        have HX85 := hide hx8
                        clear ho hnum hon hgb5 cT
                        have k0 : w5.cell? ⟨b8, 1, none⟩ = some (.slice p2a n p2c) := by simp only [World.cell?, HX85.out]; rfl
                        have k1 : w5.cell? ⟨b8, 3, none⟩ = some (.int .i64 (TK : Int)) := by simp only [World.cell?, HX85.out]; rfl
                        have kf : ∀ k, w5.frozen? ⟨b8, k, none⟩ = false := fun k => by simp [World.frozen?, HX85.out]
                        have kz := (Array.getElem?_eq_some_iff.1 HX85.out).1
                        have y1 : ¬ g4 = b8 := by have := HG4.out; have := HN2.out; have := HBE.out; omega
                        have y2 : ¬ b8 = g4 := by have := HG4.out; have := HN2.out; have := HBE.out; omega
                        have hfin := TkI.used (w5 := w5) HI2.out HS.out (by have := HBE.out; omega) HN2.out zd HLK.out (HW24.out.trans (HB5.out.mono HW24.out.size)) g4 cap4 pb po p2c HG4.out cur4 (HG5.out) HCS.out HCAP.out (by rw [HPA.out]) HCUR.out ⟨sa, sn, sc⟩ (HNUM.out.cap) (fun V hV => by
                          rw [← HTK.out, ← HTT.out, if_pos HSB.out]
                          exact (HNUM.out.keep fun b hO => hV b (.inr ⟨by have := HON2.out b hO; have := HW24.out.size; have := HN2.out; omega, HNUM.out.lt hO⟩) (fun e => by
                            obtain ⟨cur', hc'⟩ := HNUM.out.blk b hO
                            rw [e, HG5.out] at hc'
                            simp at hc')).ints)
                        rw [← HTK.out, ← HTT.out] at hfin
                        simp only at hfin
                        have hq9 : wrap64 ((TK : Int) + 1) = (TK : Int) + 1 := wrap_small (by have := HMEA.out; omega) (by have := HMEA.out; omega)
                        have HFIN0 := hide hfin
                        rw [← hq9] at hfin
                        have HFIN := hide hfin
                        clear hfin hq9
                        go_wp2_with fail
                        go_roundw
                        case rel => first | exact ⟨⟨⟨o2a, o2n, o2c⟩, ⟨some ⟨g4, 0, none⟩, n, cap4⟩, ⟨some ⟨eb, eo, none⟩, e2n, e2c⟩⟩, useM d n me s2 zd, true, rfl, (fun h => by cases h), HFIN.out⟩ | exact ⟨⟨⟨o2a, o2n, o2c⟩, ⟨some ⟨g4, 0, none⟩, n, cap4⟩, ⟨some ⟨eb, eo, none⟩, e2n, e2c⟩⟩, useM d n me s2 zd, true, rfl, (fun h => by cases h), HFIN0.out⟩
                        case measure =>
                          have hm9 := HMEA.out
                          have h9 := tkO_of HFIN.out
                          have h90 := tkO_of HFIN0.out
                          have h8 : (useM d n me s2 zd).taken = TK + 1 := by rw [HTK.out]; rfl
                          first | rw [HTKO.out, h9, h8] | rw [HTKO.out, h90, h8]
                          simp only [bN]
                          omega
                  · have q3 : ¬ (TK : Int) < (n : Int) - 1 := by omega
                    have HSB : Hid (sumsB d n TK = false) := by show sumsB d n TK = _; unfold sumsB; simp; omega
                    clear c1 c2 c3
                    have hx8 := HX84.out
                    have hg4z : g4 < w4.heap.size := (Array.getElem?_eq_some_iff.1 HB4.out).1
                    have gf4 : w4.frozen? ⟨g4, T, none⟩ = false := by simp [World.frozen?, HB4.out]
                    obtain ⟨vT, cT⟩ : ∃ v, w4.cell? ⟨g4, T, none⟩ = some v := by
                      obtain ⟨PX, pm, c9, d1, _, _⟩ := HPAT.out T HTL.out
                      exact ⟨.slice PX pm c9, by simp only [World.cell?, HB4.out]; rw [HCUR.out T HTL.out]; exact d1⟩
                    clear hx8
                    have k0 : w4.cell? ⟨b8, 1, none⟩ = some (.slice p2a n p2c) := by simp only [World.cell?, HX84.out]; rfl
                    have k1 : w4.cell? ⟨b8, 3, none⟩ = some (.int .i64 (TK : Int)) := by simp only [World.cell?, HX84.out]; rfl
                    have kf : ∀ k, w4.frozen? ⟨b8, k, none⟩ = false := fun k => by simp [World.frozen?, HX84.out]
                    have kz := (Array.getElem?_eq_some_iff.1 HX84.out).1
                    have y1 : ¬ g4 = b8 := by have := HG4.out; have := HN2.out; have := HBE.out; omega
                    have y2 : ¬ b8 = g4 := by have := HG4.out; have := HN2.out; have := HBE.out; omega
                    have hfin := TkI.used (w5 := w4) HI2.out HS.out (by have := HBE.out; omega) HN2.out zd HLK.out HW24.out g4 cap4 pb po p2c HG4.out cur4 (HB4.out) HCS.out HCAP.out (by rw [HPA.out]) HCUR.out ⟨X, m, c⟩ (HXC.out) (fun V hV => by
                      rw [← HTK.out, ← HTT.out, if_neg (by rw [HSB.out]; decide)]
                      exact HXS.out V fun b hbb => (hV b (nws_mono HW24.out.size b hbb) (fun e => by
                        have h1 := HG4.out
                        have h2 : b < w2.heap.size := by
                          rcases hbb with h3 | h3
                          · exact Nat.lt_of_lt_of_le (HS.out b h3) HI2.out.bel.size
                          · exact h3.2
                        omega)).trans (HW24.out.block b (by
                          rcases hbb with h3 | h3
                          · exact Nat.lt_of_lt_of_le (HS.out b h3) HI2.out.bel.size
                          · exact h3.2)))
                    rw [← HTK.out, ← HTT.out] at hfin
                    simp only at hfin
                    have hq9 : wrap64 ((TK : Int) + 1) = (TK : Int) + 1 := wrap_small (by have := HMEA.out; omega) (by have := HMEA.out; omega)
                    have HFIN0 := hide hfin
                    rw [← hq9] at hfin
                    have HFIN := hide hfin
                    clear hfin hq9
                    go_wp2_with fail
                    go_roundw
                    case rel => first | exact ⟨⟨⟨o2a, o2n, o2c⟩, ⟨some ⟨g4, 0, none⟩, n, cap4⟩, ⟨some ⟨eb, eo, none⟩, e2n, e2c⟩⟩, useM d n me s2 zd, true, rfl, (fun h => by cases h), HFIN.out⟩ | exact ⟨⟨⟨o2a, o2n, o2c⟩, ⟨some ⟨g4, 0, none⟩, n, cap4⟩, ⟨some ⟨eb, eo, none⟩, e2n, e2c⟩⟩, useM d n me s2 zd, true, rfl, (fun h => by cases h), HFIN0.out⟩
                    case measure =>
                      have hm9 := HMEA.out
                      have h9 := tkO_of HFIN.out
                      have h90 := tkO_of HFIN0.out
                      have h8 : (useM d n me s2 zd).taken = TK + 1 := by rw [HTK.out]; rfl
                      first | rw [HTKO.out, h9, h8] | rw [HTKO.out, h90, h8]
                      simp only [bN]
                      omega
                · have q1 : ¬ ((d : Int) = 1) := by omega
                  have HSB : Hid (sumsB d n TK = false) := by show sumsB d n TK = _; unfold sumsB; simp; omega
                  clear c1 c2
                  have hx8 := HX84.out
                  have hg4z : g4 < w4.heap.size := (Array.getElem?_eq_some_iff.1 HB4.out).1
                  have gf4 : w4.frozen? ⟨g4, T, none⟩ = false := by simp [World.frozen?, HB4.out]
                  obtain ⟨vT, cT⟩ : ∃ v, w4.cell? ⟨g4, T, none⟩ = some v := by
                    obtain ⟨PX, pm, c9, d1, _, _⟩ := HPAT.out T HTL.out
                    exact ⟨.slice PX pm c9, by simp only [World.cell?, HB4.out]; rw [HCUR.out T HTL.out]; exact d1⟩
                  clear hx8
                  have k0 : w4.cell? ⟨b8, 1, none⟩ = some (.slice p2a n p2c) := by simp only [World.cell?, HX84.out]; rfl
                  have k1 : w4.cell? ⟨b8, 3, none⟩ = some (.int .i64 (TK : Int)) := by simp only [World.cell?, HX84.out]; rfl
                  have kf : ∀ k, w4.frozen? ⟨b8, k, none⟩ = false := fun k => by simp [World.frozen?, HX84.out]
                  have kz := (Array.getElem?_eq_some_iff.1 HX84.out).1
                  have y1 : ¬ g4 = b8 := by have := HG4.out; have := HN2.out; have := HBE.out; omega
                  have y2 : ¬ b8 = g4 := by have := HG4.out; have := HN2.out; have := HBE.out; omega
                  have hfin := TkI.used (w5 := w4) HI2.out HS.out (by have := HBE.out; omega) HN2.out zd HLK.out HW24.out g4 cap4 pb po p2c HG4.out cur4 (HB4.out) HCS.out HCAP.out (by rw [HPA.out]) HCUR.out ⟨X, m, c⟩ (HXC.out) (fun V hV => by
                    rw [← HTK.out, ← HTT.out, if_neg (by rw [HSB.out]; decide)]
                    exact HXS.out V fun b hbb => (hV b (nws_mono HW24.out.size b hbb) (fun e => by
                      have h1 := HG4.out
                      have h2 : b < w2.heap.size := by
                        rcases hbb with h3 | h3
                        · exact Nat.lt_of_lt_of_le (HS.out b h3) HI2.out.bel.size
                        · exact h3.2
                      omega)).trans (HW24.out.block b (by
                        rcases hbb with h3 | h3
                        · exact Nat.lt_of_lt_of_le (HS.out b h3) HI2.out.bel.size
                        · exact h3.2)))
                  rw [← HTK.out, ← HTT.out] at hfin
                  simp only at hfin
                  have hq9 : wrap64 ((TK : Int) + 1) = (TK : Int) + 1 := wrap_small (by have := HMEA.out; omega) (by have := HMEA.out; omega)
                  have HFIN0 := hide hfin
                  rw [← hq9] at hfin
                  have HFIN := hide hfin
                  clear hfin hq9
                  go_wp2_with fail
                  go_roundw
                  case rel => first | exact ⟨⟨⟨o2a, o2n, o2c⟩, ⟨some ⟨g4, 0, none⟩, n, cap4⟩, ⟨some ⟨eb, eo, none⟩, e2n, e2c⟩⟩, useM d n me s2 zd, true, rfl, (fun h => by cases h), HFIN.out⟩ | exact ⟨⟨⟨o2a, o2n, o2c⟩, ⟨some ⟨g4, 0, none⟩, n, cap4⟩, ⟨some ⟨eb, eo, none⟩, e2n, e2c⟩⟩, useM d n me s2 zd, true, rfl, (fun h => by cases h), HFIN0.out⟩
                  case measure =>
                    have hm9 := HMEA.out
                    have h9 := tkO_of HFIN.out
                    have h90 := tkO_of HFIN0.out
                    have h8 : (useM d n me s2 zd).taken = TK + 1 := by rw [HTK.out]; rfl
                    first | rw [HTKO.out, h9, h8] | rw [HTKO.out, h90, h8]
                    simp only [bN]
                    omega
              · have htzz : ¬ ((zt : Int) = (TK : Int)) := by omega
                have HNE : Hid (∀ j z, j < k + 1 → s2.early[j]? = some z → z.1 ≠ TK) := fun j z hj hzj => by
                  by_cases e : j = k
                  · subst e
                    rw [hz] at hzj
                    cases hzj
                    exact htz
                  · exact hne j z (by omega) hzj
                clear hne hz hTK
                go_wp2_with fail
                go_roundw
                case rel => exact ⟨k + 1, by omega, by first | rfl | go_num, by first | rfl | trivial, HNE.out, HI2.out.grow HS.out (bl_new _)⟩
                case measure => simp [intOf]; omega
            · obtain rfl : e2n = k := by omega
              have hln : lookL s2.taken s2.early = none := look_none _ _ fun j z hz => by
                rw [← hTK]
                exact hne j z (by have := (List.getElem?_eq_some_iff.1 hz).1; have := HEN2.out; omega) hz
              have HLN := hide hln
              have HTKO2 : Hid (tkO w2 b8 = TK) := by show tkO w2 b8 = TK; unfold tkO; rw [b32]; simp [intOf]
              clear hI2 hne hln hTK hbox2
              go_wp2_with fail
              go_roundw
              case rel => exact ⟨_, s2, false, by first | rfl | trivial, fun _ => HLN.out, HI2.out⟩
              case measure =>
                rw [HTKO.out, HTKO2.out]
                simp [bN]
end Go.Proofs.Yticcoacoepajpaa.V
