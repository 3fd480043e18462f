/-
  order.look: where all is right. Contracts: order.Legal, order.Free.
-/
import Derived.Test.YtoidgdbgpbcebaaK33
import Derived.Test.YtoidgdbgpbcebaaK35
import Derived.Test.YtoidgdbgpbcebaaK24
namespace Go.Proofs.Ytoidgdbgpbcebaa.V
open Go Go.RowKit
set_option linter.unusedVariables false

theorem run_make_map (W : World) : (Instr.makeMap 116 none).run Try.prog W = .ok (.map (some W.heap.size)) (W.alloc (.map #[] 0)) := by
  rfl
theorem spK_fst (ss : List Stm) (k : Nat) : ∀ p ∈ spK ss k, p.1 < k := fun p hp => by
  unfold spK spS at hp
  simp only [List.mem_flatMap, List.mem_range, List.mem_map] at hp
  obtain ⟨i, hi, x, _, rfl⟩ := hp
  exact hi
theorem gets_len {zs : List Int} {ss : List Stm} (hok : NestOk zs ss) (T : Tms) (p : Nat × List Int) : (spOf zs ss T p).gets.length ≤ 3 := by
  unfold spOf
  rw [List.length_map]
  by_cases h : p.1 < ss.length
  · have h1 := (hok.stms (ss[p.1]?.getD stmD) (by simp [h])).takes
    have h2 := (takes_bd (ss[p.1]?.getD stmD).kind).2
    omega
  · have : ss[p.1]?.getD stmD = stmD := by simp [h]
    rw [this]
    decide
theorem own_slice {W : World} {B e n : Nat} {v : Value} {xs : List Value} (h : W.ownsRow B e 1 v n xs) : ∃ A c, v = .slice A n c := by
  rcases h.2 with ⟨h1, h2⟩ | ⟨g, cap, cur, h1, _⟩
  · exact ⟨none, 0, by rw [h1, h2]⟩
  · exact ⟨_, cap, h1⟩
theorem OutT.look {W : World} {B : Nat} {v : Value} {l : List (Nat × List Int)} {f : Nat × List Int → Sp} (h : OutT W B v (l.map f)) : ∃ aa ac us, v = .slice aa l.length ac ∧ TAt W aa l.length us ∧ (∀ j, j < l.length → Lies B (fun V => TG V (us j) (f (l[j]?.getD spD))) W) ∧ ∀ j, (us j).kd = (f (l[j]?.getD spD)).kd := by
  obtain ⟨aa, ac, us, h1, h2, h3⟩ := h.at
  rw [List.length_map] at h1 h2 h3
  have h4 : ∀ j, j < l.length → (l.map f)[j]?.getD spDD = f (l[j]?.getD spD) := fun j hj => by simp [hj]
  refine ⟨aa, ac, fun j => if j < l.length then us j else ⟨0, none, 0, 0, fun _ => 0, (f (l[j]?.getD spD)).kd, 0, ⟨0, 0⟩, none, 0, 0⟩, h1, fun j hj => ?_, fun j hj => ?_, fun j => ?_⟩
  · simp only [if_pos hj]
    exact h2 j hj
  · simp only [if_pos hj]
    have := h3 j hj
    rw [h4 j hj] at this
    exact this
  · by_cases hj : j < l.length
    · simp only [if_pos hj]
      have := (h3 j hj).out.kd
      rw [h4 j hj] at this
      exact this
    · simp only [if_neg hj]
theorem ahead_len (L : PW → Bool → List Nat) (kd : Nat → Int) (k : Int) (p : PW) (ps : List PW) (B : Nat) (hl : ∀ p s, (L p s).length ≤ B) : (aheadL L kd k p ps).length ≤ B + B + ps.length * B := by
  have h4 : ∀ xs : List PW, (xs.flatMap (fun r => L r false)).length ≤ xs.length * B := fun xs => by
    induction xs with
    | nil => simp
    | cons x xs ih =>
      have := hl x false
      simp only [List.flatMap_cons, List.length_append, List.length_cons, Nat.add_mul]
      omega
  unfold aheadL
  rw [List.length_append, List.length_append]
  have h1 := List.length_filter_le (wayB kd k) (L p false)
  have h2 := hl p false
  have h3 := hl p true
  have h5 := h4 ps
  omega
theorem tch_new (w : World) (S : Nat → Sp) : Tch (w.alloc (.map #[] 0)) w.heap.size [] (touchL S 0) := by
  refine ⟨⟨#[], 0, World.alloc_heap_new w _, rfl⟩, fun k s => ?_, fun k s k' s' b h => ?_⟩
  · cases s <;> exact World.ownsRow_nil _ _ _ _
  · cases s <;> cases h
set_option maxRecDepth 100000 in
set_option maxHeartbeats 4000000 in
theorem look_good (am : (Nat → Int) → (Nat → Int) → Bool) (g : Nat) (eg : ∀ args w, (callFunc g args).run Try.prog w = .ok (.enter g args) w) (hg : ∀ (u v : TW) (W : World), Calls Try.prog g #[u.v, v.v] W fun e W' => e = .returned (.bool (am u.tm v.tm)) ∧ Below W.heap.size W W')
    (za : Option Addr) (zl zc : Nat) (zs : List Int) (ta : Option Addr) (tl tc : Nat) (ss : List Stm) (ma : Option Addr) (ml mc : Nat) (T : Tms) (w : World) (hz : Ints w za zl zs) (hs : Stms w ta tl ss) (hT : TimesA w ma ml T) (hE : rightE zs ss T = 0) :
    Calls Try.prog 29 #[.agg #[.slice za zl zc, .slice ta tl tc], .slice ma ml mc, .func (.func g) #[] #[]] w fun e w' => (∃ v, e = .returned (.tuple #[v, .int .i64 0]) ∧ FoundV (badA am zs ss T) (spK ss ss.length) w' v) ∧ Below w.heap.size w w' := by
  obtain ⟨W, hW⟩ : ∃ W, W = (w.alloc (.cells #[.slice za zl zc, .slice ta tl tc] 25)).alloc (.cells #[.bool false, .int .i64 0, .slice none 0 0, .int .i64 0, .slice none 0 0] 38) := ⟨_, rfl⟩
  have BW : Below w.heap.size w W := by rw [hW]; exact bl_on (bl_new _) (bl_new _)
  have N1 : NsBlk W w.heap.size za zl zc ta tl tc := by rw [hW]; exact (Below.heap_alloc _ _ _ (by simp)).trans (World.alloc_heap_new w _)
  have F1 : W.heap[w.heap.size + 1]? = some (.cells #[.bool false, .int .i64 0, .slice none 0 0, .int .i64 0, .slice none 0 0] 38 (0, 0)) := by
    rw [hW]
    have := World.alloc_heap_new (w.alloc (.cells #[.slice za zl zc, .slice ta tl tc] 25)) (.cells #[.bool false, .int .i64 0, .slice none 0 0, .int .i64 0, .slice none 0 0] 38)
    rw [World.size_alloc] at this
    exact this
  obtain ⟨n0, n1⟩ := N1.cells
  have zn := N1.lt
  have HRI := hide (spots_good za zl zc zs ta tl tc ss ma ml mc T W (hz.below BW) (hs.below BW) (hT.below BW) hE)
  have HW := hide hW
  have HBW := hide BW
  have HF := hide F1
  have HG := hide hg
  have HOK := hide (rightE_ok hE)
  clear hz hs hT hW BW F1 N1 hg
  obtain ⟨l, hl⟩ : ∃ l, l = spK ss ss.length := ⟨_, rfl⟩
  rw [← hl] at HRI
  rw [← hl]
  have HLL := hide hl
  have HFEW : Hid (l.length ≤ 1024) := by rw [Hid, hl]; exact HOK.out.few
  clear hl
  go_enter Try.func29, Try.ntmps29
  go_wp2_with fail
  rw [← HW.out]
  refine HRI.out.mono ?_
  rintro e w1 ⟨⟨v, B, rfl, hBv, hout⟩, hb⟩
  obtain ⟨aa, ac, us, rfl, hAt, hLie, hkd⟩ := hout.look
  obtain ⟨Sf, hSf⟩ : ∃ Sf : Nat → Sp, ∀ j, Sf j = spOf zs ss T (l[j]?.getD spD) := ⟨_, fun _ => rfl⟩
  obtain ⟨n, hn⟩ : ∃ n, n = l.length := ⟨_, rfl⟩
  rw [← hn] at hAt hLie HFEW ⊢
  have hn24 := HFEW.out
  have HN := hide hn
  have HSF := hide hSf
  have HKD : Hid (∀ j, (us j).kd = (Sf j).kd) := fun j => by rw [hSf]; exact hkd j
  have HAT := hide hAt
  have HLIE : Hid (∀ j, j < n → Lies B (fun V => TG V (us j) (Sf j)) w1) := fun j hj => by rw [hSf]; exact hLie j hj
  have HB1 := hide (bl_on HBW.out hb)
  have HF2 := hide ((hb.block _ (Array.getElem?_eq_some_iff.1 HF.out).1).trans HF.out)
  have HT0 := hide (tch_new w1 Sf)
  clear hb n0 n1 zn hAt hLie hout hBv hn HRI hSf hkd
  have hmk := run_make_map w1
  go_wp2_with fail
  clear hmk
  go_loopw [29] (fun i wr => ∃ k : Nat, k ≤ n ∧ i = .int .i64 k ∧ (∃ M, Tch wr w1.heap.size M (touchL Sf k)) ∧ Below w1.heap.size w1 wr ∧ NoneTo (badA am zs ss T) l k) (fun i _ => n - (intOf i).toNat)
  case atStart => exact ⟨0, Nat.zero_le _, rfl, ⟨_, HT0.out⟩, bl_new _, fun j i hj => by omega⟩
  case round =>
    clear HT0
    obtain ⟨k, hk, rfl, ⟨M, hT⟩, hB, hNone⟩ := hrel
    have HT := hide hT
    have HB := hide hB
    have HNO := hide hNone
    clear hT hB hNone
    by_cases hlt : k < n
    · obtain ⟨b, off, hb, hc⟩ := (HAT.out.below HB.out) k hlt
      have hG := ((HLIE.out k hlt).below HB.out).out
      obtain ⟨u, hu⟩ : ∃ u, u = us k := ⟨_, rfl⟩
      rw [← hu] at hc hG
      have HC := hide hc
      have HU := hide hu
      have HTG := hide hG
      have hl1 : ∀ j, j < l.length → (l[j]?.getD spD).1 < ss.length := fun j hj => by
        rw [HLL.out] at hj ⊢
        exact spK_fst ss ss.length _ (by simp [hj])
      have HL1 := hide hl1
      clear hc hu hG hl1
      subst hb
      have c0 : wr.cell? ⟨b, off + k * 15, none⟩ = some (.int .i64 u.stm) := HC.out 0 (by omega)
      have cz0 := lt_of_cell c0
      have c1 : wr.cell? ⟨b, off + k * 15 + 1, none⟩ = some (.slice u.xa u.xl u.xc) := HC.out 1 (by omega)
      have cz1 := lt_of_cell c1
      have c2 : wr.cell? ⟨b, off + k * 15 + 2, none⟩ = some (.int .i64 (u.tm 0)) := HC.out 2 (by omega)
      have cz2 := lt_of_cell c2
      have c3 : wr.cell? ⟨b, off + k * 15 + 3, none⟩ = some (.int .i64 (u.tm 1)) := HC.out 3 (by omega)
      have cz3 := lt_of_cell c3
      have c4 : wr.cell? ⟨b, off + k * 15 + 4, none⟩ = some (.int .i64 (u.tm 2)) := HC.out 4 (by omega)
      have cz4 := lt_of_cell c4
      have c5 : wr.cell? ⟨b, off + k * 15 + 5, none⟩ = some (.int .i64 (u.tm 3)) := HC.out 5 (by omega)
      have cz5 := lt_of_cell c5
      have c6 : wr.cell? ⟨b, off + k * 15 + 6, none⟩ = some (.int .i64 (u.tm 4)) := HC.out 6 (by omega)
      have cz6 := lt_of_cell c6
      have c7 : wr.cell? ⟨b, off + k * 15 + 7, none⟩ = some (.int .i64 (u.tm 5)) := HC.out 7 (by omega)
      have cz7 := lt_of_cell c7
      have c8 : wr.cell? ⟨b, off + k * 15 + 8, none⟩ = some (.int .i64 (u.tm 6)) := HC.out 8 (by omega)
      have cz8 := lt_of_cell c8
      have c9 : wr.cell? ⟨b, off + k * 15 + 9, none⟩ = some (.int .i64 (u.tm 7)) := HC.out 9 (by omega)
      have cz9 := lt_of_cell c9
      have c10 : wr.cell? ⟨b, off + k * 15 + 10, none⟩ = some (.int .i64 u.kd) := HC.out 10 (by omega)
      have cz10 := lt_of_cell c10
      have c11 : wr.cell? ⟨b, off + k * 15 + 11, none⟩ = some (.int .i64 u.va) := HC.out 11 (by omega)
      have cz11 := lt_of_cell c11
      have c12 : wr.cell? ⟨b, off + k * 15 + 12, none⟩ = some (.int .i64 u.pu.arr) := HC.out 12 (by omega)
      have cz12 := lt_of_cell c12
      have c13 : wr.cell? ⟨b, off + k * 15 + 13, none⟩ = some (.int .i64 u.pu.pos) := HC.out 13 (by omega)
      have cz13 := lt_of_cell c13
      have c14 : wr.cell? ⟨b, off + k * 15 + 14, none⟩ = some (.slice u.ga u.gl u.gc) := HC.out 14 (by omega)
      have cz14 := lt_of_cell c14
      by_cases hpos : u.pu.pos = -1
      · have hpos' : (u.pu.pos == -1) = true := by simpa using hpos
        go_wp2_with fail
        have hsp : (spOf zs ss T (l[k]?.getD spD)).put.pos = -1 := by
          rw [← HSF.out k, ← HTG.out.put]
          exact hpos
        refine ⟨⟨k + 1, by omega, rfl, ⟨M, ?_⟩, ?_, none_skip (nestE_ok HOK.out.ord.nest) (HL1.out k (by rw [← HN.out]; exact hlt)) hsp HNO.out⟩, by simp [intOf]; omega⟩
        · have e9 : touchL Sf (k + 1) = touchL Sf k := by
            unfold touchL
            rw [if_pos (by rw [HSF.out k]; exact hsp)]
            cases k <;> rfl
          rw [e9]
          exact HT.out.below (bl_new _)
        · exact bl_on HB.out (bl_new _)
      · have hpos' : (u.pu.pos == -1) = false := by simpa using hpos
        have HAH := hide (fun W (hb : Below w1.heap.size w1 W) (hT : Tch W w1.heap.size M (touchL Sf k)) (hin : PlsAt W u.ga u.gl (Sf k).gets) (hlt : ∀ p s a, a ∈ touchL Sf k p s → a < n) (hl : ∀ p s, (touchL Sf k p s).length ≤ 1000000) (hgl : u.gl ≤ 1000) => ahead_any w1.heap.size M (touchL Sf k) (some ⟨b, off, none⟩) n ac us u (Sf k).gets W hT (HAT.out.below hb) hin hlt (by omega) hl hgl)
        go_wp2_with fail
        have hb8 : Below w1.heap.size w1 (wr.alloc (.cells u.cs 59)) := bl_on HB.out (bl_new _)
        have hin8 : PlsAt (wr.alloc (.cells u.cs 59)) u.ga u.gl (Sf k).gets := by
          have := ((HLIE.out k hlt).below hb8).out.gets
          rw [← HU.out] at this
          exact this
        have hg3 : ∀ j, (Sf j).gets.length ≤ 3 := fun j => by rw [HSF.out j]; exact gets_len (nestE_ok HOK.out.ord.nest) T _
        have HBK := hide (TW.new u wr)
        have HB8 := hide hb8
        have HT8 := hide (HT.out.below (V := wr.alloc (.cells u.cs 59)) (bl_new _))
        have HIN8 := hide hin8
        have HG3 := hide hg3
        refine (HAH.out (wr.alloc (.cells u.cs 59)) hb8 HT8.out hin8 (fun p s a ha => by have := ((mem_touch Sf a p s k).1 ha).1; omega) (fun p s => by have := touch_len Sf 3 hg3 p s k; omega) (by have := hin8.1; have := hg3 k; omega)).mono ?_
        rintro e w3 ⟨⟨v3, rfl, how⟩, hb3⟩
        obtain ⟨A3, q3, rfl⟩ := own_slice how
        obtain ⟨al, hal⟩ : ∃ al, al = aheadL (touchL Sf k) (fun a => (us a).kd) u.kd u.pu (Sf k).gets := ⟨_, rfl⟩
        rw [← hal] at how ⊢
        have HOW := hide how
        have HALE := hide hal
        have HB3 := hide hb3
        have HBK3 := hide (HBK.out.below hb3)
        clear how hal hb3 hb8 hin8 hg3 HAH
        go_wp2_with fail
        obtain ⟨ub, hub⟩ : ∃ ub, ub = u := ⟨_, rfl⟩
        subst hub
        obtain ⟨B8, hB8⟩ : ∃ B8, B8 = wr.heap.size := ⟨_, rfl⟩
        rw [← hB8] at HBK3
        rw [← hB8]
        have HB8N := hide hB8
        clear hB8 c0 c1 c2 c3 c4 c5 c6 c7 c8 c9 c10 c11 c12 c13 c14 cz0 cz1 cz2 cz3 cz4 cz5 cz6 cz7 cz8 cz9 cz10 cz11 cz12 cz13 cz14 HC
        have HB13 := hide (bl_on HB8.out HB3.out)
        have HT3 := hide (HT8.out.below HB3.out)
        have HAL : Hid (al = aheadL (touchL Sf k) (fun a => (us a).kd) (Sf k).kd (Sf k).put (Sf k).gets) := by rw [Hid, HALE.out, HTG.out.kd, HTG.out.put]
        have HMEM : Hid (∀ a, a ∈ al → a < k) := fun a ha => by
          rw [HAL.out] at ha
          exact ((mem_ahead Sf (fun a => (us a).kd) HKD.out a k).1 ha).1
        have HLEN : Hid (al.length ≤ 100000) := by
          rw [Hid, HAL.out]
          have h1 := ahead_len (touchL Sf k) (fun a => (us a).kd) (Sf k).kd (Sf k).put (Sf k).gets 4096 (fun p s => by have := touch_len Sf 3 HG3.out p s k; omega)
          have h2 := HG3.out k
          have h3 := Nat.mul_le_mul_right 4096 h2
          omega
        go_loopw [44, 13] (fun i' f' wq => ∃ (i f : Nat), i ≤ al.length ∧ i' = .int .i64 i ∧ f' = .int .i64 f ∧ First (fun a => am (Sf a).tm (Sf k).tm) al k i f ∧ Below w3.heap.size w3 wq) (fun i' _ _ => al.length - (intOf i').toNat)
        case atStart => exact ⟨0, k, Nat.zero_le _, rfl, rfl, First.zero _ _ _, Below.refl _ _⟩
        case round =>
          obtain ⟨i, f, hi, rfl, rfl, hFi, hBq⟩ := hrel
          have hlen := HLEN.out
          have hfk := hFi.le
          have HFI := hide hFi
          have HBQ := hide hBq
          clear hFi hBq
          by_cases hil : i < al.length
          · obtain ⟨a, ha⟩ : ∃ a, a = al[i]?.getD 0 := ⟨_, rfl⟩
            have hsome : al[i]? = some a := by rw [ha]; simp [hil]
            have hak : a < k := HMEM.out a (List.mem_of_getElem? hsome)
            obtain ⟨g3, hg3, hcg0⟩ := (row_read HOW.out).2 i hil
            rw [← ha] at hcg0
            unfold iv at hcg0
            have hcg := (HBQ.out.cell (p := ⟨g3, i, none⟩) (lt_of_cell hcg0)).trans hcg0
            have hgz := lt_of_cell hcg
            rw [hg3]
            obtain ⟨b2, off2, hb2, hc⟩ := (HAT.out.below (bl_on HB13.out HBQ.out)) a (by omega)
            simp only [Option.some.injEq, Addr.mk.injEq, and_true] at hb2
            obtain ⟨e1, e2⟩ := hb2
            rw [← e1, ← e2] at hc
            have hG2 := ((HLIE.out a (by omega)).below (bl_on HB13.out HBQ.out)).out
            obtain ⟨u2, hu2⟩ : ∃ u2, u2 = us a := ⟨_, rfl⟩
            rw [← hu2] at hc hG2
            have HC := hide hc
            have HST := hide (HFI.out.step hsome)
            have HTM2 := hide hG2.tm
            have HTM := hide HTG.out.tm
            clear ha hsome hcg0 hc e1 e2 hu2 hG2
            go_wp2_with fail
            clear hcg hgz
            by_cases haf : a < f
            · have hafz : (a : Int) < (f : Int) := by omega
              have hafd : decide ((a : Int) < (f : Int)) = true := decide_eq_true hafz
              obtain ⟨x, hx⟩ : ∃ x, x = am u2.tm ub.tm := ⟨_, rfl⟩
              have HGX := hide (fun W => HG.out u2 ub W)
              rw [← hx] at HGX
              have HX : Hid (x = am (Sf a).tm (Sf k).tm) := by rw [Hid, hx, HTM2.out, HTM.out]
              unfold TW.v TW.cs at HGX
              clear hx
              have c0 : wr.cell? ⟨b, off + a * 15, none⟩ = some (.int .i64 u2.stm) := HC.out 0 (by omega)
              have cz0 := lt_of_cell c0
              have c1 : wr.cell? ⟨b, off + a * 15 + 1, none⟩ = some (.slice u2.xa u2.xl u2.xc) := HC.out 1 (by omega)
              have cz1 := lt_of_cell c1
              have c2 : wr.cell? ⟨b, off + a * 15 + 2, none⟩ = some (.int .i64 (u2.tm 0)) := HC.out 2 (by omega)
              have cz2 := lt_of_cell c2
              have c3 : wr.cell? ⟨b, off + a * 15 + 3, none⟩ = some (.int .i64 (u2.tm 1)) := HC.out 3 (by omega)
              have cz3 := lt_of_cell c3
              have c4 : wr.cell? ⟨b, off + a * 15 + 4, none⟩ = some (.int .i64 (u2.tm 2)) := HC.out 4 (by omega)
              have cz4 := lt_of_cell c4
              have c5 : wr.cell? ⟨b, off + a * 15 + 5, none⟩ = some (.int .i64 (u2.tm 3)) := HC.out 5 (by omega)
              have cz5 := lt_of_cell c5
              have c6 : wr.cell? ⟨b, off + a * 15 + 6, none⟩ = some (.int .i64 (u2.tm 4)) := HC.out 6 (by omega)
              have cz6 := lt_of_cell c6
              have c7 : wr.cell? ⟨b, off + a * 15 + 7, none⟩ = some (.int .i64 (u2.tm 5)) := HC.out 7 (by omega)
              have cz7 := lt_of_cell c7
              have c8 : wr.cell? ⟨b, off + a * 15 + 8, none⟩ = some (.int .i64 (u2.tm 6)) := HC.out 8 (by omega)
              have cz8 := lt_of_cell c8
              have c9 : wr.cell? ⟨b, off + a * 15 + 9, none⟩ = some (.int .i64 (u2.tm 7)) := HC.out 9 (by omega)
              have cz9 := lt_of_cell c9
              have c10 : wr.cell? ⟨b, off + a * 15 + 10, none⟩ = some (.int .i64 u2.kd) := HC.out 10 (by omega)
              have cz10 := lt_of_cell c10
              have c11 : wr.cell? ⟨b, off + a * 15 + 11, none⟩ = some (.int .i64 u2.va) := HC.out 11 (by omega)
              have cz11 := lt_of_cell c11
              have c12 : wr.cell? ⟨b, off + a * 15 + 12, none⟩ = some (.int .i64 u2.pu.arr) := HC.out 12 (by omega)
              have cz12 := lt_of_cell c12
              have c13 : wr.cell? ⟨b, off + a * 15 + 13, none⟩ = some (.int .i64 u2.pu.pos) := HC.out 13 (by omega)
              have cz13 := lt_of_cell c13
              have c14 : wr.cell? ⟨b, off + a * 15 + 14, none⟩ = some (.slice u2.ga u2.gl u2.gc) := HC.out 14 (by omega)
              have cz14 := lt_of_cell c14
              obtain ⟨d0, d1, d2, d3, d4, d5, d6, d7, d8, d9, d10, d11, d12, d13, d14⟩ := (HBK3.out.below HBQ.out).cells
              have dz := (HBK3.out.below HBQ.out).lt
              have han : a < n := by omega
              refine region_madeG 12 12 [fIs (.int .i64 (a : Int)), fIs (.int .i64 (f : Int)), fIs (.bool true), fIs (.bool true), fIs (.func (.func g) #[] #[]), fIs (.slice (some ⟨b, off, none⟩) n ac), fIs (.int .i64 (a : Int)), fIs (.pointer (some ⟨b, off + a * 15, none⟩)), fIs (.agg #[.int .i64 u2.stm, .slice u2.xa u2.xl u2.xc, .int .i64 (u2.tm 0), .int .i64 (u2.tm 1), .int .i64 (u2.tm 2), .int .i64 (u2.tm 3), .int .i64 (u2.tm 4), .int .i64 (u2.tm 5), .int .i64 (u2.tm 6), .int .i64 (u2.tm 7), .int .i64 u2.kd, .int .i64 u2.va, .int .i64 u2.pu.arr, .int .i64 u2.pu.pos, .slice u2.ga u2.gl u2.gc]), fIs (.agg #[.int .i64 ub.stm, .slice ub.xa ub.xl ub.xc, .int .i64 (ub.tm 0), .int .i64 (ub.tm 1), .int .i64 (ub.tm 2), .int .i64 (ub.tm 3), .int .i64 (ub.tm 4), .int .i64 (ub.tm 5), .int .i64 (ub.tm 6), .int .i64 (ub.tm 7), .int .i64 ub.kd, .int .i64 ub.va, .int .i64 ub.pu.arr, .int .i64 ub.pu.pos, .slice ub.ga ub.gl ub.gc]), fIs (.bool x), fIs (.bool x)] [none, none, none, some true, none, none, none, none, none, none, none, none] [true, true, true, true, true, true, true, true, true, true, true, true] (by kernel_rfl) (by kernel_rfl) (by kernel_rfl) (fun ch p q w3 e h => by obtain ⟨t1, d1⟩ := p; obtain ⟨t2, d2⟩ := q; cases e; exact h) ⟨fIs_good _, fIs_good _, fIs_good _, fIs_good _, fIs_good _, fIs_good _, fIs_good _, fIs_good _, fIs_good _, fIs_good _, fIs_good _, fIs_good _, trivial⟩ ⟨fun _ _ h => h, rfl⟩ ?mkT ?restT
              case mkT =>
                refine ⟨fun u wz hb hd => ?_, fun u wz hb hd => ?_, fun u wz hb hd => ?_, fun u wz hb hd => ?_, fun u wz hb hd => ?_, fun u wz hb hd => ?_, fun u wz hb hd => ?_, fun u wz hb hd => ?_, fun u wz hb hd => ?_, fun u wz hb hd => ?_, fun u wz hb hd => ?_, fun u wz hb hd => ?_, trivial⟩
                all_goals simp only [Act.put, List.setIfInBounds_toArray, List.set_cons_zero, List.set_cons_succ]
                · go_simp
                  exact ⟨rfl, Below.refl _ _, fun h => by cases h⟩
                · go_simp
                  exact ⟨rfl, Below.refl _ _, fun h => by cases h⟩
                · have e0 : u 0 = .int .i64 (a : Int) := hd 0 (by omega) (by kernel_rfl)
                  have e1 : u 1 = .int .i64 (f : Int) := hd 1 (by omega) (by kernel_rfl)
                  rw [e0, e1]
                  go_simp
                  exact ⟨rfl, Below.refl _ _, fun h => by cases h⟩
                · have e2 : u 2 = .bool true := hd 2 (by omega) (by kernel_rfl)
                  rw [e2]
                  go_simp
                  exact ⟨rfl, Below.refl _ _, fun h => by cases h⟩
                · go_simp
                  exact ⟨rfl, Below.refl _ _, fun h => by cases h⟩
                · go_simp
                  exact ⟨rfl, Below.refl _ _, fun h => by cases h⟩
                · go_simp
                  exact ⟨rfl, Below.refl _ _, fun h => by cases h⟩
                · have e5 : u 5 = .slice (some ⟨b, off, none⟩) n ac := hd 5 (by omega) (by kernel_rfl)
                  have e6 : u 6 = .int .i64 (a : Int) := hd 6 (by omega) (by kernel_rfl)
                  rw [e5, e6]
                  go_simp
                  exact ⟨rfl, Below.refl _ _, fun h => by cases h⟩
                · have e7 : u 7 = .pointer (some ⟨b, off + a * 15, none⟩) := hd 7 (by omega) (by kernel_rfl)
                  rw [e7]
                  have c0' := (hb.cell (p := ⟨b, off + a * 15, none⟩) (lt_of_cell c0)).trans c0
                  have c1' := (hb.cell (p := ⟨b, off + a * 15 + 1, none⟩) (lt_of_cell c1)).trans c1
                  have c2' := (hb.cell (p := ⟨b, off + a * 15 + 2, none⟩) (lt_of_cell c2)).trans c2
                  have c3' := (hb.cell (p := ⟨b, off + a * 15 + 3, none⟩) (lt_of_cell c3)).trans c3
                  have c4' := (hb.cell (p := ⟨b, off + a * 15 + 4, none⟩) (lt_of_cell c4)).trans c4
                  have c5' := (hb.cell (p := ⟨b, off + a * 15 + 5, none⟩) (lt_of_cell c5)).trans c5
                  have c6' := (hb.cell (p := ⟨b, off + a * 15 + 6, none⟩) (lt_of_cell c6)).trans c6
                  have c7' := (hb.cell (p := ⟨b, off + a * 15 + 7, none⟩) (lt_of_cell c7)).trans c7
                  have c8' := (hb.cell (p := ⟨b, off + a * 15 + 8, none⟩) (lt_of_cell c8)).trans c8
                  have c9' := (hb.cell (p := ⟨b, off + a * 15 + 9, none⟩) (lt_of_cell c9)).trans c9
                  have c10' := (hb.cell (p := ⟨b, off + a * 15 + 10, none⟩) (lt_of_cell c10)).trans c10
                  have c11' := (hb.cell (p := ⟨b, off + a * 15 + 11, none⟩) (lt_of_cell c11)).trans c11
                  have c12' := (hb.cell (p := ⟨b, off + a * 15 + 12, none⟩) (lt_of_cell c12)).trans c12
                  have c13' := (hb.cell (p := ⟨b, off + a * 15 + 13, none⟩) (lt_of_cell c13)).trans c13
                  have c14' := (hb.cell (p := ⟨b, off + a * 15 + 14, none⟩) (lt_of_cell c14)).trans c14
                  go_simp
                  exact ⟨rfl, Below.refl _ _, fun h => by cases h⟩
                · have d0' := (hb.cell (p := ⟨B8, 0, none⟩) (lt_of_cell d0)).trans d0
                  have d1' := (hb.cell (p := ⟨B8, 1, none⟩) (lt_of_cell d1)).trans d1
                  have d2' := (hb.cell (p := ⟨B8, 2, none⟩) (lt_of_cell d2)).trans d2
                  have d3' := (hb.cell (p := ⟨B8, 3, none⟩) (lt_of_cell d3)).trans d3
                  have d4' := (hb.cell (p := ⟨B8, 4, none⟩) (lt_of_cell d4)).trans d4
                  have d5' := (hb.cell (p := ⟨B8, 5, none⟩) (lt_of_cell d5)).trans d5
                  have d6' := (hb.cell (p := ⟨B8, 6, none⟩) (lt_of_cell d6)).trans d6
                  have d7' := (hb.cell (p := ⟨B8, 7, none⟩) (lt_of_cell d7)).trans d7
                  have d8' := (hb.cell (p := ⟨B8, 8, none⟩) (lt_of_cell d8)).trans d8
                  have d9' := (hb.cell (p := ⟨B8, 9, none⟩) (lt_of_cell d9)).trans d9
                  have d10' := (hb.cell (p := ⟨B8, 10, none⟩) (lt_of_cell d10)).trans d10
                  have d11' := (hb.cell (p := ⟨B8, 11, none⟩) (lt_of_cell d11)).trans d11
                  have d12' := (hb.cell (p := ⟨B8, 12, none⟩) (lt_of_cell d12)).trans d12
                  have d13' := (hb.cell (p := ⟨B8, 13, none⟩) (lt_of_cell d13)).trans d13
                  have d14' := (hb.cell (p := ⟨B8, 14, none⟩) (lt_of_cell d14)).trans d14
                  go_simp
                  exact ⟨rfl, Below.refl _ _, fun h => by cases h⟩
                · have e4 : u 4 = .func (.func g) #[] #[] := hd 4 (by omega) (by kernel_rfl)
                  have e8 : u 8 = .agg #[.int .i64 u2.stm, .slice u2.xa u2.xl u2.xc, .int .i64 (u2.tm 0), .int .i64 (u2.tm 1), .int .i64 (u2.tm 2), .int .i64 (u2.tm 3), .int .i64 (u2.tm 4), .int .i64 (u2.tm 5), .int .i64 (u2.tm 6), .int .i64 (u2.tm 7), .int .i64 u2.kd, .int .i64 u2.va, .int .i64 u2.pu.arr, .int .i64 u2.pu.pos, .slice u2.ga u2.gl u2.gc] := hd 8 (by omega) (by kernel_rfl)
                  have e9 : u 9 = .agg #[.int .i64 ub.stm, .slice ub.xa ub.xl ub.xc, .int .i64 (ub.tm 0), .int .i64 (ub.tm 1), .int .i64 (ub.tm 2), .int .i64 (ub.tm 3), .int .i64 (ub.tm 4), .int .i64 (ub.tm 5), .int .i64 (ub.tm 6), .int .i64 (ub.tm 7), .int .i64 ub.kd, .int .i64 ub.va, .int .i64 ub.pu.arr, .int .i64 ub.pu.pos, .slice ub.ga ub.gl ub.gc] := hd 9 (by omega) (by kernel_rfl)
                  rw [e4, e8, e9]
                  go_simp
                  refine (HGX.out wz).mono ?_
                  rintro e w2 ⟨rfl, hb2⟩
                  exact ⟨rfl, hb2, fun h => by cases h⟩
                · have e3 : u 3 = .bool true := hd 3 (by omega) (by kernel_rfl)
                  have e10 : u 10 = .bool x := hd 10 (by omega) (by kernel_rfl)
                  rw [e3, e10]
                  go_simp
                  exact ⟨rfl, Below.refl _ _, fun h => by cases h⟩
              case restT =>
                intro u wz hb hf hp
                have f0 : u 0 = .int .i64 (a : Int) := hf 0 (by omega)
                have f1 : u 1 = .int .i64 (f : Int) := hf 1 (by omega)
                have f2 : u 2 = .bool true := hf 2 (by omega)
                have f3 : u 3 = .bool true := hf 3 (by omega)
                have f4 : u 4 = .func (.func g) #[] #[] := hf 4 (by omega)
                have f5 : u 5 = .slice (some ⟨b, off, none⟩) n ac := hf 5 (by omega)
                have f6 : u 6 = .int .i64 (a : Int) := hf 6 (by omega)
                have f7 : u 7 = .pointer (some ⟨b, off + a * 15, none⟩) := hf 7 (by omega)
                have f8 : u 8 = .agg #[.int .i64 u2.stm, .slice u2.xa u2.xl u2.xc, .int .i64 (u2.tm 0), .int .i64 (u2.tm 1), .int .i64 (u2.tm 2), .int .i64 (u2.tm 3), .int .i64 (u2.tm 4), .int .i64 (u2.tm 5), .int .i64 (u2.tm 6), .int .i64 (u2.tm 7), .int .i64 u2.kd, .int .i64 u2.va, .int .i64 u2.pu.arr, .int .i64 u2.pu.pos, .slice u2.ga u2.gl u2.gc] := hf 8 (by omega)
                have f9 : u 9 = .agg #[.int .i64 ub.stm, .slice ub.xa ub.xl ub.xc, .int .i64 (ub.tm 0), .int .i64 (ub.tm 1), .int .i64 (ub.tm 2), .int .i64 (ub.tm 3), .int .i64 (ub.tm 4), .int .i64 (ub.tm 5), .int .i64 (ub.tm 6), .int .i64 (ub.tm 7), .int .i64 ub.kd, .int .i64 ub.va, .int .i64 ub.pu.arr, .int .i64 ub.pu.pos, .slice ub.ga ub.gl ub.gc] := hf 9 (by omega)
                have f10 : u 10 = .bool x := hf 10 (by omega)
                have f11 : u 11 = .bool x := hf 11 (by omega)
                refine UptoW.rest 0 12 (by rfl) (by kernel_rfl) ?_
                simp only [List.take, List.drop, putOps, Act.put, List.setIfInBounds_toArray, List.set_cons_zero, List.set_cons_succ, Nat.reduceAdd, f0, f1, f2, f3, f4, f5, f6, f7, f8, f9, f10, f11]
                clear f0 f1 f2 f3 f4 f5 f6 f7 f8 f9 f10 f11 hf hp
                have HBZ := hide (bl_on HBQ.out hb)
                clear hb
                cases x with
                | true =>
                  have HST2 := HST.out
                  rw [if_pos ⟨haf, HX.out.symm⟩] at HST2
                  go_wp2_with fail
                  refine ⟨⟨i + 1, a, by omega, rfl, rfl, HST2, HBZ.out⟩, by simp [intOf]; omega⟩
                | false =>
                  have HST2 := HST.out
                  rw [if_neg (fun h => by have := h.2; rw [← HX.out] at this; cases this)] at HST2
                  go_wp2_with fail
                  refine ⟨⟨i + 1, f, by omega, rfl, rfl, HST2, HBZ.out⟩, by simp [intOf]; omega⟩
            · have hafz : ¬ (a : Int) < (f : Int) := by omega
              have hafd : decide ((a : Int) < (f : Int)) = false := decide_eq_false hafz
              refine region_madeG 12 12 [fIs (.int .i64 (a : Int)), fIs (.int .i64 (f : Int)), fIs (.bool false), fIs (.bool false), fIs undef, fIs undef, fIs undef, fIs undef, fIs undef, fIs undef, fIs undef, fIs (.bool false)] [none, none, none, some false, none, none, none, none, none, none, none, none] [true, true, true, true, false, false, false, false, false, false, false, true] (by kernel_rfl) (by kernel_rfl) (by kernel_rfl) (fun ch p q w3 e h => by obtain ⟨t1, d1⟩ := p; obtain ⟨t2, d2⟩ := q; cases e; exact h) ⟨fIs_good _, fIs_good _, fIs_good _, fIs_good _, fIs_good _, fIs_good _, fIs_good _, fIs_good _, fIs_good _, fIs_good _, fIs_good _, fIs_good _, trivial⟩ ⟨fun _ _ h => h, rfl⟩ ?mkU ?restU
              case mkU =>
                refine ⟨fun u wz hb hd => ?_, fun u wz hb hd => ?_, fun u wz hb hd => ?_, fun u wz hb hd => ?_, ⟨fun _ => rfl, rfl⟩, ⟨fun _ => rfl, rfl⟩, ⟨fun _ => rfl, rfl⟩, ⟨fun _ => rfl, rfl⟩, ⟨fun _ => rfl, rfl⟩, ⟨fun _ => rfl, rfl⟩, ⟨fun _ => rfl, rfl⟩, fun u wz hb hd => ?_, trivial⟩
                all_goals simp only [Act.put, List.setIfInBounds_toArray, List.set_cons_zero, List.set_cons_succ]
                · go_simp
                  exact ⟨rfl, Below.refl _ _, fun h => by cases h⟩
                · go_simp
                  exact ⟨rfl, Below.refl _ _, fun h => by cases h⟩
                · have e0 : u 0 = .int .i64 (a : Int) := hd 0 (by omega) (by kernel_rfl)
                  have e1 : u 1 = .int .i64 (f : Int) := hd 1 (by omega) (by kernel_rfl)
                  rw [e0, e1]
                  go_simp
                  exact ⟨rfl, Below.refl _ _, fun h => by cases h⟩
                · have e2 : u 2 = .bool false := hd 2 (by omega) (by kernel_rfl)
                  rw [e2]
                  go_simp
                  exact ⟨rfl, Below.refl _ _, fun h => by cases h⟩
                · have e3 : u 3 = .bool false := hd 3 (by omega) (by kernel_rfl)
                  rw [e3]
                  go_simp
                  exact ⟨rfl, Below.refl _ _, fun h => by cases h⟩
              case restU =>
                intro u wz hb hf hp
                have f0 : u 0 = .int .i64 (a : Int) := hf 0 (by omega)
                have f1 : u 1 = .int .i64 (f : Int) := hf 1 (by omega)
                have f2 : u 2 = .bool false := hf 2 (by omega)
                have f3 : u 3 = .bool false := hf 3 (by omega)
                have f4 : u 4 = undef := hf 4 (by omega)
                have f5 : u 5 = undef := hf 5 (by omega)
                have f6 : u 6 = undef := hf 6 (by omega)
                have f7 : u 7 = undef := hf 7 (by omega)
                have f8 : u 8 = undef := hf 8 (by omega)
                have f9 : u 9 = undef := hf 9 (by omega)
                have f10 : u 10 = undef := hf 10 (by omega)
                have f11 : u 11 = .bool false := hf 11 (by omega)
                refine UptoW.rest 0 12 (by rfl) (by kernel_rfl) ?_
                simp only [List.take, List.drop, putOps, Act.put, List.setIfInBounds_toArray, List.set_cons_zero, List.set_cons_succ, Nat.reduceAdd, f0, f1, f2, f3, f4, f5, f6, f7, f8, f9, f10, f11]
                clear f0 f1 f2 f3 f4 f5 f6 f7 f8 f9 f10 f11 hf hp
                have HBZ := hide (bl_on HBQ.out hb)
                clear hb
                have HST2 := HST.out
                rw [if_neg (fun h => haf h.1)] at HST2
                go_wp2_with fail
                refine ⟨⟨i + 1, f, by omega, rfl, rfl, HST2, HBZ.out⟩, by simp [intOf]; omega⟩
          · have e9 : i = al.length := by omega
            subst e9
            have HFN : Hid ((f < k → FirstAt (badA am zs ss T) l f k) ∧ (¬ f < k → NoneTo (badA am zs ss T) l (k + 1))) := by
              have h9 := HFI.out
              rw [HAL.out] at h9
              exact first_none (nestE_ok HOK.out.ord.nest) HL1.out (by rw [← HN.out]; exact hlt) (by rw [← HSF.out k, ← HTG.out.put]; exact hpos) Sf HSF.out (fun a => (us a).kd) HKD.out HNO.out h9 (Nat.le_refl _)
            have HBW1 := hide (bl_on HB13.out HBQ.out)
            by_cases hfk2 : f < k
            · have hfz : (f : Int) < (k : Int) := by omega
              go_wp2_with fail
              obtain ⟨b2, off2, hb2, hc⟩ := (HAT.out.below HBW1.out) f (by omega)
              simp only [Option.some.injEq, Addr.mk.injEq, and_true] at hb2
              obtain ⟨e1, e2⟩ := hb2
              rw [← e1, ← e2] at hc
              have HG2 := hide ((HLIE.out f (by omega)).below HBW1.out).out
              have HG1 := hide ((HLIE.out k hlt).below HBW1.out).out
              obtain ⟨u2, hu2⟩ : ∃ u2, u2 = us f := ⟨_, rfl⟩
              rw [← hu2] at hc HG2
              rw [← HU.out] at HG1
              have c0 : wr.cell? ⟨b, off + f * 15, none⟩ = some (.int .i64 u2.stm) := hc 0 (by omega)
              have c1 : wr.cell? ⟨b, off + f * 15 + 1, none⟩ = some (.slice u2.xa u2.xl u2.xc) := hc 1 (by omega)
              have cz0 := lt_of_cell c0
              obtain ⟨d0, d1, _, _, _, _, _, _, _, _, _, _, _, _, _⟩ := (HBK3.out.below HBQ.out).cells
              have dz := (HBK3.out.below HBQ.out).lt
              clear hc e1 e2 hu2
              have hfn : f < n := by omega
              refine region_made 8 10 [fIs (.slice (some ⟨b, off, none⟩) n ac), fIs (.int .i64 (f : Int)), fIs (.pointer (some ⟨b, off + f * 15, none⟩)), fIs (.pointer (some ⟨b, off + f * 15, none⟩)), fIs (.agg #[.int .i64 u2.stm, .slice u2.xa u2.xl u2.xc]), fIs (.pointer (some ⟨B8, 0, none⟩)), fIs (.agg #[.int .i64 ub.stm, .slice ub.xa ub.xl ub.xc]), fIs (.agg #[.bool true, .int .i64 u2.stm, .slice u2.xa u2.xl u2.xc, .int .i64 ub.stm, .slice ub.xa ub.xl ub.xc])] (by kernel_rfl) (by kernel_rfl) (by kernel_rfl) (fun ch p q w3 e h => by obtain ⟨t1, d1⟩ := p; obtain ⟨t2, d2⟩ := q; cases e; exact h) ⟨fIs_good _, fIs_good _, fIs_good _, fIs_good _, fIs_good _, fIs_good _, fIs_good _, fIs_good _, trivial⟩ ?mkV ?restV
              case mkV =>
                refine ⟨fun u wz hb hd => ?_, fun u wz hb hd => ?_, fun u wz hb hd => ?_, fun u wz hb hd => ?_, fun u wz hb hd => ?_, fun u wz hb hd => ?_, fun u wz hb hd => ?_, fun u wz hb hd => ?_, trivial⟩
                all_goals simp only [Act.put, List.setIfInBounds_toArray, List.set_cons_zero, List.set_cons_succ]
                · go_simp
                  exact ⟨rfl, Below.refl _ _, fun h => by cases h⟩
                · go_simp
                  exact ⟨rfl, Below.refl _ _, fun h => by cases h⟩
                · have e0 : u 0 = .slice (some ⟨b, off, none⟩) n ac := hd 0 (by omega) (by kernel_rfl)
                  have e1 : u 1 = .int .i64 (f : Int) := hd 1 (by omega) (by kernel_rfl)
                  rw [e0, e1]
                  go_simp
                  exact ⟨rfl, Below.refl _ _, fun h => by cases h⟩
                · have e2 : u 2 = .pointer (some ⟨b, off + f * 15, none⟩) := hd 2 (by omega) (by kernel_rfl)
                  rw [e2]
                  go_simp
                  exact ⟨rfl, Below.refl _ _, fun h => by cases h⟩
                · have e3 : u 3 = .pointer (some ⟨b, off + f * 15, none⟩) := hd 3 (by omega) (by kernel_rfl)
                  rw [e3]
                  have c0' := (hb.cell (p := ⟨b, off + f * 15, none⟩) (lt_of_cell c0)).trans c0
                  have c1' := (hb.cell (p := ⟨b, off + f * 15 + 1, none⟩) (lt_of_cell c1)).trans c1
                  go_simp
                  exact ⟨rfl, Below.refl _ _, fun h => by cases h⟩
                · go_simp
                  exact ⟨rfl, Below.refl _ _, fun h => by cases h⟩
                · have e5 : u 5 = .pointer (some ⟨B8, 0, none⟩) := hd 5 (by omega) (by kernel_rfl)
                  rw [e5]
                  have d0' := (hb.cell (p := ⟨B8, 0, none⟩) (lt_of_cell d0)).trans d0
                  have d1' := (hb.cell (p := ⟨B8, 1, none⟩) (lt_of_cell d1)).trans d1
                  go_simp
                  exact ⟨rfl, Below.refl _ _, fun h => by cases h⟩
                · have e4 : u 4 = .agg #[.int .i64 u2.stm, .slice u2.xa u2.xl u2.xc] := hd 4 (by omega) (by kernel_rfl)
                  have e6 : u 6 = .agg #[.int .i64 ub.stm, .slice ub.xa ub.xl ub.xc] := hd 6 (by omega) (by kernel_rfl)
                  rw [e4, e6]
                  go_simp
                  exact ⟨rfl, Below.refl _ _, fun h => by cases h⟩
              case restV =>
                intro u wz hb hf hp
                have f0 : u 0 = .slice (some ⟨b, off, none⟩) n ac := hf 0 (by omega)
                have f1 : u 1 = .int .i64 (f : Int) := hf 1 (by omega)
                have f2 : u 2 = .pointer (some ⟨b, off + f * 15, none⟩) := hf 2 (by omega)
                have f3 : u 3 = .pointer (some ⟨b, off + f * 15, none⟩) := hf 3 (by omega)
                have f4 : u 4 = .agg #[.int .i64 u2.stm, .slice u2.xa u2.xl u2.xc] := hf 4 (by omega)
                have f5 : u 5 = .pointer (some ⟨B8, 0, none⟩) := hf 5 (by omega)
                have f6 : u 6 = .agg #[.int .i64 ub.stm, .slice ub.xa ub.xl ub.xc] := hf 6 (by omega)
                have f7 : u 7 = .agg #[.bool true, .int .i64 u2.stm, .slice u2.xa u2.xl u2.xc, .int .i64 ub.stm, .slice ub.xa ub.xl ub.xc] := hf 7 (by omega)
                refine UptoW.rest 2 8 (by rfl) (by kernel_rfl) ?_
                simp only [List.take, List.drop, putOps, Act.put, List.setIfInBounds_toArray, List.set_cons_zero, List.set_cons_succ, Nat.reduceAdd, f0, f1, f2, f3, f4, f5, f6, f7]
                clear f0 f1 f2 f3 f4 f5 f6 f7 hf hp
                have HBZ := hide (bl_on HBW1.out hb)
                have HG2z := hide HG2.out
                have F2 := (HBZ.out.block _ (Array.getElem?_eq_some_iff.1 HF2.out).1).trans HF2.out
                have RW5 := row5 (five (.bool false) (.int .i64 0) (.slice none 0 0) (.int .i64 0) (.slice none 0 0)) (F2)
                have f0 := RW5.cell (i := 0) (by omega)
                have g0 := RW5.frozen 0
                have f1 := RW5.cell (i := 1) (by omega)
                have g1 := RW5.frozen 1
                have f2 := RW5.cell (i := 2) (by omega)
                have g2 := RW5.frozen 2
                have f3 := RW5.cell (i := 3) (by omega)
                have g3 := RW5.frozen 3
                have f4 := RW5.cell (i := 4) (by omega)
                have g4 := RW5.frozen 4
                simp only [five] at f0 f1 f2 f3 f4
                clear RW5
                have zf := (Array.getElem?_eq_some_iff.1 F2).1
                have HF3 := hide F2
                have HI1 := hide (HG1.out.pt.1.below hb)
                have HN1 : Hid (NumT wz ub.xa) := fun b9 o9 h9 => by
                  obtain ⟨cur, fz, h8⟩ := HG1.out.num b9 o9 h9
                  exact ⟨cur, fz, (hb.block b9 (Array.getElem?_eq_some_iff.1 h8).1).trans h8⟩
                have HI2 := hide (HG2.out.pt.1.below hb)
                have HN2 : Hid (NumT wz u2.xa) := fun b9 o9 h9 => by
                  obtain ⟨cur, fz, h8⟩ := HG2.out.num b9 o9 h9
                  exact ⟨cur, fz, (hb.block b9 (Array.getElem?_eq_some_iff.1 h8).1).trans h8⟩
                clear F2 hb c0 c1 cz0 d0 d1 dz
                go_wp2_with fail
                have RF := set5 (row5 (five (.bool false) (.int .i64 0) (.slice none 0 0) (.int .i64 0) (.slice none 0 0)) HF3.out) (five (.bool true) (.int .i64 u2.stm) (.slice u2.xa u2.xl u2.xc) (.int .i64 ub.stm) (.slice ub.xa ub.xl ub.xc))
                have BF := below5 (bl_on HB1.out HBZ.out) (b := w.heap.size + 1) (by omega) (five (.bool true) (.int .i64 u2.stm) (.slice u2.xa u2.xl u2.xc) (.int .i64 ub.stm) (.slice ub.xa ub.xl ub.xc))
                have i1 := ints_set5 HI2.out (HN2.out.ne HF3.out (by decide)) (five (.bool true) (.int .i64 u2.stm) (.slice u2.xa u2.xl u2.xc) (.int .i64 ub.stm) (.slice ub.xa ub.xl ub.xc))
                have i2 := HN2.out.set5 (HN2.out.ne HF3.out (by decide)) (five (.bool true) (.int .i64 u2.stm) (.slice u2.xa u2.xl u2.xc) (.int .i64 ub.stm) (.slice ub.xa ub.xl ub.xc))
                have i3 := ints_set5 HI1.out (HN1.out.ne HF3.out (by decide)) (five (.bool true) (.int .i64 u2.stm) (.slice u2.xa u2.xl u2.xc) (.int .i64 ub.stm) (.slice ub.xa ub.xl ub.xc))
                have i4 := HN1.out.set5 (HN1.out.ne HF3.out (by decide)) (five (.bool true) (.int .i64 u2.stm) (.slice u2.xa u2.xl u2.xc) (.int .i64 ub.stm) (.slice ub.xa ub.xl ub.xc))
                have hput : ((((wz.setCell ⟨w.heap.size + 1, 0, none⟩ (.bool true)).setCell ⟨w.heap.size + 1, 1, none⟩ (.int .i64 u2.stm)).setCell ⟨w.heap.size + 1, 2, none⟩ (.slice u2.xa u2.xl u2.xc)).setCell ⟨w.heap.size + 1, 3, none⟩ (.int .i64 ub.stm)).setCell ⟨w.heap.size + 1, 4, none⟩ (.slice ub.xa ub.xl ub.xc) = put5 wz (w.heap.size + 1) (five (.bool true) (.int .i64 u2.stm) (.slice u2.xa u2.xl u2.xc) (.int .i64 ub.stm) (.slice ub.xa ub.xl ub.xc)) := rfl
                rw [hput]
                clear hput
                generalize put5 wz (w.heap.size + 1) (five (.bool true) (.int .i64 u2.stm) (.slice u2.xa u2.xl u2.xc) (.int .i64 ub.stm) (.slice ub.xa ub.xl ub.xc)) = wf at RF BF i1 i2 i3 i4 ⊢
                have k0 := RF.cell (i := 0) (by omega)
                have k1 := RF.cell (i := 1) (by omega)
                have k2 := RF.cell (i := 2) (by omega)
                have k3 := RF.cell (i := 3) (by omega)
                have k4 := RF.cell (i := 4) (by omega)
                simp only [five] at k0 k1 k2 k3 k4
                have s1 := HG2.out.stm
                have s2 := HG1.out.stm
                rw [HSF.out f] at i1 s1
                rw [HSF.out k] at i3 s2
                refine bodyPost_ret (v := .tuple #[.agg #[.bool true, .int .i64 u2.stm, .slice u2.xa u2.xl u2.xc, .int .i64 ub.stm, .slice ub.xa ub.xl ub.xc], .int .i64 0]) (by simp [results, Try.results29, go_sem, k0, k1, k2, k3, k4]) rfl ⟨⟨.agg #[.bool true, .int .i64 u2.stm, .slice u2.xa u2.xl u2.xc, .int .i64 ub.stm, .slice ub.xa ub.xl ub.xc], rfl, .inr ⟨f, k, u2.xa, u2.xl, u2.xc, ub.xa, ub.xl, ub.xc, HFN.out.1 hfk2, by rw [s1, s2]; rfl, ⟨i1, i2⟩, ⟨i3, i4⟩⟩⟩, BF⟩
            · have hfz : ¬ (f : Int) < (k : Int) := by omega
              obtain ⟨d0, d1, d2, d3, d4, d5, d6, d7, d8, d9, d10, d11, d12, d13, d14⟩ := (HBK3.out.below HBQ.out).cells
              have dz := (HBK3.out.below HBQ.out).lt
              have HMK := hide (mark_any w1.heap.size M (touchL Sf k) k ub (Sf k).gets wr (HT3.out.below HBQ.out) (fun W hW => by have := ((HLIE.out k hlt).below (HBW1.out.trans hW)).out.gets; rw [← HU.out] at this; exact this) (fun p s => by have := touch_len Sf 3 HG3.out p s k; omega) (by have := HIN8.out.1; have := HG3.out k; omega))
              unfold TW.v TW.cs iv at HMK
              go_wp2_with fail
              refine HMK.out.mono ?_
              rintro e w9 ⟨⟨rfl, M9, hT9⟩, hb9⟩
              have HT9 := hide hT9
              have HB9 := hide hb9
              clear hT9 hb9 d0 d1 d2 d3 d4 d5 d6 d7 d8 d9 d10 d11 d12 d13 d14 dz HMK
              go_wp2_with fail
              have e9 : touchL Sf (k + 1) = markL (touchL Sf k) k ub.pu (Sf k).gets := by
                show (if (Sf k).put.pos = -1 then touchL Sf k else markL (touchL Sf k) k (Sf k).put (Sf k).gets) = _
                rw [if_neg (by rw [← HTG.out.put]; exact hpos), HTG.out.put]
              go_roundw
              case rel => exact ⟨k + 1, by omega, by go_num, ⟨M9, by rw [e9]; exact HT9.out⟩, HBW1.out.trans HB9.out, HFN.out.2 hfk2⟩
              case measure => simp [intOf]; omega
    · skip
      have HLN : Hid (k = l.length) := by rw [Hid, ← HN.out]; omega
      have e1 : k = n := by omega
      subst e1
      have F2 := (HB.out.block _ (Array.getElem?_eq_some_iff.1 HF2.out).1).trans HF2.out
      have RW5 := row5 (five (.bool false) (.int .i64 0) (.slice none 0 0) (.int .i64 0) (.slice none 0 0)) (F2)
      have f0 := RW5.cell (i := 0) (by omega)
      have g0 := RW5.frozen 0
      have f1 := RW5.cell (i := 1) (by omega)
      have g1 := RW5.frozen 1
      have f2 := RW5.cell (i := 2) (by omega)
      have g2 := RW5.frozen 2
      have f3 := RW5.cell (i := 3) (by omega)
      have g3 := RW5.frozen 3
      have f4 := RW5.cell (i := 4) (by omega)
      have g4 := RW5.frozen 4
      simp only [five] at f0 f1 f2 f3 f4
      clear RW5
      have zf := (Array.getElem?_eq_some_iff.1 F2).1
      have HF3 := hide F2
      clear F2
      go_wp2_with fail
      have RF := set5 (row5 (five (.bool false) (.int .i64 0) (.slice none 0 0) (.int .i64 0) (.slice none 0 0)) HF3.out) (five (.bool false) (.int .i64 0) (.slice none 0 0) (.int .i64 0) (.slice none 0 0))
      have BF := below5 (bl_on HB1.out HB.out) (b := w.heap.size + 1) (by omega) (five (.bool false) (.int .i64 0) (.slice none 0 0) (.int .i64 0) (.slice none 0 0))
      have hput : ((((wr.setCell ⟨w.heap.size + 1, 0, none⟩ (.bool false)).setCell ⟨w.heap.size + 1, 1, none⟩ (.int .i64 0)).setCell ⟨w.heap.size + 1, 2, none⟩ (.slice none 0 0)).setCell ⟨w.heap.size + 1, 3, none⟩ (.int .i64 0)).setCell ⟨w.heap.size + 1, 4, none⟩ (.slice none 0 0) = put5 wr (w.heap.size + 1) (five (.bool false) (.int .i64 0) (.slice none 0 0) (.int .i64 0) (.slice none 0 0)) := rfl
      rw [hput]
      clear hput
      generalize put5 wr (w.heap.size + 1) (five (.bool false) (.int .i64 0) (.slice none 0 0) (.int .i64 0) (.slice none 0 0)) = wf at RF BF ⊢
      have k0 := RF.cell (i := 0) (by omega)
      have k1 := RF.cell (i := 1) (by omega)
      have k2 := RF.cell (i := 2) (by omega)
      have k3 := RF.cell (i := 3) (by omega)
      have k4 := RF.cell (i := 4) (by omega)
      simp only [five] at k0 k1 k2 k3 k4
      rw [HLN.out] at HNO
      refine bodyPost_ret (v := .tuple #[zeroF, .int .i64 0]) (by simp [results, Try.results29, go_sem, zeroF, k0, k1, k2, k3, k4]) rfl ⟨⟨zeroF, rfl, .inl ⟨HNO.out, rfl⟩⟩, BF⟩
end Go.Proofs.Ytoidgdbgpbcebaa.V
namespace Go.Proofs.Ytoidgdbgpbcebaa.V
open Go Go.RowKit
set_option linter.unusedVariables false

theorem badA_eq (zs : List Int) (ss : List Stm) (T : Tms) (al : Bool) : badA (fun f g => if al = true then eq8 f g else befB g f) zs ss T = badP (memZ zs) ss T al := by
  funext a b
  rfl
theorem look_any (al : Bool) (g : Nat) (eg : ∀ args w, (callFunc g args).run Try.prog w = .ok (.enter g args) w) (hg : ∀ (u v : TW) (W : World), Calls Try.prog g #[u.v, v.v] W fun e W' => e = .returned (.bool (if al = true then eq8 u.tm v.tm else befB v.tm u.tm)) ∧ Below W.heap.size W W')
    (za : Option Addr) (zl zc : Nat) (zs : List Int) (ta : Option Addr) (tl tc : Nat) (ss : List Stm) (ma : Option Addr) (ml mc : Nat) (T : Tms) (w : World) (hz : Ints w za zl zs) (hs : Stms w ta tl ss) (hT : TimesA w ma ml T) :
    Calls Try.prog 29 #[.agg #[.slice za zl zc, .slice ta tl tc], .slice ma ml mc, .func (.func g) #[] #[]] w fun e w' => (∃ v, e = .returned (.tuple #[v, .int .i64 (rightE zs ss T)]) ∧ FindV zs ss T al w' v) ∧ Below w.heap.size w w' := by
  by_cases hE : rightE zs ss T = 0
  · refine (look_good (fun f g => if al = true then eq8 f g else befB g f) g eg hg za zl zc zs ta tl tc ss ma ml mc T w hz hs hT hE).mono ?_
    rintro e w' ⟨⟨v, rfl, h⟩, hb⟩
    rw [badA_eq] at h
    exact ⟨⟨v, by rw [hE], .inr ⟨hE, h⟩⟩, hb⟩
  · refine (look_bad za zl zc zs ta tl tc ss ma ml mc T _ w hz hs hT hE).mono ?_
    rintro e w' ⟨rfl, hb⟩
    exact ⟨⟨_, rfl, .inl ⟨hE, rfl⟩⟩, hb⟩
set_option maxRecDepth 100000 in
set_option maxHeartbeats 2000000 in
theorem oLegal_any (za : Option Addr) (zl zc : Nat) (zs : List Int) (ta : Option Addr) (tl tc : Nat) (ss : List Stm) (ma : Option Addr) (ml mc : Nat) (T : Tms) (w : World) (hz : Ints w za zl zs) (hs : Stms w ta tl ss) (hT : TimesA w ma ml T) :
    Calls Try.prog 12 #[.agg #[.slice za zl zc, .slice ta tl tc], .slice ma ml mc] w fun e w' => (∃ v, e = .returned (.tuple #[v, .int .i64 (rightE zs ss T)]) ∧ FindV zs ss T false w' v) ∧ Below w.heap.size w w' := by
  obtain ⟨W, hW⟩ : ∃ W, W = (w.alloc (.cells #[.slice za zl zc, .slice ta tl tc] 25)).alloc (.cells #[.bool false, .int .i64 0, .slice none 0 0, .int .i64 0, .slice none 0 0] 38) := ⟨_, rfl⟩
  have BW : Below w.heap.size w W := by rw [hW]; exact bl_on (bl_new _) (bl_new _)
  have N1 : NsBlk W w.heap.size za zl zc ta tl tc := by rw [hW]; exact (Below.heap_alloc _ _ _ (by simp)).trans (World.alloc_heap_new w _)
  have F1 : W.heap[w.heap.size + 1]? = some (.cells #[.bool false, .int .i64 0, .slice none 0 0, .int .i64 0, .slice none 0 0] 38 (0, 0)) := by
    rw [hW]
    have := World.alloc_heap_new (w.alloc (.cells #[.slice za zl zc, .slice ta tl tc] 25)) (.cells #[.bool false, .int .i64 0, .slice none 0 0, .int .i64 0, .slice none 0 0] 38)
    rw [World.size_alloc] at this
    exact this
  obtain ⟨n0, n1⟩ := N1.cells
  have zn := N1.lt
  have HC := hide (look_any false 30 (enters_of Try.func30 (by kernel_rfl) rfl) (fun u v W => legal1_any u v W) za zl zc zs ta tl tc ss ma ml mc T W (hz.below BW) (hs.below BW) (hT.below BW))
  have HW := hide hW
  have HBW := hide BW
  have HF := hide F1
  clear hz hs hT hW BW F1 N1
  go_enter Try.func12, Try.ntmps12
  go_wp2_with fail
  rw [← HW.out]
  refine HC.out.mono ?_
  rintro e w1 ⟨⟨v, rfl, hv⟩, hb⟩
  have HB1 := hide (bl_on HBW.out hb)
  have F2 := (hb.block _ (Array.getElem?_eq_some_iff.1 HF.out).1).trans HF.out
  obtain ⟨x, i, a, l, c, i2, a2, l2, c2, rfl, hv2⟩ := hv.put F2
  have RW5 := row5 (five (.bool false) (.int .i64 0) (.slice none 0 0) (.int .i64 0) (.slice none 0 0)) F2
  have HRW := hide RW5
  have HV2 := hide hv2
  have f0 := RW5.cell (i := 0) (by omega)
  have g0 := RW5.frozen 0
  have f1 := RW5.cell (i := 1) (by omega)
  have g1 := RW5.frozen 1
  have f2 := RW5.cell (i := 2) (by omega)
  have g2 := RW5.frozen 2
  have f3 := RW5.cell (i := 3) (by omega)
  have g3 := RW5.frozen 3
  have f4 := RW5.cell (i := 4) (by omega)
  have g4 := RW5.frozen 4
  simp only [five] at f0 f1 f2 f3 f4
  have zf := (Array.getElem?_eq_some_iff.1 F2).1
  clear hb n0 n1 zn F2 hv hv2 RW5
  go_wp2_with fail
  have RF := set5 HRW.out (five (.bool x) (.int .i64 i) (.slice a l c) (.int .i64 i2) (.slice a2 l2 c2))
  have BF := below5 HB1.out (b := w.heap.size + 1) (by omega) (five (.bool x) (.int .i64 i) (.slice a l c) (.int .i64 i2) (.slice a2 l2 c2))
  have VF := HV2.out
  have hput : ((((w1.setCell ⟨w.heap.size + 1, 0, none⟩ (.bool x)).setCell ⟨w.heap.size + 1, 1, none⟩ (.int .i64 i)).setCell ⟨w.heap.size + 1, 2, none⟩ (.slice a l c)).setCell ⟨w.heap.size + 1, 3, none⟩ (.int .i64 i2)).setCell ⟨w.heap.size + 1, 4, none⟩ (.slice a2 l2 c2) = put5 w1 (w.heap.size + 1) (five (.bool x) (.int .i64 i) (.slice a l c) (.int .i64 i2) (.slice a2 l2 c2)) := rfl
  rw [hput]
  clear hput HV2 HRW
  generalize put5 w1 (w.heap.size + 1) (five (.bool x) (.int .i64 i) (.slice a l c) (.int .i64 i2) (.slice a2 l2 c2)) = wf at RF BF VF ⊢
  have k0 := RF.cell (i := 0) (by omega)
  have k1 := RF.cell (i := 1) (by omega)
  have k2 := RF.cell (i := 2) (by omega)
  have k3 := RF.cell (i := 3) (by omega)
  have k4 := RF.cell (i := 4) (by omega)
  simp only [five] at k0 k1 k2 k3 k4
  exact bodyPost_ret (v := .tuple #[.agg #[.bool x, .int .i64 i, .slice a l c, .int .i64 i2, .slice a2 l2 c2], .int .i64 (rightE zs ss T)]) (by simp [results, Try.results12, go_sem, k0, k1, k2, k3, k4]) rfl ⟨⟨_, rfl, VF⟩, BF⟩
set_option maxRecDepth 100000 in
set_option maxHeartbeats 2000000 in
theorem oFree_any (za : Option Addr) (zl zc : Nat) (zs : List Int) (ta : Option Addr) (tl tc : Nat) (ss : List Stm) (ma : Option Addr) (ml mc : Nat) (T : Tms) (w : World) (hz : Ints w za zl zs) (hs : Stms w ta tl ss) (hT : TimesA w ma ml T) :
    Calls Try.prog 14 #[.agg #[.slice za zl zc, .slice ta tl tc], .slice ma ml mc] w fun e w' => (∃ v, e = .returned (.tuple #[v, .int .i64 (rightE zs ss T)]) ∧ FindV zs ss T true w' v) ∧ Below w.heap.size w w' := by
  obtain ⟨W, hW⟩ : ∃ W, W = (w.alloc (.cells #[.slice za zl zc, .slice ta tl tc] 25)).alloc (.cells #[.bool false, .int .i64 0, .slice none 0 0, .int .i64 0, .slice none 0 0] 38) := ⟨_, rfl⟩
  have BW : Below w.heap.size w W := by rw [hW]; exact bl_on (bl_new _) (bl_new _)
  have N1 : NsBlk W w.heap.size za zl zc ta tl tc := by rw [hW]; exact (Below.heap_alloc _ _ _ (by simp)).trans (World.alloc_heap_new w _)
  have F1 : W.heap[w.heap.size + 1]? = some (.cells #[.bool false, .int .i64 0, .slice none 0 0, .int .i64 0, .slice none 0 0] 38 (0, 0)) := by
    rw [hW]
    have := World.alloc_heap_new (w.alloc (.cells #[.slice za zl zc, .slice ta tl tc] 25)) (.cells #[.bool false, .int .i64 0, .slice none 0 0, .int .i64 0, .slice none 0 0] 38)
    rw [World.size_alloc] at this
    exact this
  obtain ⟨n0, n1⟩ := N1.cells
  have zn := N1.lt
  have HC := hide (look_any true 37 (enters_of Try.func37 (by kernel_rfl) rfl) (fun u v W => by have := free1_any u v W; rw [cmpT_zero] at this; exact this) za zl zc zs ta tl tc ss ma ml mc T W (hz.below BW) (hs.below BW) (hT.below BW))
  have HW := hide hW
  have HBW := hide BW
  have HF := hide F1
  clear hz hs hT hW BW F1 N1
  go_enter Try.func14, Try.ntmps14
  go_wp2_with fail
  rw [← HW.out]
  refine HC.out.mono ?_
  rintro e w1 ⟨⟨v, rfl, hv⟩, hb⟩
  have HB1 := hide (bl_on HBW.out hb)
  have F2 := (hb.block _ (Array.getElem?_eq_some_iff.1 HF.out).1).trans HF.out
  obtain ⟨x, i, a, l, c, i2, a2, l2, c2, rfl, hv2⟩ := hv.put F2
  have RW5 := row5 (five (.bool false) (.int .i64 0) (.slice none 0 0) (.int .i64 0) (.slice none 0 0)) F2
  have HRW := hide RW5
  have HV2 := hide hv2
  have f0 := RW5.cell (i := 0) (by omega)
  have g0 := RW5.frozen 0
  have f1 := RW5.cell (i := 1) (by omega)
  have g1 := RW5.frozen 1
  have f2 := RW5.cell (i := 2) (by omega)
  have g2 := RW5.frozen 2
  have f3 := RW5.cell (i := 3) (by omega)
  have g3 := RW5.frozen 3
  have f4 := RW5.cell (i := 4) (by omega)
  have g4 := RW5.frozen 4
  simp only [five] at f0 f1 f2 f3 f4
  have zf := (Array.getElem?_eq_some_iff.1 F2).1
  clear hb n0 n1 zn F2 hv hv2 RW5
  go_wp2_with fail
  have RF := set5 HRW.out (five (.bool x) (.int .i64 i) (.slice a l c) (.int .i64 i2) (.slice a2 l2 c2))
  have BF := below5 HB1.out (b := w.heap.size + 1) (by omega) (five (.bool x) (.int .i64 i) (.slice a l c) (.int .i64 i2) (.slice a2 l2 c2))
  have VF := HV2.out
  have hput : ((((w1.setCell ⟨w.heap.size + 1, 0, none⟩ (.bool x)).setCell ⟨w.heap.size + 1, 1, none⟩ (.int .i64 i)).setCell ⟨w.heap.size + 1, 2, none⟩ (.slice a l c)).setCell ⟨w.heap.size + 1, 3, none⟩ (.int .i64 i2)).setCell ⟨w.heap.size + 1, 4, none⟩ (.slice a2 l2 c2) = put5 w1 (w.heap.size + 1) (five (.bool x) (.int .i64 i) (.slice a l c) (.int .i64 i2) (.slice a2 l2 c2)) := rfl
  rw [hput]
  clear hput HV2 HRW
  generalize put5 w1 (w.heap.size + 1) (five (.bool x) (.int .i64 i) (.slice a l c) (.int .i64 i2) (.slice a2 l2 c2)) = wf at RF BF VF ⊢
  have k0 := RF.cell (i := 0) (by omega)
  have k1 := RF.cell (i := 1) (by omega)
  have k2 := RF.cell (i := 2) (by omega)
  have k3 := RF.cell (i := 3) (by omega)
  have k4 := RF.cell (i := 4) (by omega)
  simp only [five] at k0 k1 k2 k3 k4
  exact bodyPost_ret (v := .tuple #[.agg #[.bool x, .int .i64 i, .slice a l c, .int .i64 i2, .slice a2 l2 c2], .int .i64 (rightE zs ss T)]) (by simp [results, Try.results14, go_sem, k0, k1, k2, k3, k4]) rfl ⟨⟨_, rfl, VF⟩, BF⟩
end Go.Proofs.Ytoidgdbgpbcebaa.V
