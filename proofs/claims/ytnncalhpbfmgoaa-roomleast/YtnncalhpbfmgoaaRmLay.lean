/-
  Contract: room.Lay.
-/
import Derived.Test.YtnncalhpbfmgoaaRmLayM
namespace Go.Proofs.Ytnncalhpbfmgoaa.V
open Go Go.Shelf Go.RowKit Go.Lib Go.Sort Go.Proofs
set_option linter.unusedVariables false

theorem takes_any (x : Lf) (w : World) : Calls Try.prog 27 #[.agg #[.int .i64 x.fr, .int .i64 x.to, .int .i64 x.wd]] w fun e w' => e = .returned (.bool (takes x)) ∧ Below w.heap.size w w' := by
  have HB := hide (bl_new (w := w) (.cells #[.int .i64 x.fr, .int .i64 x.to, .int .i64 x.wd] 37))
  by_cases h1 : 0 < x.wd
  · by_cases h2 : x.fr < x.to
    · have e : takes x = true := by simp [takes, h1, h2]
      rw [e]
      go_enter Try.func27, Try.ntmps27
      go_wp2
      go_ret
      exact ⟨by simp, HB.out⟩
    · have e : takes x = false := by simp [takes, h1, h2]
      rw [e]
      go_enter Try.func27, Try.ntmps27
      go_wp2
      go_ret
      exact ⟨by simp <;> omega, HB.out⟩
  · have e : takes x = false := by simp [takes, h1]
    rw [e]
    go_enter Try.func27, Try.ntmps27
    go_wp2
    go_ret
    exact ⟨rfl, HB.out⟩
def layE (ls : List Lf) (os : List Nat) : Int := if livesE ls ≠ 0 then livesE ls else if 1048576 < (layS ls os).en then 5 else 0
def layN (ls : List Lf) (os : List Nat) : Int := if layE ls os = 0 then (layS ls os).en else 0
def layL (ls : List Lf) (os : List Nat) : List Int := if layE ls os = 0 then (layS ls os).at_ else []
/-- All below B is kept but for two blocks. -/
structure Kp (GA SB B : Nat) (W V : World) : Prop where
  os : V.os = W.os
  tape : V.tape = W.tape
  output : V.output = W.output
  size : W.heap.size ≤ V.heap.size
  block : ∀ b, b < B → b ≠ GA → b ≠ SB → V.heap[b]? = W.heap[b]?
theorem Kp.refl (GA SB B : Nat) (W : World) : Kp GA SB B W W := ⟨rfl, rfl, rfl, Nat.le_refl _, fun _ _ _ _ => rfl⟩
theorem Kp.trans {GA SB B : Nat} {W V U : World} (h : Kp GA SB B W V) (k : Kp GA SB B V U) : Kp GA SB B W U := ⟨k.os.trans h.os, k.tape.trans h.tape, k.output.trans h.output, Nat.le_trans h.size k.size, fun b h1 h2 h3 => (k.block b h1 h2 h3).trans (h.block b h1 h2 h3)⟩
theorem Kp.of_shk {GA SB B : Nat} {W V : World} (h : ShK SB B W V) : Kp GA SB B W V := ⟨h.os, h.tape, h.output, h.size, fun b h1 _ h3 => h.block b h1 h3⟩
theorem Kp.of_below {GA SB B : Nat} {W V : World} (h : Below W.heap.size W V) (hB : B ≤ W.heap.size) : Kp GA SB B W V := ⟨h.os, h.tape, h.output, h.size, fun b h1 _ _ => h.block b (by omega)⟩
theorem Kp.of_set {GA SB B : Nat} (W : World) (i : Nat) (v : Value) : Kp GA SB B W (W.setCell ⟨GA, i, none⟩ v) := ⟨rfl, rfl, rfl, by simp, fun b _ h2 _ => Below.heap_setCell _ ⟨GA, i, none⟩ _ b h2⟩
theorem Lives.kp {GA SB B N : Nat} {W V : World} {a : Option Addr} {len : Nat} {ls : List Lf} (h : Lives W a len ls) (hk : Kp GA SB B W V) (hb : ∀ b off, a = some ⟨b, off, none⟩ → 0 < len → b < N) (h1 : N ≤ GA) (h2 : N ≤ SB) (h3 : N ≤ B) : Lives V a len ls := by
  obtain ⟨e1, e2, e3⟩ := h
  refine ⟨e1, e2, ?_⟩
  rcases e3 with e3 | ⟨b, off, e, e3⟩
  · exact .inl e3
  · by_cases h0 : len = 0
    · exact .inl h0
    · have hbn := hb b off e (by omega)
      have hc : ∀ o, V.cell? ⟨b, o, none⟩ = W.cell? ⟨b, o, none⟩ := fun o => World.cell?_of_block (w := W) (w' := V) (a := ⟨b, o, none⟩) (hk.block b (by omega) (by omega) (by omega))
      exact .inr ⟨b, off, e, fun j hj => ⟨(hc _).trans (e3 j hj).1, (hc _).trans (e3 j hj).2.1, (hc _).trans (e3 j hj).2.2⟩⟩
theorem ints_kp {GA SB B g : Nat} {W V : World} {len : Nat} {xs : List Int} (h : Ints W (some ⟨g, 0, none⟩) len xs) (hk : Kp GA SB B W V) (h1 : g < B) (h2 : g ≠ GA) (h3 : g ≠ SB) : Ints V (some ⟨g, 0, none⟩) len xs := by
  obtain ⟨e1, e2, e3, e4⟩ := h
  refine ⟨e1, e2, e3, ?_⟩
  rcases e4 with e4 | ⟨b, off, e, e4⟩
  · exact .inl e4
  · cases e
    exact .inr ⟨g, 0, rfl, fun j hj => (World.cell?_of_block (w := W) (w' := V) (a := ⟨g, 0 + j, none⟩) (hk.block g h1 h2 h3)).trans (e4 j hj)⟩
theorem rowI_shk {sb B g len : Nat} {W V : World} {xs : List Int} (h : RowI W g len xs) (hk : ShK sb B W V) (h1 : g < B) (h2 : g ≠ sb) : RowI V g len xs := h.of_block (hk.block g h1 h2)
theorem rowI_set {g len : Nat} {W : World} {xs : List Int} (h : RowI W g len xs) (k : Nat) (v : Int) (hk : k < len) (hl : xs.length = len) : RowI (W.setCell ⟨g, k, none⟩ (.int .i64 v)) g len (xs.set k v) := by
  refine (World.rowIs.set h k (.int .i64 v)).congr (fun i hi => ?_)
  by_cases e : i = k
  · subst e; simp [hl, hk]
  · rw [if_neg e, List.getElem?_set_ne (by omega)]
theorem shelf_keep {sb B : Nat} {W V : World} {L : List Ld} (h : ShelfAt W sb B L) (hs : V.heap[sb]? = W.heap[sb]?) (hb : ∀ b, B ≤ b → b < W.heap.size → V.heap[b]? = W.heap[b]?) : ShelfAt V sb B L := by
  obtain ⟨v, h1, h2⟩ := h
  exact ⟨v, hs.trans h1, h2.of_block (fun g e => hb g (h2.lt g e).1 (h2.lt g e).2)⟩
theorem shelf_below {sb B : Nat} {W V : World} {L : List Ld} (h : ShelfAt W sb B L) (hb : Below W.heap.size W V) : ShelfAt V sb B L := by
  obtain ⟨v, h1, h2⟩ := h
  exact ⟨v, (hb.block sb (Array.getElem?_eq_some_iff.1 h1).1).trans h1, h2.below hb⟩
set_option maxHeartbeats 4000000 in
set_option maxRecDepth 100000 in
theorem lay_any (a : Option Addr) (len cap : Nat) (ls : List Lf) (w : World) (h : Lives w a len ls) :
    Calls Try.prog 12 #[.slice a len cap] w fun e w' => (∃ os a' l' c', (livesE ls = 0 → Ord ls os) ∧ e = .returned (.tuple #[.slice a' l' c', .int .i64 (layN ls os), .int .i64 (layE ls os)]) ∧ Ints w' a' l' (layL ls os)) ∧ Below w.heap.size w w' := by
  have HL := hide h.1
  have H := hide h
  have HW := hide (rmWrong_any a len cap ls w h)
  clear h
  by_cases hE : livesE ls = 0
  · obtain ⟨hl4, hok⟩ := livesE_ok hE
    have hlen : len ≤ 4096 := by rw [← HL.out]; exact hl4
    have HE := hide hE
    have HO := hide hok
    clear hE hl4 hok
    have hmk := fun (W : World) => run_make_row' (P := Try.prog) 27 3 (.int .i64 0) 8 Try.underlying27 info_int rfl .i64 .i64 len (by omega) (by omega) W
    go_enter Try.func12, Try.ntmps12
    go_wp2_with (first
      | (go_at_call 10; refine HW.out.mono ?_; rintro e w1 ⟨rfl, hb⟩; rw [HE.out]; have HB1 := hide hb; clear hb)
      | fail)
    have hB2 := bl_on (bl_new (w := w1) (.cells (madeCells #[.int .i64 0] len) 3)) (bl_new (.cells #[.slice none 0 0] 49))
    have hR2 : RowI ((w1.alloc (.cells (madeCells #[.int .i64 0] len) 3)).alloc (.cells #[.slice none 0 0] 49)) w1.heap.size len (List.replicate len 0) := by
      refine ((World.rowIs_made w1 (.int .i64 0) len 3).alloc _).congr (fun i hi => ?_)
      simp [hi]
    have hS2 : ((w1.alloc (.cells (madeCells #[.int .i64 0] len) 3)).alloc (.cells #[.slice none 0 0] 49)).heap[w1.heap.size + 1]? = some (.cells #[.slice none 0 0] 49 (0, 0)) := by
      have := World.alloc_heap_new (w1.alloc (.cells (madeCells #[.int .i64 0] len) 3)) (.cells #[.slice none 0 0] 49)
      rw [World.size_alloc] at this
      exact this
    have hz2 : ((w1.alloc (.cells (madeCells #[.int .i64 0] len) 3)).alloc (.cells #[.slice none 0 0] 49)).heap.size = w1.heap.size + 2 := by simp
    have HLV := hide (H.out.below (bl_on HB1.out hB2))
    have HBB := hide (bl_on HB1.out hB2)
    generalize (w1.alloc (.cells (madeCells #[.int .i64 0] len) 3)).alloc (.cells #[.slice none 0 0] 49) = W2 at hB2 hR2 hS2 hz2 HLV HBB ⊢
    refine (byFrom_any a len cap ls W2 HLV.out hlen).mono ?_
    rintro e w3 ⟨⟨g, os, rfl, ho, hin, hg1, hg2⟩, hb3⟩
    have HR3 := hide (hR2.below hb3)
    have hs3 : w3.heap[w1.heap.size + 1]? = some (.cells #[.slice none 0 0] 49 (0, 0)) := (hb3.block _ (by omega)).trans hS2
    have HS3 : Hid (ShelfAt w3 (w1.heap.size + 1) w3.heap.size []) := ⟨_, hs3, OutD.nil _ _⟩
    have HORD := hide ho
    have HIN := hide hin
    have HL3 := hide (HLV.out.below hb3)
    have HB3 := hide (bl_on HBB.out hb3)
    have HLB : Hid (∀ b off, a = some ⟨b, off, none⟩ → 0 < len → b < w.heap.size) := fun b off e h0 => by
      obtain ⟨b', off', e', c1, _, _⟩ := H.out.at h0
      rw [e] at e'
      cases e'
      exact lt_of_cell c1
    have zw1 := HB1.out.size
    have zw3 := hb3.size
    obtain ⟨GA, hGA⟩ : ∃ GA, GA = w1.heap.size := ⟨_, rfl⟩
    obtain ⟨B, hBd⟩ : ∃ B, B = w3.heap.size := ⟨_, rfl⟩
    have HOL : Hid (os.length = len) := by rw [Hid, ho.perm.length_eq]; simp [HL.out]
    have HBD := hide hBd
    rw [← hGA] at zw1 hz2 HR3 HS3 ⊢
    rw [← hBd] at hg2 zw3 HS3
    rw [hz2] at hg1 zw3
    clear hs3 hb3 ho hin hB2 hR2 hS2 hz2 HLV HBB hmk HW hGA hBd
    go_wp2_with fail
    go_loopw [7, 22] (fun v7 i wr => ∃ j : Nat, j ≤ len ∧ i = .int .i64 j ∧ v7 = .int .i64 (layS ls (os.take j)).en ∧ RowI wr GA len (layS ls (os.take j)).at_ ∧ ShelfAt wr (GA + 1) B (layS ls (os.take j)).sh ∧ Kp GA (GA + 1) B w3 wr) (fun _ i _ => len - (intOf i).toNat)
    case atStart => exact ⟨0, Nat.zero_le _, rfl, rfl, by rw [List.take_zero]; show RowI _ _ _ (List.replicate ls.length 0); rw [HL.out]; exact HR3.out, HS3.out, Kp.refl _ _ _ _⟩
    case round =>
      obtain ⟨j, hj, rfl, rfl, hr, hs, hk⟩ := hrel
      have hinv := lay_pre HORD.out HO.out (os.take j) (os.drop j) (List.take_append_drop j os).symm
      obtain ⟨s, hsd⟩ : ∃ s, s = layS ls (os.take j) := ⟨_, rfl⟩
      rw [← hsd] at hr hs hinv ⊢
      have HSD := hide hsd
      have HR := hide hr
      have HS := hide hs
      have HK := hide hk
      have HINV := hide hinv
      have zwr := hk.size
      have zB : B ≤ wr.heap.size := by rw [HBD.out]; exact hk.size
      clear hr hs hk hinv hsd
      by_cases hlt : j < len
      · have hjl : j < os.length := by rw [HOL.out]; exact hlt
        obtain ⟨k, hkd⟩ : ∃ k, k = os[j]?.getD 0 := ⟨_, rfl⟩
        have hkm : k ∈ os := by rw [hkd]; simp [hjl]
        have hkl : k < len := by rw [← HL.out]; simpa using HORD.out.perm.mem_iff.1 hkm
        have htk : os.take (j + 1) = os.take j ++ [k] := by rw [List.take_succ_eq_append_getElem hjl, hkd]; simp [hjl]
        have hstep : layS ls (os.take (j + 1)) = stepL ls s k := by rw [htk, HSD.out]; simp [layS]
        have c0 := (HIN.out.at (show 0 < len by omega))
        have HINR := hide (ints_kp HIN.out HK.out hg2 (by omega) (by omega))
        obtain ⟨b0, o0, e0, z0, c0⟩ := HINR.out.at (show 0 < len by omega)
        cases e0
        have c1 := c0 j hlt
        have e1 : ((os.map (fun (k : Nat) => (k : Int)))[j]?.getD 0) = (k : Int) := by rw [hkd]; simp [hjl]
        rw [e1, Nat.zero_add] at c1
        have HLR := hide (HL3.out.kp HK.out HLB.out (by omega) (by omega) (by omega))
        obtain ⟨b, off, hab, d1, d2, d3⟩ := HLR.out.at hkl
        have hbw := HLB.out b off hab (by omega)
        subst hab
        obtain ⟨q, hq⟩ : ∃ q, q = ls[k]?.getD lfD := ⟨_, rfl⟩
        rw [← hq] at d1 d2 d3
        have hqok : LfOk q := by rw [hq]; exact HO.out _ (mem_getLf ls k (by rw [HL.out]; exact hkl))
        have zb := lt_of_cell d1
        simp only at zb
        have HQ := hide hq
        have HST := hide hstep
        have HTK := hide (takes_any q wr)
        have HQOK := hide hqok
        clear hq hstep c0 e1 hkm hkd htk hjl hqok
        cases htq : takes q
        · go_wp2_with (go_at_call 27; refine HTK.out.mono ?_; rintro e w4 ⟨rfl, hb⟩; rw [htq]; have HB4 := hide hb; clear hb)
          have hst : layS ls (os.take (j + 1)) = s := by
            rw [HST.out]; unfold stepL; rw [if_neg (by show ¬ takes (ls[k]?.getD lfD) = true; rw [← HQ.out, htq]; simp)]
          go_roundw
          case rel => exact ⟨j + 1, by omega, by go_num, by rw [hst], by rw [hst]; exact HR.out.below HB4.out, by rw [hst]; exact shelf_below HS.out HB4.out, HK.out.trans (Kp.of_below HB4.out zB)⟩
          case measure => simp [intOf]; omega
        · have hLd : ∀ x ∈ s.sh.filter (stays q.fr), LdOk x := fun x hx => by
            have h1 := HINV.out.ok x (List.mem_filter.1 hx).1
            have h2 := HINV.out.enB
            have h3 : (os.take j).length ≤ 4096 := by rw [List.length_take]; omega
            exact ⟨h1.1, h1.2.2.1, by have := h1.2.2.2; omega⟩
          have hgo := gap_ok q.wd (takes_iff.1 htq).1 (s.sh.filter (stays q.fr)) 0 (fun x hx => ⟨(HINV.out.ok x (List.mem_filter.1 hx).1).2.2.1, (HINV.out.ok x (List.mem_filter.1 hx).1).2.1⟩) (HINV.out.disj.filter _)
          have hflen : (s.sh.filter (stays q.fr)).length ≤ 4096 := by
            have h1 := List.length_filter_le (stays q.fr) s.sh
            have h2 := HINV.out.few
            rw [List.length_take] at h2
            omega
          have hgb : (gapV q.wd (s.sh.filter (stays q.fr)) 0).2 ≤ 4294967296 := by
            rcases hgo.2.2.2.2.1 with g5 | ⟨x, hx, g5⟩
            · rw [g5]; omega
            · rw [g5]; exact (hLd x hx).a1
          have hga := hgo.2.1
          have hst : layS ls (os.take (j + 1)) = ⟨s.at_.set k (gapV q.wd (s.sh.filter (stays q.fr)) 0).2, insL (s.sh.filter (stays q.fr)) (gapV q.wd (s.sh.filter (stays q.fr)) 0).1 ⟨q, (gapV q.wd (s.sh.filter (stays q.fr)) 0).2⟩, max s.en ((gapV q.wd (s.sh.filter (stays q.fr)) 0).2 + q.wd)⟩ := by
            rw [HST.out]; unfold stepL; rw [if_pos (by show takes (ls[k]?.getD lfD) = true; rw [← HQ.out]; exact htq)]
            simp only [lifeAt, ← HQ.out]
          have HLD := hide hLd
          have HGK := hide hgo.1
          have HFL := hide hflen
          have HSS := hide hst
          have hq1 := HQOK.out.w0
          have hq2 := HQOK.out.w1
          have hatl := HINV.out.len
          have HATL : Hid (s.at_.length = len) := hatl.trans HL.out
          clear hLd hgo hflen hst hatl
          obtain ⟨G, hG⟩ : ∃ G, G = (gapV q.wd (s.sh.filter (stays q.fr)) 0).2 := ⟨_, rfl⟩
          rw [← hG] at hgb hga HSS
          have HGG := hide hG
          have hwp : IntKind.i64.wrap (G + q.wd) = G + q.wd := by rw [IntKind.wrap_i64]; omega
          clear hG
          go_wp2_with (first
            | (go_at_call 27; refine HTK.out.mono ?_; rintro e w4 ⟨rfl, hb⟩; rw [htq]; have HB4 := hide hb; have p1 := (hb.cell (p := ⟨b, off + k * 3, none⟩) (by omega)).trans d1; have zb4 : b < w4.heap.size := Nat.lt_of_lt_of_le zb hb.size; clear hb)
            | (go_at_call 28; refine (clear_any (GA + 1) B s.sh q.fr w4 (shelf_below HS.out HB4.out) (by omega) (Nat.le_trans zB HB4.out.size)).mono ?_; rintro e w5 ⟨rfl, hs5, hk5⟩; have HS5 := hide hs5; have HK5 := hide hk5; have x1 := ((World.cell?_of_block (w := w4) (w' := w5) (a := ⟨b, off + k * 3, none⟩) (hk5.block b (by omega) (by omega))).trans p1); have x2 := ((World.cell?_of_block (w := w4) (w' := w5) (a := ⟨b, off + k * 3 + 1, none⟩) (hk5.block b (by omega) (by omega))).trans ((HB4.out.cell (p := ⟨b, off + k * 3 + 1, none⟩) (by omega)).trans d2)); have x3 := ((World.cell?_of_block (w := w4) (w' := w5) (a := ⟨b, off + k * 3 + 2, none⟩) (hk5.block b (by omega) (by omega))).trans ((HB4.out.cell (p := ⟨b, off + k * 3 + 2, none⟩) (by omega)).trans d3)); have zb5 := Nat.lt_of_lt_of_le zb4 hk5.size; clear hs5 hk5)
            | (go_at_call 29; refine (put_any (GA + 1) B (s.sh.filter (stays q.fr)) q w5 HS5.out (by omega) (Nat.le_trans zB (Nat.le_trans HB4.out.size HK5.out.size)) HLD.out HQOK.out HFL.out HGK.out).mono ?_; rintro e w6 ⟨rfl, hs6, hk6⟩; rw [← HGG.out]; have HS6 := hide hs6; have HK6 := hide hk6; have HR6 := hide (rowI_shk (rowI_shk (HR.out.below HB4.out) HK5.out (by omega) (by omega)) hk6 (by omega) (by omega)); have y3 := ((World.cell?_of_block (w := w5) (w' := w6) (a := ⟨b, off + k * 3 + 2, none⟩) (hk6.block b (by omega) (by omega))).trans x3); have zb6 := Nat.lt_of_lt_of_le zb5 hk6.size; have u0 := HR6.out.cell hkl; have u1 := HR6.out.frozen k; have zg6 := HR6.out.lt; clear hs6 hk6))
          have g7 : (w6.setCell ⟨GA, k, none⟩ (.int .i64 G)).cell? ⟨GA, k, none⟩ = some (.int .i64 G) := World.cell?_setCell_same _ _ _ u0
          have y7 : (w6.setCell ⟨GA, k, none⟩ (.int .i64 G)).cell? ⟨b, off + k * 3 + 2, none⟩ = some (.int .i64 q.wd) := by
            rw [World.cell?_setCell_other _ _ _ _ (by intro e; simp only [Addr.mk.injEq] at e; omega)]; exact y3
          have HR7 := hide (rowI_set HR6.out k G hkl HATL.out)
          have HS7 : Hid (ShelfAt (w6.setCell ⟨GA, k, none⟩ (.int .i64 G)) (GA + 1) B (insL (s.sh.filter (stays q.fr)) (gapV q.wd (s.sh.filter (stays q.fr)) 0).1 ⟨q, G⟩)) := by
            have h := HS6.out
            rw [← HGG.out] at h
            exact shelf_keep h (Below.heap_setCell _ ⟨GA, k, none⟩ _ _ (by simp)) (fun b h1 h2 => Below.heap_setCell _ ⟨GA, k, none⟩ _ _ (by simp only; omega))
          have HK7 : Hid (Kp GA (GA + 1) B w3 (w6.setCell ⟨GA, k, none⟩ (.int .i64 G))) := (((HK.out.trans (Kp.of_below HB4.out zB)).trans (Kp.of_shk HK5.out)).trans (Kp.of_shk HK6.out)).trans (Kp.of_set _ _ _)
          have z7 : (w6.setCell ⟨GA, k, none⟩ (.int .i64 G)).heap.size = w6.heap.size := by simp
          generalize w6.setCell ⟨GA, k, none⟩ (.int .i64 G) = W7 at g7 y7 HR7 HS7 HK7 z7 ⊢
          have zb7 : b < W7.heap.size := by omega
          have zg7 : GA < W7.heap.size := by omega
          clear u0 u1 y3 x1 x2 x3 d1 d2 d3 c1 p1 HS5 HS6 HR6 z7
          go_region
          go_wp2
          go_roundw
          case rel => exact ⟨j + 1, by omega, by go_num, by rw [HSS.out], by rw [HSS.out]; exact HR7.out, by rw [HSS.out]; exact HS7.out, ⟨HK7.out.os, HK7.out.tape, HK7.out.output, HK7.out.size, HK7.out.block⟩⟩
          case measure => simp [intOf]; omega
      · obtain rfl : j = len := by omega
        have htk : os.take j = os := List.take_of_length_le (by rw [HOL.out]; exact Nat.le_refl _)
        have hs := HSD.out
        rw [htk] at hs
        have HSD2 := hide hs
        have hBel : Below w.heap.size w wr := ⟨HK.out.os.trans HB3.out.os, HK.out.tape.trans HB3.out.tape, HK.out.output.trans HB3.out.output, Nat.le_trans HB3.out.size HK.out.size, fun b hb => (HK.out.block b (by omega) (by omega) (by omega)).trans (HB3.out.block b hb)⟩
        have HBEL := hide hBel
        have hle : ∀ x ∈ s.at_, -9223372036854775808 ≤ x ∧ x ≤ 9223372036854775807 := fun x hx => by
          have h1 := HINV.out.enB
          rw [htk, HOL.out] at h1
          obtain ⟨i, hi, e⟩ := List.getElem_of_mem hx
          have e2 : numAt s.at_ i = x := by simp [numAt, hi, e]
          by_cases hp : takes (lifeAt ls i) = true
          · have h2 := HINV.out.placed i (by rw [htk]; exact HORD.out.perm.mem_iff.2 (by simpa [HINV.out.len] using hi)) hp
            have h3 := (HO.out _ (mem_getLf ls i (by simpa [HINV.out.len] using hi))).w0
            simp only [lifeAt] at h2
            rw [e2] at h2
            omega
          · have h2 := HINV.out.none_ i (.inr (by simpa using hp))
            rw [e2] at h2
            omega
        have HLE := hide hle
        have HEN : Hid (s.en ≤ 4294967296) := by
          have h1 := HINV.out.enB
          rw [htk, HOL.out] at h1
          rw [Hid]; omega
        clear hs htk hBel hle
        by_cases hen : 1048576 < s.en
        · have he : layE ls os = 5 := by unfold layE; rw [if_neg (by simpa using HE.out), ← HSD2.out, if_pos hen]
          have hn : layN ls os = 0 := by unfold layN; rw [he, if_neg (by omega)]
          have hl : layL ls os = [] := by unfold layL; rw [he, if_neg (by omega)]
          have HF := hide (⟨he, hn, hl⟩ : layE ls os = 5 ∧ layN ls os = 0 ∧ layL ls os = [])
          clear he hn hl
          go_wp2
          refine bodyPost_ret (v := .tuple #[.slice none 0 0, .int .i64 0, .int .i64 5]) (by simp [results, Try.results12, go_sem]) rfl ⟨⟨os, none, 0, 0, fun _ => HORD.out, by rw [HF.out.1, HF.out.2.1], by rw [HF.out.2.2]; exact ⟨rfl, by omega, by simp, .inl rfl⟩⟩, HBEL.out⟩
        · have he : layE ls os = 0 := by unfold layE; rw [if_neg (by simpa using HE.out), ← HSD2.out, if_neg hen]
          have hn : layN ls os = s.en := by unfold layN; rw [he, if_pos rfl, ← HSD2.out]
          have hl : layL ls os = s.at_ := by unfold layL; rw [he, if_pos rfl, ← HSD2.out]
          have HF := hide (⟨he, hn, hl⟩ : layE ls os = 0 ∧ layN ls os = s.en ∧ layL ls os = s.at_)
          clear he hn hl
          go_wp2
          refine bodyPost_ret (v := .tuple #[.slice (some ⟨GA, 0, none⟩) j j, .int .i64 s.en, .int .i64 0]) (by simp [results, Try.results12, go_sem]) rfl ?_
          have hfin : Ints wr (some ⟨GA, 0, none⟩) j (layL ls os) := by rw [HF.out.2.2]; exact ints_of_rowI HR.out (by rw [HINV.out.len, HL.out]) (by omega) HLE.out
          first
            | exact ⟨⟨os, some ⟨GA, 0, none⟩, j, j, fun _ => HORD.out, by rw [HF.out.1, HF.out.2.1], hfin⟩, HBEL.out⟩
            | exact ⟨⟨os, fun _ => HORD.out, some ⟨GA, 0, none⟩, j, ⟨j, by rw [HF.out.1, HF.out.2.1]⟩, hfin⟩, HBEL.out⟩
  · obtain ⟨E, hEE⟩ : ∃ E, E = livesE ls := ⟨_, rfl⟩
    have he : ∀ os, layE ls os = E := fun os => by unfold layE; rw [if_pos hE, hEE]
    have hE0 : ¬ E = 0 := by rw [hEE]; exact hE
    have hn : ∀ os, layN ls os = 0 := fun os => by unfold layN; rw [he, if_neg hE0]
    have hl : ∀ os, layL ls os = [] := fun os => by unfold layL; rw [he, if_neg hE0]
    have HEE := hide hEE
    have HF := hide (⟨he, hn, hl⟩ : (∀ os, layE ls os = E) ∧ (∀ os, layN ls os = 0) ∧ ∀ os, layL ls os = [])
    have hE' : (E != 0) = true := by simpa using hE0
    have HNE := hide hE
    clear hEE he hn hl hE hE0
    go_enter Try.func12, Try.ntmps12
    go_wp2_with (go_at_call 10; refine HW.out.mono ?_; rintro e w1 ⟨rfl, hb⟩; rw [← HEE.out]; have HB1 := hide hb; clear hb)
    refine bodyPost_ret (v := .tuple #[.slice none 0 0, .int .i64 0, .int .i64 E]) (by simp [results, Try.results12, go_sem]) rfl ⟨⟨[], none, 0, 0, fun e => absurd e HNE.out, by rw [HF.out.1, HF.out.2.1], by rw [HF.out.2.2]; exact ⟨rfl, by omega, by simp, .inl rfl⟩⟩, HB1.out⟩
end Go.Proofs.Ytnncalhpbfmgoaa.V
