/-
  Contract: adjointref2.Do, of Take. ArrayRows: where the document's Do tells an error. Contracts: array.Do, with a list of dimensions that can be handed on (a list that is nil has no room).
-/
import Derived.Test.YteoobeldmicjhaaGreatPRKArrayRows39
import Derived.Test.YteoobeldmicjhaaGreatPRKArrayRows44
import Derived.Test.YteoobeldmicjhaaGreatPRKArrayRows42
import Derived.Test.YteoobeldmicjhaaGreatPRKArrayRows8
import Derived.Test.YteoobeldmicjhaaGreatPRKArrayRows41
namespace Go.Proofs.YteoobeldmicjhaaGreat.V
set_option maxRecDepth 20000
open Go.RowKit

theorem placeN_ok {xs ys : List Int} (hE : sizeE xs = 0) (hl : ys.length = xs.length) (h : IdxOk xs ys) : placeN xs ys = ((placeN xs ys).toNat : Int) ∧ ((placeN xs ys).toNat : Int) < prod xs := by
  have := place_bd h
  have e : placeN xs ys = placeS xs ys xs.length := by rw [placeN, if_neg (by simp [hE]), if_neg (by simp [hl]), if_pos ((idxB_iff _ _).2 h)]
  rw [e]
  omega
theorem sub_len (xs : List Int) (f l : Nat) (h : f + l ≤ xs.length) : (sub xs f l).length = l := by simp [sub]; omega
/-- An index of what is taken: its first part is one of the rows' numbers. -/
theorem take_idx {ds gs : List Int} {n : Nat} (hz : sizeE (gs ++ ds.drop 1) = 0) (hn : n < (prod (gs ++ ds.drop 1)).toNat) : (∀ k, k < (gs ++ ds.drop 1).length → 0 ≤ (dig (gs ++ ds.drop 1) n)[k]?.getD 0 ∧ (dig (gs ++ ds.drop 1) n)[k]?.getD 0 < (gs ++ ds.drop 1)[k]?.getD 0) := by
  rcases dims_cases hz with ⟨_, h1, h2⟩ | ⟨h1, _⟩
  · rw [h2] at hn; simp at hn
  · exact fun k hk => dig_bd _ n h1 (by omega) (by omega) k hk
theorem idx_first {ds gs at' : List Int} (h : ∀ k, k < (gs ++ ds.drop 1).length → 0 ≤ at'[k]?.getD 0 ∧ at'[k]?.getD 0 < (gs ++ ds.drop 1)[k]?.getD 0) : IdxOk gs (sub at' 0 gs.length) := fun k hk => by
  have := h k (by simp; omega)
  rw [List.getElem?_append_left hk] at this
  rw [sub_at _ _ _ _ hk, Nat.zero_add]
  exact this
theorem idx_rest {ds gs at' : List Int} (h : ∀ k, k < (gs ++ ds.drop 1).length → 0 ≤ at'[k]?.getD 0 ∧ at'[k]?.getD 0 < (gs ++ ds.drop 1)[k]?.getD 0) (r : Nat) (hr : (r : Int) < ds[0]?.getD 0) : IdxOk ds ((r : Int) :: sub at' gs.length (ds.length - 1)) := fun k hk => by
  match k, hk with
  | 0, _ => simp only [List.getElem?_cons_zero, Option.getD_some]; omega
  | k + 1, hk =>
    have := h (gs.length + k) (by simp; omega)
    rw [List.getElem?_append_right (by omega), show gs.length + k - gs.length = k by omega, List.getElem?_drop, Nat.add_comm 1 k] at this
    rw [List.getElem?_cons_succ, sub_at _ _ _ _ (by omega)]
    exact this

set_option maxHeartbeats 1000000 in
theorem rdo_take (b off cap : Nat) (da : Option Addr) (dl dc : Nat) (ds : List Int) (xa : Option Addr) (n1 xc : Nat) (xs : List Int) (fa : Option Addr) (fl fc : Nat) (gs : List Int) (ya : Option Addr) (m1 yc : Nat) (ys : List Int) (w : World)
    (c0 : w.cell? ⟨b, off, none⟩ = some (.slice da dl dc)) (c1 : w.cell? ⟨b, off + 1, none⟩ = some (.slice xa n1 xc)) (c2 : w.cell? ⟨b, off + 2, none⟩ = some (.slice fa fl fc)) (c3 : w.cell? ⟨b, off + 3, none⟩ = some (.slice ya m1 yc))
    (hd : Lst w da dl dc ds) (hx : Ints w xa n1 xs) (hf : Lst w fa fl fc gs) (hy : Ints w ya m1 ys) :
    Calls Tryz.prog 8 #[.agg #[.int .i64 18, .slice none 0 0, .slice none 0 0, .slice none 0 0, .slice none 0 0, .slice none 0 0, .int .i64 0], .slice (some ⟨b, off, none⟩) 2 cap] w fun e w' => (∃ (Z : Option Addr) (nz cz : Nat) (G : Option Addr) (ng cg : Nat), e = .returned (.tuple #[.agg #[.slice Z nz cz, .slice G ng cg], .int .i64 (doE 18 [] [] [] [] [] 2 (pairV ds n1 gs m1))])) ∧ Below w.heap.size w w' := by
  have hcg := doE_congr (k := 18) (es := []) (ps := []) (lo := []) (hi := []) (st := []) (two_congr da dl dc ds xa n1 xc fa fl fc gs ya m1 yc)
  have hN := lst_none w
  have hA := arrs_two c0 c1 c2 c3 hd hf
  by_cases hE : doE 18 [] [] [] [] [] 2 (pairV ds n1 gs m1) = 0
  case neg =>
    refine (rDo_bad 18 0 none 0 0 [] none 0 0 [] none 0 0 [] none 0 0 [] none 0 0 [] (some ⟨b, off, none⟩) 2 cap (twoV2 da dl dc ds xa n1 xc fa fl fc gs ya m1 yc) w hN hN hN hN hN (by omega) (by omega) (by omega) (by omega) (by omega) hA (by omega) (by rw [hcg]; exact hE)).mono ?_
    rintro e w' ⟨rfl, hb⟩
    rw [hcg]
    exact ⟨⟨_, _, _, _, _, _, rfl⟩, hb⟩
  obtain ⟨ha1, ha2, hs1, hs2, hs3⟩ := pairV_parts hE
  have hsh : shapeP 18 [] [] [] [] [] [ds, gs] = takeP ds gs := rfl
  rw [hsh] at hs1 hs2 hs3
  have hz1 := (arrE_ok ha1).1
  have hz2 := (arrE_ok ha2).1
  have hn := (arrE_ok ha1).2.1
  have hm := (arrE_ok ha2).2.1
  have hT : ds.length ≠ 0 ∧ (takeP ds gs).1 = gs ++ ds.drop 1 := by
    unfold takeP at hs1 ⊢
    by_cases c : ds.length = 0
    · rw [if_pos c] at hs1; exact absurd hs1 (by simp)
    · rw [if_neg c]; exact ⟨c, rfl⟩
  obtain ⟨hl0, hq1⟩ := hT
  rw [hq1] at hs2 hs3
  obtain ⟨D, hD⟩ := nat_of' (size_nn hz1 _ (mem_getD ds 0 (by omega)))
  have hD6 := ((sizeE_ok hz1).2.1 _ (mem_getD ds 0 (by omega))).2
  rw [hD] at hD6
  have hdl := hd.1.1
  have hfl := hf.1.1
  have hg6 : (gs ++ ds.drop 1).length ≤ 6 := (sizeE_ok hs2).1
  have hLl : (gs ++ ds.drop 1).length = gs.length + (ds.length - 1) := by simp
  refine (rDo_good 18 0 none 0 0 [] none 0 0 [] none 0 0 [] none 0 0 [] none 0 0 [] (some ⟨b, off, none⟩) 2 cap (twoV2 da dl dc ds xa n1 xc fa fl fc gs ya m1 yc) (gs ++ ds.drop 1) (fun n => takeEnt xs ys D (placeN gs (sub (dig (gs ++ ds.drop 1) n) 0 gs.length)).toNat (fun r => (placeN ds ((r : Int) :: sub (dig (gs ++ ds.drop 1) n) gs.length (ds.length - 1))).toNat)) w hN hN hN hN hN (by omega) (by omega) (by omega) (by omega) (by omega) hA (by omega) (by rw [hcg]; exact hE) hs3.symm (fun n _ => ?_) ?_).mono ?_
  · unfold takeEnt
    split
    · exact bnd_at hx.2.2.1 _
    · omega
  · intro W hW n hnn g c hI hc
    have hix := take_idx hs2 hnn
    have hdl2 : (dig (gs ++ ds.drop 1) n).length = (gs ++ ds.drop 1).length := dig_length _ _
    have p1 := placeN_ok hz2 (by rw [sub_len _ _ _ (by rw [hdl2, hLl]; omega)]) (idx_first hix)
    have := rentry_take 0 (.slice none 0 0) (.slice none 0 0) (.slice none 0 0) (.slice none 0 0) (.slice none 0 0) b off cap da dl dc ds xa n1 xc xs fa fl fc gs ya m1 yc ys g (gs ++ ds.drop 1).length c (dig (gs ++ ds.drop 1) n) n W D (placeN gs (sub (dig (gs ++ ds.drop 1) n) 0 gs.length)).toNat (fun r => (placeN ds ((r : Int) :: sub (dig (gs ++ ds.drop 1) n) gs.length (ds.length - 1))).toNat)
      ((hW.cell (p := ⟨b, off, none⟩) (lt_of_cell c0)).trans c0) ((hW.cell (p := ⟨b, off + 1, none⟩) (lt_of_cell c1)).trans c1) ((hW.cell (p := ⟨b, off + 2, none⟩) (lt_of_cell c2)).trans c2) ((hW.cell (p := ⟨b, off + 3, none⟩) (lt_of_cell c3)).trans c3)
      (hd.1.below hW) hd.2.1 (hx.below hW) (hf.1.below hW) hf.2.1 (hy.below hW) hI hc (by omega) hD (by omega) (by omega) (by omega) (by rw [← hfl]; exact p1.1) (by omega) (fun r hr => ?_)
    · exact this
    · have hls : (gs ++ ds.drop 1).length - fl = ds.length - 1 := by omega
      rw [hls, ← hfl]
      have p2 := placeN_ok hz1 (by rw [List.length_cons, sub_len _ _ _ (by rw [hdl2, hLl]; omega)]; omega) (idx_rest hix r (by rw [hD]; omega))
      exact ⟨p2.1, by omega⟩
  · rintro e w' ⟨⟨Z, nz, cz, G, cg, rfl, _⟩, hb⟩
    rw [hE]
    exact ⟨⟨_, _, _, _, _, _, rfl⟩, hb⟩
end Go.Proofs.YteoobeldmicjhaaGreat.V
namespace Go.Proofs.YteoobeldmicjhaaGreat.V
set_option maxRecDepth 20000
open Go.RowKit

set_option maxRecDepth 100000 in
set_option maxHeartbeats 1000000 in
theorem rows_err (da : Option Addr) (dl dc : Nat) (ds : List Int) (xa : Option Addr) (n xc : Nat) (xs : List Int) (fa : Option Addr) (fl fc : Nat) (gs : List Int) (ya : Option Addr) (m yc : Nat) (ys : List Int) (ua : Option Addr) (un uc : Nat) (w : World)
    (hda : Lst w da dl dc ds) (hxa : Ints w xa n xs) (hfa : Lst w fa fl fc gs) (hya : Ints w ya m ys) (hE : doE 18 [] [] [] [] [] 2 (pairV ds n gs m) ≠ 0) :
    Calls Tryz.prog 3 #[.agg #[.slice da dl dc, .slice xa n xc], .agg #[.slice fa fl fc, .slice ya m yc], .slice ua un uc] w fun e w' => e = .returned (.bool true) ∧ Below w.heap.size w w' := by
  have HDA := hide hda
  have HXA := hide hxa
  have HFA := hide hfa
  have HYA := hide hya
  have HB2 := hide (((Below.refl w.heap.size w).alloc (Nat.le_refl _) (.cells #[.slice da dl dc, .slice xa n xc] 25)).alloc (by simp) (.cells #[.slice fa fl fc, .slice ya m yc] 25))
  have HA0 := hide ((ArrAt.new w (.slice da dl dc) (.slice xa n xc)).alloc (.cells #[.slice fa fl fc, .slice ya m yc] 25))
  have ha1 := ArrAt.new (w.alloc (.cells #[.slice da dl dc, .slice xa n xc] 25)) (.slice fa fl fc) (.slice ya m yc)
  simp only [World.size_alloc] at ha1
  have HA1 := hide ha1
  clear hda hxa hfa hya ha1
  obtain ⟨E, hEE⟩ : ∃ E, doE 18 [] [] [] [] [] 2 (pairV ds n gs m) = E := ⟨_, rfl⟩
  rw [hEE] at hE
  have HEE := hide hEE
  have hEb : (E != 0) = true := by simp [hE]
  clear hE hEE
  go_enter Tryz.func3, Tryz.ntmps3
  go_wp2_with (first
    | (go_at_call 8; have f4 := FourAt.new (w := w1) (B := w1.heap.size) (.slice da dl dc) (.slice xa n xc) (.slice fa fl fc) (.slice ya m yc) rfl; obtain ⟨c0, c1, c2, c3⟩ := f4.cells; have hb4 := HB3.out.alloc HB3.out.size (.cells #[.slice da dl dc, .slice xa n xc, .slice fa fl fc, .slice ya m yc] 25); refine (rdo_take w1.heap.size 0 2 da dl dc ds xa n xc xs fa fl fc gs ya m yc ys _ c0 c1 c2 c3 (HDA.out.below hb4) (HXA.out.below hb4) (HFA.out.below hb4) (HYA.out.below hb4)).mono ?_; rintro e w2 ⟨⟨Z, nz, cz, G, ng, cg, rfl⟩, hb⟩; rw [HEE.out]; have HB5 := hide (Below.on hb4 hb); have HA5 := hide ((HA2.out.alloc _).below hb); have HA6 := hide ((HA3.out.alloc _).below hb); clear f4 c0 c1 c2 c3 hb4 hb a0 a1 b0 b1; obtain ⟨⟨a0, a1⟩, _⟩ := HA5.out.cells; obtain ⟨⟨b0, b1⟩, _⟩ := HA6.out.cells)
    | (go_at_call 7; refine (alive2_any _).mono ?_; rintro e w1 ⟨rfl, hb⟩; have HB3 := hide (Below.on HB2.out hb); have HA2 := hide (HA0.out.below hb); have HA3 := hide (HA1.out.below hb); clear hb; obtain ⟨⟨a0, a1⟩, _⟩ := HA2.out.cells; obtain ⟨⟨b0, b1⟩, _⟩ := HA3.out.cells))
  go_ret
  exact ⟨rfl, HB5.out.alloc HB5.out.size _⟩
end Go.Proofs.YteoobeldmicjhaaGreat.V
namespace Go.Proofs.YteoobeldmicjhaaGreat.V
set_option maxRecDepth 20000
open Go.RowKit

def OutPL (e : Ending) (w' : World) (p : List Int × Int) : Prop := ∃ X n c, e = .returned (.tuple #[.slice X n c, .int .i64 p.2]) ∧ Ints w' X n p.1 ∧ (n ≤ c ∧ (X = none → n = 0))
theorem outPL_none (w' : World) (E : Int) : OutPL (.returned (.tuple #[.slice none 0 0, .int .i64 E])) w' ([], E) := ⟨none, 0, 0, rfl, ⟨rfl, by omega, by simp, .inl rfl⟩, Nat.le_refl _, fun _ => rfl⟩
theorem outPL_new {w w' : World} {v : Value} {xs : List Int} (h : NewAt w w' v xs) (E : Int) : OutPL (.returned (.tuple #[v, .int .i64 E])) w' (xs, E) := by
  obtain ⟨X, n, c, rfl, hl, _⟩ := h
  exact ⟨X, n, c, rfl, hl.1, hl.2⟩

set_option maxRecDepth 100000 in
set_option maxHeartbeats 1000000 in
theorem takeDims_L (a : Option Addr) (len cap : Nat) (xs : List Int) (a' : Option Addr) (len' cap' : Nat) (ys : List Int) (w : World) (h : Lst w a len cap xs) (h' : Lst w a' len' cap' ys) (h6 : len ≤ 6) (h6' : len' ≤ 6) :
    Calls Tryz.prog 67 #[.slice a len cap, .slice a' len' cap'] w fun e w' => OutPL e w' (takeP xs ys) ∧ Below w.heap.size w w' := by
  have H := hide h
  have H' := hide h'
  have hcap := h.2.1
  have HN := hide h.1.1
  clear h h'
  by_cases c : len = 0
  · have hp : takeP xs ys = ([], 6) := by unfold takeP; rw [if_pos (by rw [HN.out]; exact c)]
    rw [hp]
    have q : ((len : Int) == 0) = true := by simp [c]
    clear hp c
    go_enter Tryz.func67, Tryz.ntmps67
    go_wp2
    go_ret2
    exact ⟨outPL_none _ _, Below.refl _ _⟩
  · have hp : takeP xs ys = (ys ++ xs.drop 1, 0) := by unfold takeP; rw [if_neg (by rw [HN.out]; exact c)]
    rw [hp]
    have q : ((len : Int) == 0) = false := by simp; omega
    obtain ⟨b, off, rfl, hb, hc⟩ := H.out.1.at (by omega)
    have hl1 : 1 ≤ len := by omega
    clear hp c hc
    have HF : Hid (∀ X n d, Lst w X n d (xs.drop 1) → n ≤ 6 → ∀ w1, w1 = w.alloc (.cells #[.slice a' len' cap', .slice X n d] 22) → Calls Tryz.prog 98 #[.slice (some ⟨w.heap.size, 0, none⟩) 2 2] w1 fun e w' => GivesL w e w' (ys ++ xs.drop 1) ∧ Below w.heap.size w w') := by
      intro X n d hl hn w1 hw1
      subst hw1
      have e : [ys, xs.drop 1].flatten = ys ++ xs.drop 1 := by simp
      refine (chain_any _ _ _ [ys, xs.drop 1] _ (lsts_two H'.out hl _) (by rw [e, List.length_append, H'.out.1.1, hl.1.1]; omega) (by rw [e]; exact bd_append H'.out.1.2.2.1 hl.1.2.2.1)).mono ?_
      rintro e1 w2 ⟨⟨v, rfl, hv⟩, hb2⟩
      rw [e] at hv
      exact ⟨⟨v, rfl, newAt_mono hv (by simp)⟩, Below.on ((Below.refl _ _).alloc (Nat.le_refl _) _) hb2⟩
    by_cases cc : cap = 1
    · subst cc
      have e1 : xs.drop 1 = [] := List.drop_eq_nil_of_le (by rw [HN.out]; omega)
      have HL : Hid (Lst w (some ⟨b, off, none⟩) 0 0 (xs.drop 1)) := by
        rw [e1]; exact lst_empty w _ _
      go_enter Tryz.func67, Tryz.ntmps67
      go_wp2_with (go_at_call 98; refine (HF.out _ _ _ HL.out (by omega) _ (by rfl)).mono ?_; rintro e w1 ⟨⟨v, rfl, hv⟩, hb1⟩; have HV := hide hv; have HB1 := hide hb1; clear hv hb1)
      go_ret2
      exact ⟨outPL_new HV.out 0, HB1.out⟩
    · have HL := hide (lst_drop H.out 1 (by omega))
      go_enter Tryz.func67, Tryz.ntmps67
      go_wp2_with (go_at_call 98; refine (HF.out _ _ _ HL.out (by omega) _ (by rfl)).mono ?_; rintro e w1 ⟨⟨v, rfl, hv⟩, hb1⟩; have HV := hide hv; have HB1 := hide hb1; clear hv hb1)
      go_ret2
      exact ⟨outPL_new HV.out 0, HB1.out⟩

set_option maxRecDepth 100000 in
set_option maxHeartbeats 2000000 in
theorem shape_18L (x : Int) (ea : Option Addr) (el ec : Nat) (es : List Int) (pa : Option Addr) (pl pc : Nat) (ps : List Int) (la : Option Addr) (ll lc : Nat) (lo : List Int) (ha : Option Addr) (hl hc : Nat) (hi : List Int) (ta : Option Addr) (tl tc : Nat) (st : List Int) (A : Option Addr) (len cap : Nat) (xss : List (List Int)) (w : World)
    (he : Lst w ea el ec es) (hp : Lst w pa pl pc ps) (hlo : Lst w la ll lc lo) (hhi : Lst w ha hl hc hi) (hst : Lst w ta tl tc st) (h : Lsts w A len xss) (hcap : len ≤ cap) (hz : ∀ d ∈ xss, sizeE d = 0) (hn : len = 2) (hlen : len ≤ 1048576) (b0 : el ≤ 1048576) (b1 : pl ≤ 1048576) (b2 : ll ≤ 1048576) (b3 : hl ≤ 1048576) (b4 : tl ≤ 1048576) :
    Calls Tryz.prog 41 #[.agg #[.int .i64 18, .slice ea el ec, .slice pa pl pc, .slice la ll lc, .slice ha hl hc, .slice ta tl tc, .int .i64 x], .slice A len cap] w fun e w' => OutPL e w' (takeP (xss[0]?.getD []) (xss[1]?.getD [])) ∧ Below w.heap.size w w' := by
  have zz := And.intro hcap (And.intro hlen (And.intro hn (And.intro b0 (And.intro b1 (And.intro b2 (And.intro b3 b4))))))
  clear zz
  have HE := hide he
  have HP := hide hp
  have HLO := hide hlo
  have HHI := hide hhi
  have HST := hide hst
  have H := hide h
  have HN := hide h.1
  have HZ := hide hz
  have HB1 := hide ((Below.refl w.heap.size w).alloc (Nat.le_refl _) (.cells #[.int .i64 18, .slice ea el ec, .slice pa pl pc, .slice la ll lc, .slice ha hl hc, .slice ta tl tc, .int .i64 x] 31))
  have HOP := hide (OpAt.new w 18 (.slice ea el ec) (.slice pa pl pc) (.slice la ll lc) (.slice ha hl hc) (.slice ta tl tc) x)
  obtain ⟨o0, o1, o2, o3, o4, o5, o6⟩ := HOP.out.cells
  obtain ⟨b, off, rfl, hc⟩ := h.at (by omega)
  obtain ⟨X0, m0, c0, hc0, hl0⟩ := hc 0 (by omega)
  have hc0' : w.cell? ⟨b, off, none⟩ = some (.slice X0 m0 c0) := hc0
  obtain ⟨ds, hds⟩ : ∃ ds, ds = xss[0]?.getD [] := ⟨_, rfl⟩
  rw [← hds] at hl0 ⊢
  have HL0 := hide hl0
  have HC0 := hide hc0'
  have hzd : sizeE ds = 0 := by rw [hds]; exact hz _ (mem_getDL xss 0 (by rw [h.1]; omega))
  have HZD := hide hzd
  have h06 : m0 ≤ 6 := by have := (sizeE_ok hzd).1; have := hl0.1.1; omega
  have HD1 := hide (HL0.out.below HB1.out)
  have q0 := (HB1.out.cell (p := ⟨b, off, none⟩) (lt_of_cell hc0')).trans hc0'
  have i0 : (0 : Int) < (len : Int) := by omega
  obtain ⟨X1, m1, c1, hc1, hl1⟩ := hc 1 (by omega)
  obtain ⟨ds1, hds1⟩ : ∃ ds1, ds1 = xss[1]?.getD [] := ⟨_, rfl⟩
  rw [← hds1] at hl1 ⊢
  have HL1 := hide hl1
  have hzd1 : sizeE ds1 = 0 := by rw [hds1]; exact hz _ (mem_getDL xss 1 (by rw [h.1]; omega))
  have h16 : m1 ≤ 6 := by have := (sizeE_ok hzd1).1; have := hl1.1.1; omega
  have q1 := (HB1.out.cell (p := ⟨b, off + 1, none⟩) (lt_of_cell hc1)).trans hc1
  have i1 : (1 : Int) < (len : Int) := by omega
  clear h he hp hlo hhi hst hz hc hc0 hc0' hl0 hds hzd hc1 hl1 hds1 hzd1
  go_enter Tryz.func41, Tryz.ntmps41
  go_wp2_with fail
  go_region_with (go_at_call 67; refine (takeDims_L _ _ _ ds _ _ _ ds1 _ (HL0.out.below (HB1.out.drew)) (HL1.out.below (HB1.out.drew)) h06 h16).mono ?_; rintro e w1 ⟨⟨Z, nz, cz, rfl, hi1, hnc⟩, hb⟩; have HI1 := hide hi1; have HB2 := hide (Below.on (HB1.out.drew) hb); clear hi1 hb)
  all_goals go_wp2
  all_goals go_ret2
  all_goals exact ⟨⟨_, _, _, rfl, HI1.out, hnc⟩, HB2.out⟩

set_option maxRecDepth 100000 in
set_option maxHeartbeats 4000000 in
theorem Dims_L (k x : Int) (ea : Option Addr) (el ec : Nat) (es : List Int) (pa : Option Addr) (pl pc : Nat) (ps : List Int) (la : Option Addr) (ll lc : Nat) (lo : List Int) (ha : Option Addr) (hl hc : Nat) (hi : List Int) (ta : Option Addr) (tl tc : Nat) (st : List Int) (A : Option Addr) (len cap : Nat) (xss : List (List Int)) (w : World)
    (he : Lst w ea el ec es) (hp : Lst w pa pl pc ps) (hlo : Lst w la ll lc lo) (hhi : Lst w ha hl hc hi) (hst : Lst w ta tl tc st) (h : Lsts w A len xss) (hcap : len ≤ cap) (hlen : len ≤ 1048576) (hS : ∀ (W : World) (A : Option Addr) (cap : Nat), Below w.heap.size w W → Lsts W A len (xss) → len ≤ cap → Calls Tryz.prog 41 #[.agg #[.int .i64 k, .slice ea el ec, .slice pa pl pc, .slice la ll lc, .slice ha hl hc, .slice ta tl tc, .int .i64 x], .slice A len cap] W fun e w' => OutPL e w' (shapeP k es ps lo hi st (xss)) ∧ Below W.heap.size W w') :
    Calls Tryz.prog 22 #[.agg #[.int .i64 k, .slice ea el ec, .slice pa pl pc, .slice la ll lc, .slice ha hl hc, .slice ta tl tc, .int .i64 x], .slice A len cap] w fun e w' => OutPL e w' (dimsP k es ps lo hi st xss) ∧ Below w.heap.size w w' := by
  have hmx := h.2.1
  have H := hide h
  have HN := hide h.1
  have HE := hide he
  have HP := hide hp
  have HLO := hide hlo
  have HHI := hide hhi
  have HST := hide hst
  have HB1 := hide ((Below.refl w.heap.size w).alloc (Nat.le_refl _) (.cells #[.int .i64 k, .slice ea el ec, .slice pa pl pc, .slice la ll lc, .slice ha hl hc, .slice ta tl tc, .int .i64 x] 31))
  have HOP := hide (OpAt.new w k (.slice ea el ec) (.slice pa pl pc) (.slice la ll lc) (.slice ha hl hc) (.slice ta tl tc) x)
  obtain ⟨o0, o1, o2, o3, o4, o5, o6⟩ := HOP.out.cells
  have HDP := hide (show dimsP k es ps lo hi st xss = if takesE k xss.length ≠ 0 then ([], takesE k xss.length) else if sizesE xss ≠ 0 then ([], sizesE xss) else if (shapeP k es ps lo hi st xss).2 ≠ 0 then ([], (shapeP k es ps lo hi st xss).2) else if sizeE (shapeP k es ps lo hi st xss).1 ≠ 0 then ([], sizeE (shapeP k es ps lo hi st xss).1) else ((shapeP k es ps lo hi st xss).1, 0) from rfl)
  have HSH := hide hS
  clear h he hp hlo hhi hst hS
  by_cases c1 : takesE k len = 0
  case neg =>
    obtain ⟨T, hT⟩ : ∃ T, T = takesE k len := ⟨_, rfl⟩
    have hp : dimsP k es ps lo hi st xss = ([], T) := by rw [HDP.out, HN.out, if_pos c1, ← hT]
    rw [hp]
    have HT := hide hT
    have q : (T != 0) = true := by rw [hT]; simp [c1]
    clear hp c1 hT
    go_enter Tryz.func22, Tryz.ntmps22
    go_wp2_with (go_at_call 20; refine (takes_any _ _ _).mono ?_; rintro e w' ⟨rfl, hw'⟩; obtain rfl := hw'.symm; rw [← HT.out])
    go_ret2
    exact ⟨outPL_none _ _, HB1.out⟩
  have HC1 := hide c1
  clear c1
  go_enter Tryz.func22, Tryz.ntmps22
  go_wp2_with (go_at_call 20; refine (takes_any _ _ _).mono ?_; rintro e w' ⟨rfl, hw'⟩; obtain rfl := hw'.symm; rw [HC1.out])
  go_loopw [25] (fun i wr => ∃ j : Nat, j ≤ len ∧ i = .int .i64 j ∧ (∀ t, t < j → sizeE (xss[t]?.getD []) = 0) ∧ OpAt wr w.heap.size k (.slice ea el ec) (.slice pa pl pc) (.slice la ll lc) (.slice ha hl hc) (.slice ta tl tc) x ∧ Below w.heap.size w wr) (fun i _ => len - (intOf i).toNat)
  case atStart => exact ⟨0, Nat.zero_le _, rfl, fun t ht => by omega, HOP.out, HB1.out⟩
  case round =>
    obtain ⟨j, hj, rfl, hgood, ho, hB⟩ := hrel
    have HG := hide hgood
    have HO := hide ho
    have HB := hide hB
    clear hgood ho hB o0 o1 o2 o3 o4 o5 o6
    by_cases hlt : j < len
    · obtain ⟨b, off, rfl, hc⟩ := H.out.at (by omega)
      obtain ⟨X, m, c, hcj0, hlj⟩ := hc j hlt
      have hcj : wr.cell? ⟨b, off + j, none⟩ = some (.slice X m c) := (HB.out.cell (p := ⟨b, off + j, none⟩) (lt_of_cell hcj0)).trans hcj0
      have HLJ := hide hlj
      clear hlj hcj0 hc
      obtain ⟨T, hT⟩ : ∃ T, T = sizeE (xss[j]?.getD []) := ⟨_, rfl⟩
      have HT := hide hT
      by_cases c2 : T = 0
      · have HT0 : Hid (sizeE (xss[j]?.getD []) = 0) := hT.symm.trans c2
        clear hT c2 HT
        go_wp2_with (go_at_call 40; refine (size_any _ _ _ (xss[j]?.getD []) _ (HLJ.out.1.below HB.out)).mono ?_; rintro e w' ⟨rfl, hw'⟩; obtain rfl := hw'.symm; rw [HT0.out])
        go_roundw
        case rel =>
          refine ⟨j + 1, by omega, by go_num, fun t ht => ?_, HO.out, HB.out⟩
          by_cases e : t = j
          · rw [e]; exact HT0.out
          · exact HG.out t (by omega)
        case measure => simp [intOf]; omega
      · have q : (T != 0) = true := by simp [c2]
        have hsz : sizesE xss = T := by
          rw [hT]
          exact sizesE_at xss j HG.out (by rw [HN.out]; exact hlt) (by rw [← hT]; exact c2)
        have hp : dimsP k es ps lo hi st xss = ([], T) := by rw [HDP.out, HN.out, if_neg (by rw [HC1.out]; simp), hsz, if_pos c2]
        have HPP := hide hp
        clear hp hsz hT c2
        go_wp2_with (go_at_call 40; refine (size_any _ _ _ (xss[j]?.getD []) _ (HLJ.out.1.below HB.out)).mono ?_; rintro e w' ⟨rfl, hw'⟩; obtain rfl := hw'.symm; rw [← HT.out])
        go_ret2
        rw [HPP.out]
        exact ⟨outPL_none _ _, HB.out⟩
    · obtain rfl : j = len := by omega
      have hall : sizesE xss = 0 := sizesE_all xss (fun t ht => HG.out t (by rw [HN.out] at ht; exact ht))
      have HZ := hide (sizesE_ok xss hall)
      have HD2 : Hid (dimsP k es ps lo hi st xss = if (shapeP k es ps lo hi st xss).2 ≠ 0 then ([], (shapeP k es ps lo hi st xss).2) else if sizeE (shapeP k es ps lo hi st xss).1 ≠ 0 then ([], sizeE (shapeP k es ps lo hi st xss).1) else ((shapeP k es ps lo hi st xss).1, 0)) := by
        rw [Hid, HDP.out, HN.out, if_neg (by rw [HC1.out]; simp), if_neg (by rw [hall]; simp)]
      have HCS := hide (HSH.out wr _ cap HB.out (H.out.below HB.out) hcap)
      obtain ⟨⟨L, E⟩, hLE⟩ : ∃ r, r = shapeP k es ps lo hi st xss := ⟨_, rfl⟩
      rw [← hLE] at HCS HD2
      have hd2 := HD2.out
      simp only at hd2
      obtain ⟨o0, o1, o2, o3, o4, o5, o6⟩ := HO.out.cells
      clear hall hLE HDP HD2
      by_cases c3 : E = 0
      case neg =>
        have q : (E != 0) = true := by simp [c3]
        rw [if_pos c3] at hd2
        have HPP := hide hd2
        clear hd2 c3
        go_wp2_with (go_at_call 41; refine HCS.out.mono ?_; rintro e w1 ⟨⟨Z, nz, cz, rfl, hi1, hnc⟩, hb⟩; have HB2 := hide (Below.on HB.out hb); clear hi1 hb)
        go_ret2
        rw [HPP.out]
        exact ⟨outPL_none _ _, HB2.out⟩
      subst c3
      rw [if_neg (by simp)] at hd2
      obtain ⟨S, hS⟩ : ∃ S, S = sizeE L := ⟨_, rfl⟩
      have HSS := hide hS
      rw [← hS] at hd2
      clear hS
      by_cases c4 : S = 0
      · subst c4
        rw [if_neg (by simp)] at hd2
        have HPP := hide hd2
        clear hd2
        go_wp2_with (first
          | (go_at_call 41; refine HCS.out.mono ?_; rintro e w1 ⟨⟨Z, nz, cz, rfl, hi1, hnc⟩, hb⟩; have HI1 : Hid (Ints w1 Z nz L) := hi1; have HB2 := hide (Below.on HB.out hb); clear hi1 hb)
          | (go_at_call 40; refine (size_any _ _ _ L _ HI1.out).mono ?_; rintro e w' ⟨rfl, hw'⟩; obtain rfl := hw'.symm; rw [← HSS.out]))
        go_ret2
        rw [HPP.out]
        exact ⟨⟨_, _, _, rfl, HI1.out, hnc⟩, HB2.out⟩
      · have q : (S != 0) = true := by simp [c4]
        rw [if_pos c4] at hd2
        have HPP := hide hd2
        clear hd2 c4
        go_wp2_with (first
          | (go_at_call 41; refine HCS.out.mono ?_; rintro e w1 ⟨⟨Z, nz, cz, rfl, hi1, hnc⟩, hb⟩; have HI1 : Hid (Ints w1 Z nz L) := hi1; have HB2 := hide (Below.on HB.out hb); clear hi1 hb)
          | (go_at_call 40; refine (size_any _ _ _ L _ HI1.out).mono ?_; rintro e w' ⟨rfl, hw'⟩; obtain rfl := hw'.symm; rw [← HSS.out]))
        go_ret2
        rw [HPP.out]
        exact ⟨outPL_none _ _, HB2.out⟩

set_option maxRecDepth 100000 in
set_option maxHeartbeats 4000000 in
theorem Do_goodL (k x : Int) (ea : Option Addr) (el ec : Nat) (es : List Int) (pa : Option Addr) (pl pc : Nat) (ps : List Int) (la : Option Addr) (ll lc : Nat) (lo : List Int) (ha : Option Addr) (hl hc : Nat) (hi : List Int) (ta : Option Addr) (tl tc : Nat) (st : List Int) (A : Option Addr) (m cap : Nat) (v : Nat → ArrV) (L : List Int) (n : Nat) (f : List Int) (w : World)
    (he : Lst w ea el ec es) (hp : Lst w pa pl pc ps) (hlo : Lst w la ll lc lo) (hhi : Lst w ha hl hc hi) (hst : Lst w ta tl tc st) (hA : Arrs w A m v) (hm : m ≤ 1048576) (hE : doE k es ps lo hi st m v = 0) (hL : L = (dimsP k es ps lo hi st (dimsOf m v)).1) (hN : (n : Int) = prod L) (hfl : f.length = n) (hfb : ∀ y ∈ f, -9223372036854775808 ≤ y ∧ y ≤ 9223372036854775807)
    (hS : ∀ (W : World) (A : Option Addr) (cap : Nat), Below w.heap.size w W → Lsts W A m (dimsOf m v) → m ≤ cap → Calls Tryz.prog 41 #[.agg #[.int .i64 k, .slice ea el ec, .slice pa pl pc, .slice la ll lc, .slice ha hl hc, .slice ta tl tc, .int .i64 x], .slice A m cap] W fun e w' => OutPL e w' (shapeP k es ps lo hi st (dimsOf m v)) ∧ Below W.heap.size W w')
    (hwork : 0 < n → ∀ (W : World) (Z : Option Addr) (nz cz g : Nat), Below w.heap.size w W → w.heap.size ≤ g → Ints W Z nz L → nz ≤ cz → W.rowIs g 2 n (fun _ => .int .i64 0) → Calls Tryz.prog 24 #[.agg #[.slice Z nz cz, .slice (some ⟨g, 0, none⟩) n n], .agg #[.int .i64 k, .slice ea el ec, .slice pa pl pc, .slice la ll lc, .slice ha hl hc, .slice ta tl tc, .int .i64 x], .slice A m cap] W fun e W' => e = .returned (.tuple #[]) ∧ W'.rowIs g 2 n (fun j => .int .i64 (f[j]?.getD 0)) ∧ Save g W W') :
    Calls Tryz.prog 9 #[.agg #[.int .i64 k, .slice ea el ec, .slice pa pl pc, .slice la ll lc, .slice ha hl hc, .slice ta tl tc, .int .i64 x], .slice A m cap] w fun e w' => (∃ (Z : Option Addr) (nz cz G : Nat), e = .returned (.tuple #[.agg #[.slice Z nz cz, .slice (some ⟨G, 0, none⟩) n n], .int .i64 0]) ∧ (Ints w' Z nz L ∧ (nz ≤ cz ∧ (Z = none → nz = 0))) ∧ Ints w' (some ⟨G, 0, none⟩) n f ∧ w.heap.size ≤ G) ∧ Below w.heap.size w w' := by
  obtain ⟨c1, c2, c3⟩ := doE_ok hE
  have hz := dimsP_ok c3
  rw [← hL] at hz
  have hn6 : n ≤ 65536 := by
    have : arrE L n = 0 := by
      unfold arrE
      rw [if_neg (by rw [hz]; simp), if_neg (by rw [size_prod hz, hN]; simp)]
    exact (arrE_ok this).2.2
  have HE := hide he
  have HP := hide hp
  have HLO := hide hlo
  have HHI := hide hhi
  have HST := hide hst
  have HAA := hide hA
  have HC1 := hide c1
  have HOK := hide (arrsE_ok m c2)
  have HZ := hide hz
  have HN := hide hN
  have HFL := hide hfl
  have HFB := hide hfb
  have HW := hide hwork
  have HSH := hide hS
  have HDP : Hid (dimsP k es ps lo hi st (dimsOf m v) = (L, 0)) := by
    rw [Hid, hL]
    exact Prod.ext rfl c3
  have HB1 := hide ((Below.refl w.heap.size w).alloc (Nat.le_refl _) (.cells #[.int .i64 k, .slice ea el ec, .slice pa pl pc, .slice la ll lc, .slice ha hl hc, .slice ta tl tc, .int .i64 x] 31))
  have HB2 := hide (HB1.out.alloc HB1.out.size (.cells #[.slice none 0 0, .slice none 0 0] 25))
  have HOP := hide ((OpAt.new w k (.slice ea el ec) (.slice pa pl pc) (.slice la ll lc) (.slice ha hl hc) (.slice ta tl tc) x).alloc (.cells #[.slice none 0 0, .slice none 0 0] 25))
  have har := ArrAt.new (w.alloc (.cells #[.int .i64 k, .slice ea el ec, .slice pa pl pc, .slice la ll lc, .slice ha hl hc, .slice ta tl tc, .int .i64 x] 31)) (.slice none 0 0) (.slice none 0 0)
  simp only [World.size_alloc] at har
  have HAR := hide har
  obtain ⟨o0, o1, o2, o3, o4, o5, o6⟩ := HOP.out.cells
  have hmk := run_make_row' (P := Tryz.prog) 45 22 (.slice none 0 0) 24 Tryz.underlying45 info_ints rfl .i64 .i64 m (by omega) (by omega)
  have hmk2 := run_make_row' (P := Tryz.prog) 23 2 (.int .i64 0) 8 Tryz.underlying23 info_int64 rfl .i64 .i64 n (by omega) (by omega)
  clear he hp hlo hhi hst hA har hE hL hN hfl hfb hwork hS c1 c2 c3 hz
  go_enter Tryz.func9, Tryz.ntmps9
  go_wp2_with (go_at_call 20; refine (takes_any _ _ _).mono ?_; rintro e w' ⟨rfl, hw'⟩; obtain rfl := hw'.symm; rw [HC1.out])
  go_loopw [28] (fun i wr => ∃ j : Nat, j ≤ m ∧ i = .int .i64 j ∧ wr.rowIs (w.heap.size + 1 + 1) 22 m (rowV v j) ∧ OpAt wr w.heap.size k (.slice ea el ec) (.slice pa pl pc) (.slice la ll lc) (.slice ha hl hc) (.slice ta tl tc) x ∧ ArrAt wr (w.heap.size + 1) (.slice none 0 0) (.slice none 0 0) ∧ Below w.heap.size w wr) (fun i _ => m - (intOf i).toNat)
  case atStart =>
    refine ⟨0, by omega, rfl, ?_, HOP.out.alloc _, HAR.out.alloc _, HB2.out.alloc HB2.out.size _⟩
    have := World.rowIs_made ((w.alloc (.cells #[.int .i64 k, .slice ea el ec, .slice pa pl pc, .slice la ll lc, .slice ha hl hc, .slice ta tl tc, .int .i64 x] 31)).alloc (.cells #[.slice none 0 0, .slice none 0 0] 25)) (.slice none 0 0) m 22
    simp only [World.size_alloc] at this
    exact this.congr (fun t _ => by simp [rowV])
  case round =>
    obtain ⟨j, hj, rfl, hrow, hop, har, hB⟩ := hrel
    have HR := hide hrow
    have HO := hide hop
    have HA := hide har
    have HB := hide hB
    clear hrow hop har hB o0 o1 o2 o3 o4 o5 o6
    by_cases hlt : j < m
    · obtain ⟨b, off, rfl, hcs⟩ := HAA.out.resolve_left (by omega)
      obtain ⟨d0, d1, hl⟩ := hcs j hlt
      have hbl : b < w.heap.size := lt_of_cell d0
      have hok := HOK.out j hlt
      obtain ⟨⟨da, dl, dc, ds, xa, xl, xc⟩, hv⟩ : ∃ u, u = v j := ⟨_, rfl⟩
      rw [← hv] at d0 d1 hl hok
      simp only [ArrV.d, ArrV.x] at d0 d1 hl hok
      have s0 := (HB.out.cell (p := ⟨b, off + j * 2, none⟩) hbl).trans d0
      have s1 := (HB.out.cell (p := ⟨b, off + j * 2 + 1, none⟩) hbl).trans d1
      have HL := hide hl
      have HV := hide hv
      have HE1 := hide hok
      have HAN := hide (ArrAt.new wr (.slice da dl dc) (.slice xa xl xc))
      have HBN := hide (HB.out.alloc HB.out.size (.cells #[.slice da dl dc, .slice xa xl xc] 25))
      have HAB := hide (HA.out.alloc (.cells #[.slice da dl dc, .slice xa xl xc] 25))
      obtain ⟨⟨a0, a1⟩, _⟩ := HAN.out.cells
      clear hcs d0 d1 hl hv hok
      go_wp2_with (go_at_call 21; refine (awrong_any da dl dc ds xa xl xc _ (HL.out.1.below HBN.out)).mono ?_; rintro e w1 ⟨rfl, hb⟩; rw [HE1.out]; have HB3 := hide (Below.on HBN.out hb); have HA3 := hide (HAB.out.below hb); have HO3 := hide ((HO.out.alloc _).below hb); have HR3 := hide ((HR.out.of_block (Below.heap_alloc _ (.cells #[.slice da dl dc, .slice xa xl xc] 25) _ HR.out.lt)).of_block (hb.block _ (by have := HR.out.lt; simp; omega))); have HAN3 := hide (HAN.out.below hb); clear a0 a1 hb; obtain ⟨⟨a0, a1⟩, _⟩ := HAN3.out.cells; have hr := HR3.out.cell hlt; have hf := HR3.out.frozen j)
      go_roundw
      case rel =>
        refine ⟨j + 1, by omega, by go_num, (HR3.out.set j (.slice da dl dc)).congr (fun t ht => ?_), HO3.out.set (p := ⟨w.heap.size + 1 + 1, j, none⟩) (by simp; omega) _, HA3.out.set (p := ⟨w.heap.size + 1 + 1, j, none⟩) (by simp) _, HB3.out.setCell (p := ⟨w.heap.size + 1 + 1, j, none⟩) (by simp; omega) _⟩
        by_cases e : t = j
        · rw [e, if_pos rfl, rowV, if_pos (by omega), ← HV.out]; rfl
        · rw [if_neg e, rowV, rowV]
          by_cases h : t < j
          · rw [if_pos h, if_pos (by omega)]
          · rw [if_neg h, if_neg (by omega)]
      case measure => simp [intOf]; omega
    · obtain rfl : j = m := by omega
      have HLS : Hid (Lsts wr (some ⟨w.heap.size + 1 + 1, 0, none⟩) j (dimsOf j v)) := by
        refine ⟨dimsOf_len _ _, by omega, ?_⟩
        by_cases h0 : j = 0
        · exact .inl h0
        · refine .inr ⟨_, _, rfl, fun t ht => ?_⟩
          obtain ⟨b, off, rfl, hcs⟩ := HAA.out.resolve_left h0
          have := HR.out.cell ht
          rw [rowV, if_pos ht, ArrV.d] at this
          exact ⟨_, _, _, by rw [Nat.zero_add]; exact this, by rw [dimsOf_at _ _ _ ht]; exact (hcs t ht).2.2.below HB.out⟩
      have hcd := Dims_L k x _ _ ec es _ _ pc ps _ _ lc lo _ _ hc hi _ _ tc st _ _ j (dimsOf j v) wr (HE.out.below HB.out) (HP.out.below HB.out) (HLO.out.below HB.out) (HHI.out.below HB.out) (HST.out.below HB.out) HLS.out (Nat.le_refl _) hm (fun W A cap hW => HSH.out W A cap (Below.on HB.out hW))
      rw [HDP.out] at hcd
      have HCD := hide hcd
      obtain ⟨o0, o1, o2, o3, o4, o5, o6⟩ := HO.out.cells
      clear hcd
      by_cases hn0 : (0 : Int) < (n : Int)
      case neg =>
        have hn2 : decide ((0 : Int) < (n : Int)) = false := decide_eq_false hn0
        have hn3 : n = 0 := by omega
        have hn4 : decide (0 < n) = false := decide_eq_false (by omega)
        have hn5 : ¬ 0 < n := by omega
        have HN3 := hide hn3
        clear hn3 hn0
        go_wp2_with (first
          | (go_at_call 22; refine HCD.out.mono ?_; rintro e w1 ⟨⟨Z, nz, cz, rfl, hi1, hnc⟩, hb⟩; have HI1 : Hid (Ints w1 Z nz L) := hi1; have HB2 := hide (Below.on HB.out hb); have hna := HA.out.lt; have HO2 := hide (HO.out.below hb); have HA2 := hide (HA.out.below hb); clear hi1 hb o0 o1 o2 o3 o4 o5 o6; obtain ⟨o0, o1, o2, o3, o4, o5, o6⟩ := HO2.out.cells)
          | (go_at_call 23; refine (count_any _ _ _ L _ HI1.out (count_ok HZ.out)).mono ?_; rintro e w' ⟨rfl, hw'⟩; obtain rfl := hw'.symm; rw [← HN.out]; have HO5 := hide ((HO2.out.alloc (.cells (madeCells #[.int .i64 0] n) 2)).alloc (.cells #[.slice Z nz cz, .slice (some ⟨w1.heap.size, 0, none⟩) n n] 25)); have HA5 := hide ((HA2.out.alloc (.cells (madeCells #[.int .i64 0] n) 2)).alloc (.cells #[.slice Z nz cz, .slice (some ⟨w1.heap.size, 0, none⟩) n n] 25)); have HB5 := hide ((HB2.out.alloc HB2.out.size (.cells (madeCells #[.int .i64 0] n) 2)).alloc (HB2.out.alloc HB2.out.size (.cells (madeCells #[.int .i64 0] n) 2)).size (.cells #[.slice Z nz cz, .slice (some ⟨w1.heap.size, 0, none⟩) n n] 25)); have hx5 := ArrAt.new (w1.alloc (.cells (madeCells #[.int .i64 0] n) 2)) (.slice Z nz cz) (.slice (some ⟨w1.heap.size, 0, none⟩) n n); simp only [World.size_alloc] at hx5; have HX5 := hide hx5; clear o0 o1 o2 o3 o4 o5 o6 hx5; obtain ⟨o0, o1, o2, o3, o4, o5, o6⟩ := HO5.out.cells; obtain ⟨⟨x0, x1⟩, _⟩ := HX5.out.cells; obtain ⟨⟨a0, a1⟩, fa0, fa1⟩ := HA5.out.cells))
        have hs1 := HB2.out.size
        have ha1 := HA2.out.lt
        obtain ⟨⟨u0, u1⟩, _⟩ := (HA5.out.put (.slice Z nz cz) (.slice (some ⟨w1.heap.size, 0, none⟩) n n)).cells
        refine bodyPost_ret (v := .tuple #[.agg #[.slice Z nz cz, .slice (some ⟨w1.heap.size, 0, none⟩) n n], .int .i64 0]) (by simp [results, Tryz.results9, go_sem, u0, u1]) rfl ⟨⟨Z, nz, cz, w1.heap.size, rfl, ⟨?_, hnc⟩, ?_, hs1⟩, ?_⟩
        · exact ints_put_arr (HI1.out.below (((Below.refl _ _).alloc (Nat.le_refl _) _).alloc (by simp) _)) HA5.out (fun _ _ e => by cases e) (fun _ _ e => by cases e) _ _
        · exact ⟨HFL.out, by omega, HFB.out, .inl HN3.out⟩
        · exact (HB5.out.setCell (p := ⟨w.heap.size + 1, 0, none⟩) (by simp) _).setCell (p := ⟨w.heap.size + 1, 1, none⟩) (by simp) _
      go_wp2_with (first
        | (go_at_call 22; refine HCD.out.mono ?_; rintro e w1 ⟨⟨Z, nz, cz, rfl, hi1, hnc⟩, hb⟩; have HI1 : Hid (Ints w1 Z nz L) := hi1; have HB2 := hide (Below.on HB.out hb); have hna := HA.out.lt; have HO2 := hide (HO.out.below hb); have HA2 := hide (HA.out.below hb); clear hi1 hb o0 o1 o2 o3 o4 o5 o6; obtain ⟨o0, o1, o2, o3, o4, o5, o6⟩ := HO2.out.cells)
        | (go_at_call 23; refine (count_any _ _ _ L _ HI1.out (count_ok HZ.out)).mono ?_; rintro e w' ⟨rfl, hw'⟩; obtain rfl := hw'.symm; rw [← HN.out]; have HO5 := hide ((HO2.out.alloc (.cells (madeCells #[.int .i64 0] n) 2)).alloc (.cells #[.slice Z nz cz, .slice (some ⟨w1.heap.size, 0, none⟩) n n] 25)); have HA5 := hide ((HA2.out.alloc (.cells (madeCells #[.int .i64 0] n) 2)).alloc (.cells #[.slice Z nz cz, .slice (some ⟨w1.heap.size, 0, none⟩) n n] 25)); have HB5 := hide ((HB2.out.alloc HB2.out.size (.cells (madeCells #[.int .i64 0] n) 2)).alloc (HB2.out.alloc HB2.out.size (.cells (madeCells #[.int .i64 0] n) 2)).size (.cells #[.slice Z nz cz, .slice (some ⟨w1.heap.size, 0, none⟩) n n] 25)); have hx5 := ArrAt.new (w1.alloc (.cells (madeCells #[.int .i64 0] n) 2)) (.slice Z nz cz) (.slice (some ⟨w1.heap.size, 0, none⟩) n n); simp only [World.size_alloc] at hx5; have HX5 := hide hx5; clear o0 o1 o2 o3 o4 o5 o6 hx5; obtain ⟨o0, o1, o2, o3, o4, o5, o6⟩ := HO5.out.cells; obtain ⟨⟨x0, x1⟩, _⟩ := HX5.out.cells)
        | (go_at_call 24; refine (HW.out (by omega) _ Z nz cz w1.heap.size HB5.out HB2.out.size (HI1.out.below (((Below.refl _ _).alloc (Nat.le_refl _) _).alloc (by simp) _)) hnc.1 ((World.rowIs_made w1 (.int .i64 0) n 2).of_block (Below.heap_alloc _ _ _ (by simp)))).mono ?_; rintro e w6 ⟨rfl, hr6, hsv⟩; have hs0 := HB2.out.size; have ha0 := HA2.out.lt; have HR6 := hide hr6; have HX6 : Hid (ArrAt w6 (w1.heap.size + 1) _ _) := (hsv.1 (w1.heap.size + 1) (by simp) (by omega)).trans HX5.out; have HA6 : Hid (ArrAt w6 (w.heap.size + 1) _ _) := (hsv.1 (w.heap.size + 1) (by simp; omega) (by omega)).trans HA5.out; have HI6 := hide (ints_save HI1.out (((Below.refl _ _).alloc (Nat.le_refl _) (.cells (madeCells #[.int .i64 0] n) 2)).alloc (by simp) (.cells #[.slice Z nz cz, .slice (some ⟨w1.heap.size, 0, none⟩) n n] 25)) hsv); have HB6 := hide (Save.below HB5.out hsv (by omega) (Nat.le_refl _)); clear hsv hr6 x0 x1 o0 o1 o2 o3 o4 o5 o6; obtain ⟨⟨x0, x1⟩, _⟩ := HX6.out.cells; obtain ⟨⟨a0, a1⟩, fa0, fa1⟩ := HA6.out.cells))
      have hs1 := HB2.out.size
      have ha1 := HA2.out.lt
      obtain ⟨⟨u0, u1⟩, _⟩ := (HA6.out.put (.slice Z nz cz) (.slice (some ⟨w1.heap.size, 0, none⟩) n n)).cells
      refine bodyPost_ret (v := .tuple #[.agg #[.slice Z nz cz, .slice (some ⟨w1.heap.size, 0, none⟩) n n], .int .i64 0]) (by simp [results, Tryz.results9, go_sem, u0, u1]) rfl ⟨⟨Z, nz, cz, w1.heap.size, rfl, ⟨?_, hnc⟩, ?_, hs1⟩, ?_⟩
      · exact ints_put_arr HI6.out HA6.out (fun _ _ e => by cases e) (fun _ _ e => by cases e) _ _
      · have hr8 := (HR6.out.setOther (a := ⟨w.heap.size + 1, 0, none⟩) (by simp; omega) (.slice Z nz cz)).setOther (a := ⟨w.heap.size + 1, 1, none⟩) (by simp; omega) (.slice (some ⟨w1.heap.size, 0, none⟩) n n)
        exact ⟨HFL.out, by omega, HFB.out, .inr ⟨_, _, rfl, fun t ht => by rw [Nat.zero_add]; exact hr8.cell ht⟩⟩
      · exact (HB6.out.setCell (p := ⟨w.heap.size + 1, 0, none⟩) (by simp) _).setCell (p := ⟨w.heap.size + 1, 1, none⟩) (by simp) _

/-- What Do makes, with a list of dimensions that can be handed on. -/
def DoesToL (W : World) (L f : List Int) (N : Nat) (e : Ending) (W' : World) : Prop :=
  ∃ (Z : Option Addr) (nz cz G : Nat), e = .returned (.tuple #[.agg #[.slice Z nz cz, .slice (some ⟨G, 0, none⟩) N N], .int .i64 0]) ∧ (Ints W' Z nz L ∧ (nz ≤ cz ∧ (Z = none → nz = 0))) ∧ Ints W' (some ⟨G, 0, none⟩) N f ∧ W.heap.size ≤ G

theorem do_takeL (x : Int) (ea : Option Addr) (el ec : Nat) (es : List Int) (pa : Option Addr) (pl pc : Nat) (ps : List Int) (la : Option Addr) (ll lc : Nat) (lo : List Int) (ha : Option Addr) (hl hc : Nat) (hi : List Int) (ta : Option Addr) (tl tc : Nat) (st : List Int) (ds : List Int) (n : Nat) (fa : Option Addr) (fl fc : Nat) (gs : List Int) (ya : Option Addr) (m yc : Nat) (ys : List Int) (w : World)
    (he : Lst w ea el ec es) (hp : Lst w pa pl pc ps) (hlo : Lst w la ll lc lo) (hhi : Lst w ha hl hc hi) (hst : Lst w ta tl tc st) (b0 : el ≤ 1048576) (b1 : pl ≤ 1048576) (b2 : ll ≤ 1048576) (b3 : hl ≤ 1048576) (b4 : tl ≤ 1048576) (hf : Lst w fa fl fc gs) (hy : Ints w ya m ys) (hE : doE 18 es ps lo hi st 2 (pairV ds n gs m) = 0) : ∃ D long : Nat, ds.length ≠ 0 ∧ ds[0]?.getD 0 = (D : Int) ∧ prod (ds.drop 1) = (long : Int) ∧ n = D * long ∧ arrE (gs ++ ds.drop 1) (m * long) = 0 ∧ ∀ (W : World) (b off cap : Nat) (da : Option Addr) (dl dc : Nat) (xa : Option Addr) (xc : Nat) (xs : List Int), Below w.heap.size w W → W.cell? ⟨b, off, none⟩ = some (.slice da dl dc) → W.cell? ⟨b, off + 1, none⟩ = some (.slice xa n xc) → W.cell? ⟨b, off + 2, none⟩ = some (.slice fa fl fc) → W.cell? ⟨b, off + 3, none⟩ = some (.slice ya m yc) → Lst W da dl dc ds → Ints W xa n xs → n ≤ xc →
    Calls Tryz.prog 9 #[.agg #[.int .i64 18, .slice ea el ec, .slice pa pl pc, .slice la ll lc, .slice ha hl hc, .slice ta tl tc, .int .i64 x], .slice (some ⟨b, off, none⟩) 2 cap] W fun e W' => DoesToL W (gs ++ ds.drop 1) (takeL xs ys long D (m * long)) (m * long) e W' ∧ Below W.heap.size W W' := by
  obtain ⟨ha1, ha2, hs1, hs2, hs3⟩ := pairV_parts hE
  have hsh : shapeP 18 es ps lo hi st [ds, gs] = takeP ds gs := rfl
  rw [hsh] at hs1 hs2 hs3
  have hz1 := (arrE_ok ha1).1
  have hz2 := (arrE_ok ha2).1
  have hn := (arrE_ok ha1).2.1
  have hm := (arrE_ok ha2).2.1
  have hn6 := (arrE_ok ha1).2.2
  have hT : ds.length ≠ 0 ∧ (takeP ds gs).1 = gs ++ ds.drop 1 := by
    unfold takeP at hs1 ⊢
    by_cases c : ds.length = 0
    · rw [if_pos c] at hs1; exact absurd hs1 (by simp)
    · rw [if_neg c]; exact ⟨c, rfl⟩
  obtain ⟨hl0, hq1⟩ := hT
  rw [hq1] at hs2 hs3
  obtain ⟨haL, hN⟩ := arrE_of hs2
  obtain ⟨D, hD⟩ := nat_of' (size_nn hz1 _ (mem_getD ds 0 (by omega)))
  obtain ⟨long, hlong⟩ := nat_prod (l := ds.drop 1) (fun x hx => size_nn hz1 x (List.mem_of_mem_drop hx))
  have en : n = D * long := by
    have := prod_drop ds 0 (by omega)
    rw [List.drop_zero, hD, Nat.zero_add, hlong, ← Int.natCast_mul] at this
    omega
  have eN : (prod (gs ++ ds.drop 1)).toNat = m * long := by
    have : prod (gs ++ ds.drop 1) = ((m * long : Nat) : Int) := by rw [prod_append, ← hm, hlong, ← Int.natCast_mul]
    rw [this]; omega
  have hN6 := (arrE_ok haL).2.2
  rw [eN] at haL hN hN6
  refine ⟨D, long, hl0, hD, hlong, en, haL, ?_⟩
  intro W b off cap da dl dc xa xc xs hW c0 c1 c2 c3 hd hx hxc
  refine Do_goodL 18 x ea el ec es pa pl pc ps la ll lc lo ha hl hc hi ta tl tc st (some ⟨b, off, none⟩) 2 cap (twoV2 da dl dc ds xa n xc fa fl fc gs ya m yc) (gs ++ ds.drop 1) (m * long) (takeL xs ys long D (m * long)) W (he.below hW) (hp.below hW) (hlo.below hW) (hhi.below hW) (hst.below hW) (arrs_two c0 c1 c2 c3 hd (hf.below hW)) (by omega) ((doE_congr (two_congr _ _ _ _ _ _ _ _ _ _ _ _ _ _)).trans hE) hs3.symm hN (takeL_length _ _ _ _ _) (fun y hy' => by
    simp only [takeL, List.mem_map] at hy'
    obtain ⟨i, _, rfl⟩ := hy'
    split
    · exact bnd_at hx.2.2.1 _
    · omega) (fun W2 A cap2 hW2 hls hcp => shape_18L x ea el ec es pa pl pc ps la ll lc lo ha hl hc hi ta tl tc st A 2 cap2 _ W2 ((he.below hW).below hW2) ((hp.below hW).below hW2) ((hlo.below hW).below hW2) ((hhi.below hW).below hW2) ((hst.below hW).below hW2) hls hcp (fun d hd => ?_) rfl (by omega) b0 b1 b2 b3 b4) ?_
  · have hd' : d ∈ [ds, gs] := hd
    simp only [List.mem_cons, List.not_mem_nil, or_false] at hd'
    rcases hd' with rfl | rfl
    · exact hz1
    · exact hz2
  intro hpos W2 Z nz cz g hW2 hg _ _ hrow
  have hm0 := (pos_of_lt_mul hpos).1
  have hbk := lt_of_cell c0
  refine work_take x (.slice ea el ec) (.slice pa pl pc) (.slice la ll lc) (.slice ha hl hc) (.slice ta tl tc) Z nz cz g (m * long) b off cap (.slice da dl dc) (.slice xa n xc) (.slice fa fl fc) (.slice ya m yc) _ W2 ((hW2.cell (p := ⟨b, off, none⟩) (lt_of_cell c0)).trans c0) ((hW2.cell (p := ⟨b, off + 1, none⟩) (lt_of_cell c1)).trans c1) ((hW2.cell (p := ⟨b, off + 2, none⟩) (lt_of_cell c2)).trans c2) ((hW2.cell (p := ⟨b, off + 3, none⟩) (lt_of_cell c3)).trans c3) hrow (fun W3 hW3 hrow3 => ?_)
  have hWW := hW.trans (hW2.mono hW.size)
  have h3 := hWW.trans (hW3.mono hWW.size)
  have g3 := hW2.trans (hW3.mono hW2.size)
  exact takeRows_any g (m * long) m long D da dl dc ds xa n xc xs ya yc ys W3 (hd.1.below g3) (by rw [← hd.1.1]; omega) hD (hx.below g3) (hy.below h3) hxc rfl hpos en hN6 hn6 (off_new (W := W) hd.1 (by rw [← hd.1.1]; omega) hg) (fun h0 => off_new (W := W) hx h0 hg) (off_new (W := W) (hy.below hW) hm0 hg) hrow3

end Go.Proofs.YteoobeldmicjhaaGreat.V
