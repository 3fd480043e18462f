/-
  Contract: adjointref2.Do, where it tells an error; and where it does not, over what entry tells. Contract: adjointref2.Do, where it tells no error, over what entry tells. Contracts: adjointref2.Do of what looks at an array through a view: just what is made.
-/
import Derived.Test.YteoobeldmicjhaaGreatPCKArrayCuts33
import Derived.Test.YteoobeldmicjhaaGreatPCKArrayCuts28
import Derived.Test.YteoobeldmicjhaaGreatPCKArrayCuts45
import Derived.Test.YteoobeldmicjhaaGreatPCKArrayCuts16
import Derived.Test.YteoobeldmicjhaaGreatPCKArrayCuts39
import Derived.Test.YteoobeldmicjhaaGreatPCKArrayCuts40
import Derived.Test.YteoobeldmicjhaaGreatPCKArrayCuts42
namespace Go.Proofs.YteoobeldmicjhaaGreat.V
set_option maxRecDepth 20000
open Go.RowKit

/-- What an own row of lists is. -/
theorem own_row {w : World} {B : Nat} {t : TypeId} {n : Nat} {v : Value} {vs : List Value} (h : w.ownsRow B t 1 v n vs) : ∃ A c, v = .slice A n c ∧ n ≤ c ∧ (n = 0 ∨ ∃ g, A = some ⟨g, 0, none⟩ ∧ B ≤ g ∧ ∀ i, i < n → w.cell? ⟨g, i, none⟩ = vs[i]?) := by
  have h' := h
  rcases h.2 with ⟨rfl, h2⟩ | ⟨g, cap, cur, rfl, h3, h5, h4, h6⟩
  · subst h2
    exact ⟨none, 0, rfl, Nat.le_refl _, .inl rfl⟩
  · exact ⟨_, _, rfl, h4, .inr ⟨g, rfl, h3, fun i hi => h'.cellAt i (by omega)⟩⟩
theorem OpAt.grown {w w' : World} {b : Nat} {k : Int} {vd va vl vh vs : Value} {x : Int} {row : Option Nat} (h : OpAt w b k vd va vl vh vs x) (hg : w.grownBy w' row) (hne : some b ≠ row) : OpAt w' b k vd va vl vh vs x := (hg.block b h.lt hne).trans h
theorem ArrAt.grown {w w' : World} {b : Nat} {c0 c1 : Value} {row : Option Nat} (h : ArrAt w b c0 c1) (hg : w.grownBy w' row) (hne : some b ≠ row) : ArrAt w' b c0 c1 := (hg.block b h.lt hne).trans h
theorem own_ne {w : World} {B b : Nat} {t : TypeId} {n : Nat} {v : Value} {vs : List Value} (h : w.ownsRow B t 1 v n vs) (hb : b < B) : some b ≠ v.ownBlock := fun e => by
  have := (h.lt b e.symm).1
  omega
def dimRow (v : Nat → ArrV) (j : Nat) : List Value := (List.range j).map fun t => (v t).d
theorem dimRow_succ (v : Nat → ArrV) (j : Nat) : dimRow v (j + 1) = dimRow v j ++ [(v j).d] := by simp [dimRow, List.range_succ]

set_option maxRecDepth 100000 in
set_option maxHeartbeats 4000000 in
theorem rDo_bad (k x : Int) (ea : Option Addr) (el ec : Nat) (es : List Int) (pa : Option Addr) (pl pc : Nat) (ps : List Int) (la : Option Addr) (ll lc : Nat) (lo : List Int) (ha : Option Addr) (hl hc : Nat) (hi : List Int) (ta : Option Addr) (tl tc : Nat) (st : List Int) (A : Option Addr) (m cap : Nat) (v : Nat → ArrV) (w : World)
    (he : Lst w ea el ec es) (hp : Lst w pa pl pc ps) (hlo : Lst w la ll lc lo) (hhi : Lst w ha hl hc hi) (hst : Lst w ta tl tc st) (b0 : el ≤ 1048576) (b1 : pl ≤ 1048576) (b2 : ll ≤ 1048576) (b3 : hl ≤ 1048576) (b4 : tl ≤ 1048576) (hA : Arrs w A m v) (hm : m ≤ 1048576) (hE : doE k es ps lo hi st m v ≠ 0) :
    Calls Tryz.prog 8 #[.agg #[.int .i64 k, .slice ea el ec, .slice pa pl pc, .slice la ll lc, .slice ha hl hc, .slice ta tl tc, .int .i64 x], .slice A m cap] w fun e w' => e = .returned (.tuple #[.agg #[.slice none 0 0, .slice none 0 0], .int .i64 (doE k es ps lo hi st m v)]) ∧ Below w.heap.size w w' := by
  have HE := hide he
  have HP := hide hp
  have HLO := hide hlo
  have HHI := hide hhi
  have HST := hide hst
  have HAA := hide hA
  have HB2 := hide (((Below.refl w.heap.size w).alloc (Nat.le_refl _) (.cells #[.int .i64 k, .slice ea el ec, .slice pa pl pc, .slice la ll lc, .slice ha hl hc, .slice ta tl tc, .int .i64 x] 31)).alloc (by simp) (.cells #[.slice none 0 0, .slice none 0 0] 25))
  have HOP := hide ((OpAt.new w k (.slice ea el ec) (.slice pa pl pc) (.slice la ll lc) (.slice ha hl hc) (.slice ta tl tc) x).alloc (.cells #[.slice none 0 0, .slice none 0 0] 25))
  have har := ArrAt.new (w.alloc (.cells #[.int .i64 k, .slice ea el ec, .slice pa pl pc, .slice la ll lc, .slice ha hl hc, .slice ta tl tc, .int .i64 x] 31)) (.slice none 0 0) (.slice none 0 0)
  simp only [World.size_alloc] at har
  have HAR := hide har
  obtain ⟨o0, o1, o2, o3, o4, o5, o6⟩ := HOP.out.cells
  obtain ⟨⟨r0, r1⟩, fr0, fr1⟩ := HAR.out.cells
  have HDE := hide (show doE k es ps lo hi st m v = if takesE k m ≠ 0 then takesE k m else if arrsE v m ≠ 0 then arrsE v m else (dimsP k es ps lo hi st (dimsOf m v)).2 from rfl)
  have HNE := hide hE
  obtain ⟨i0, hi0, hz0, hz1, hz2⟩ := info_parts info_ints
  have HI := hide hi0
  have HZ0 := hide hz0
  have HZ1 := hide hz1
  have HZ2' := hide hz2
  clear he hp hlo hhi hst hA har hE hi0 hz0 hz1 hz2
  by_cases c1 : takesE k m = 0
  case neg =>
    obtain ⟨T, hT⟩ : ∃ T, T = takesE k m := ⟨_, rfl⟩
    have hd : doE k es ps lo hi st m v = T := by rw [HDE.out, if_pos c1, hT]
    rw [hd]
    have HT := hide hT
    have q : (T != 0) = true := by rw [hT]; simp [c1]
    clear hd c1 hT
    go_enter Tryz.func8, Tryz.ntmps8
    go_wp2_with (go_at_call 15; refine (right_any _ _ _ _ _ _ _ _ _).mono ?_; rintro e w1 ⟨rfl, hb1⟩; rw [← HT.out]; have HB3 := hide (Below.on HB2.out hb1); have HO3 := hide (HOP.out.below hb1); have HA3 := hide (HAR.out.below hb1); have HSZ := hide (show w.heap.size + 2 ≤ w1.heap.size by have := hb1.size; simp at this; omega); clear hb1 o0 o1 o2 o3 o4 o5 o6 r0 r1 fr0 fr1; obtain ⟨⟨r0, r1⟩, fr0, fr1⟩ := HA3.out.cells)
    obtain ⟨⟨u0, u1⟩, _⟩ := (HA3.out.put (.slice none 0 0) (.slice none 0 0)).cells
    exact bodyPost_ret (v := .tuple #[.agg #[.slice none 0 0, .slice none 0 0], .int .i64 T]) (by simp [results, Tryz.results8, go_sem, u0, u1]) rfl ⟨rfl, (HB3.out.setCell (p := ⟨w.heap.size + 1, 0, none⟩) (by simp) _).setCell (p := ⟨w.heap.size + 1, 1, none⟩) (by simp) _⟩
  have HC1 := hide c1
  clear c1
  go_enter Tryz.func8, Tryz.ntmps8
  go_wp2_with (go_at_call 15; refine (right_any _ _ _ _ _ _ _ _ _).mono ?_; rintro e w1 ⟨rfl, hb1⟩; rw [HC1.out]; have HB3 := hide (Below.on HB2.out hb1); have HO3 := hide (HOP.out.below hb1); have HA3 := hide (HAR.out.below hb1); have HSZ := hide (show w.heap.size + 2 ≤ w1.heap.size by have := hb1.size; simp at this; omega); clear hb1 o0 o1 o2 o3 o4 o5 o6 r0 r1 fr0 fr1)
  go_loopw [7, 26] (fun ds i wr => ∃ j : Nat, j ≤ m ∧ i = .int .i64 j ∧ (∀ t, t < j → arrE (v t).ds (v t).xl = 0) ∧ wr.ownsRow (w.heap.size + 2) 22 1 ds j (dimRow v j) ∧ OpAt wr w.heap.size k (.slice ea el ec) (.slice pa pl pc) (.slice la ll lc) (.slice ha hl hc) (.slice ta tl tc) x ∧ ArrAt wr (w.heap.size + 1) (.slice none 0 0) (.slice none 0 0) ∧ Below w.heap.size w wr ∧ w.heap.size + 2 ≤ wr.heap.size) (fun _ i _ => m - (intOf i).toNat)
  case atStart => exact ⟨0, by omega, rfl, fun t ht => by omega, World.ownsRow_nil _ _ _ _, HO3.out, HA3.out, HB3.out, HSZ.out⟩
  case round =>
    clear HB3 HO3 HA3 HSZ
    obtain ⟨j, hj, rfl, hgood, hrow, hop, har, hB, hsz⟩ := hrel
    have HG := hide hgood
    have HR := hide hrow
    have HO := hide hop
    have HA := hide har
    have HB := hide hB
    have HSZ := hide hsz
    clear hgood hrow hop har hB hsz
    by_cases hlt : j < m
    · obtain ⟨b, off, rfl, hcs⟩ := HAA.out.resolve_left (by omega)
      obtain ⟨d0, d1, hl⟩ := hcs j hlt
      have hbl : b < w.heap.size := lt_of_cell d0
      obtain ⟨⟨da, dl, dc, ds, xa, xl, xc⟩, hv⟩ : ∃ u, u = v j := ⟨_, rfl⟩
      rw [← hv] at d0 d1 hl
      simp only [ArrV.d, ArrV.x] at d0 d1 hl
      have s0 := (HB.out.cell (p := ⟨b, off + j * 2, none⟩) hbl).trans d0
      have s1 := (HB.out.cell (p := ⟨b, off + j * 2 + 1, none⟩) hbl).trans d1
      have HL := hide hl
      have HV := hide hv
      have HAN := hide (ArrAt.new wr (.slice da dl dc) (.slice xa xl xc))
      have HBN := hide (HB.out.alloc HB.out.size (.cells #[.slice da dl dc, .slice xa xl xc] 25))
      have HAB := hide (HA.out.alloc (.cells #[.slice da dl dc, .slice xa xl xc] 25))
      obtain ⟨⟨a0, a1⟩, _⟩ := HAN.out.cells
      clear hcs d0 d1 hl hv
      by_cases e1 : arrE ds xl = 0
      · have HE1 := hide e1
        clear e1
        go_wp2_with (first
          | (go_at_call 16; refine (rawrong_any da dl dc ds xa xl xc _ (HL.out.1.below HBN.out)).mono ?_; rintro e w1 ⟨rfl, hb⟩; rw [HE1.out]; have HB3 := hide (Below.on HBN.out hb); have HA3 := hide (HAB.out.below hb); have HO3 := hide ((HO.out.alloc _).below hb); have HR3 := hide (own_below (HR.out.alloc _) hb); have HAN3 := hide (HAN.out.below hb); have HSZ3 := hide (show w.heap.size + 2 ≤ w1.heap.size by have := hb.size; have := HSZ.out; simp at *; omega); clear a0 a1 hb; obtain ⟨⟨a0, a1⟩, _⟩ := HAN3.out.cells)
          | (at_builtin; refine wpList_append_own _ rfl _ _ 45 rfl (w.heap.size + 2) 22 i0 (.slice none 0 0) 1 24 Tryz.underlying45 HI.out HZ0.out HZ1.out HZ2'.out rfl (by decide) _ _ _ rfl (HR3.out.alloc _) ⟨w1.heap.size, 0, none⟩ 1 1 [.slice da dl dc] rfl rfl (cell_one_new _ _ _) (by simp [Value.oneCell']) (by unfold maxLen; omega) (by omega) (by have := HSZ3.out; simp; omega) ?_; intro v' w3 hown' hgrow hnn; have HO' := hide hown'; have HG' := hide hgrow; clear hown' hgrow hnn))
        go_roundw
        case rel =>
          refine ⟨j + 1, by omega, by go_num, fun t ht => ?_, by rw [dimRow_succ, ← HV.out]; exact HO'.out, (HO3.out.alloc _).grown HG'.out (own_ne HR3.out (by omega)), (HA3.out.alloc _).grown HG'.out (own_ne HR3.out (by omega)), ?_, ?_⟩
          · by_cases e : t = j
            · rw [e, ← HV.out]; exact HE1.out
            · exact HG.out t (by omega)
          · exact (HB3.out.alloc HB3.out.size _).grown HG'.out (by have := HB3.out.size; simp; omega) (fun i e => by have := (HR3.out.lt i e).1; omega)
          · have := HG'.out.size
            have := HSZ3.out
            simp at *
            omega
        case measure => simp [intOf]; omega
      · obtain ⟨T, hT⟩ : ∃ T, T = arrE ds xl := ⟨_, rfl⟩
        have hd : doE k es ps lo hi st m v = T := by
          have e0 : arrE (v j).ds (v j).xl ≠ 0 := by rw [← HV.out]; exact e1
          have e2 := arrsE_at HG.out e0 m hlt
          rw [HDE.out, if_neg (by rw [HC1.out]; simp), e2, if_pos e0, ← HV.out, hT]
        have HD := hide hd
        have HT := hide hT
        have q : (T != 0) = true := by rw [hT]; simp [e1]
        clear hd hT e1
        go_wp2_with (go_at_call 16; refine (rawrong_any da dl dc ds xa xl xc _ (HL.out.1.below HBN.out)).mono ?_; rintro e w1 ⟨rfl, hb⟩; rw [← HT.out]; have HB3 := hide (Below.on HBN.out hb); have HA3 := hide (HAB.out.below hb); clear hb; obtain ⟨⟨r0, r1⟩, fr0, fr1⟩ := HA3.out.cells)
        obtain ⟨⟨u0, u1⟩, _⟩ := (HA3.out.put (.slice none 0 0) (.slice none 0 0)).cells
        rw [HD.out]
        exact bodyPost_ret (v := .tuple #[.agg #[.slice none 0 0, .slice none 0 0], .int .i64 T]) (by simp [results, Tryz.results8, go_sem, u0, u1]) rfl ⟨rfl, (HB3.out.setCell (p := ⟨w.heap.size + 1, 0, none⟩) (by simp) _).setCell (p := ⟨w.heap.size + 1, 1, none⟩) (by simp) _⟩
    · obtain rfl : j = m := by omega
      have hall := arrsE_all j HG.out
      obtain ⟨R, rc, rfl, hrc, hrow⟩ := own_row HR.out
      have HLS : Hid (Lsts wr R j (dimsOf j v)) := by
        refine ⟨dimsOf_len _ _, by omega, ?_⟩
        rcases hrow with h0 | ⟨g, rfl, _, hcell⟩
        · exact .inl h0
        · by_cases h0 : j = 0
          · exact .inl h0
          refine .inr ⟨_, _, rfl, fun t ht => ?_⟩
          obtain ⟨b, off, rfl, hcs⟩ := HAA.out.resolve_left h0
          have := hcell t ht
          refine ⟨(v t).da, (v t).dl, (v t).dc, ?_, by rw [dimsOf_at _ _ _ ht]; exact (hcs t ht).2.2.below HB.out⟩
          rw [Nat.zero_add, this]
          simp [dimRow, ht, ArrV.d]
      have HCD := hide (rDims_any k x _ _ ec es _ _ pc ps _ _ lc lo _ _ hc hi _ _ tc st _ _ rc (dimsOf j v) wr (HE.out.below HB.out) (HP.out.below HB.out) (HLO.out.below HB.out) (HHI.out.below HB.out) (HST.out.below HB.out) HLS.out hrc hm b0 b1 b2 b3 b4)
      have hd : doE k es ps lo hi st j v = (dimsP k es ps lo hi st (dimsOf j v)).2 := by rw [HDE.out, if_neg (by rw [HC1.out]; simp), if_neg (by rw [hall]; simp)]
      obtain ⟨T, hT⟩ : ∃ T, T = (dimsP k es ps lo hi st (dimsOf j v)).2 := ⟨_, rfl⟩
      rw [← hT] at hd
      have hne := HNE.out
      rw [hd] at hne
      have q : (T != 0) = true := by simp [hne]
      have HD := hide hd
      have HT := hide hT
      obtain ⟨o0, o1, o2, o3, o4, o5, o6⟩ := HO.out.cells
      clear hall hd hT hne hrow hrc HR
      go_wp2_with (go_at_call 17; refine HCD.out.mono ?_; rintro e w1 ⟨⟨Z, nz, cz, rfl, hi1, hnc⟩, hb⟩; rw [← HT.out]; have HB3 := hide (Below.on HB.out hb); have HA3 := hide (HA.out.below hb); clear hi1 hb o0 o1 o2 o3 o4 o5 o6; obtain ⟨⟨r0, r1⟩, fr0, fr1⟩ := HA3.out.cells)
      obtain ⟨⟨u0, u1⟩, _⟩ := (HA3.out.put (.slice none 0 0) (.slice none 0 0)).cells
      rw [HD.out]
      exact bodyPost_ret (v := .tuple #[.agg #[.slice none 0 0, .slice none 0 0], .int .i64 T]) (by simp [results, Tryz.results8, go_sem, u0, u1]) rfl ⟨rfl, (HB3.out.setCell (p := ⟨w.heap.size + 1, 0, none⟩) (by simp) _).setCell (p := ⟨w.heap.size + 1, 1, none⟩) (by simp) _⟩
end Go.Proofs.YteoobeldmicjhaaGreat.V
namespace Go.Proofs.YteoobeldmicjhaaGreat.V
set_option maxRecDepth 20000
open Go.RowKit

theorem ints_grown' {w w' : World} {g n : Nat} {xs : List Int} {row : Option Nat} (h : Ints w (some ⟨g, 0, none⟩) n xs) (hg : w.grownBy w' row) (hne : 0 < n → some g ≠ row) : Ints w' (some ⟨g, 0, none⟩) n xs := by
  obtain ⟨h1, h2, h3, h4⟩ := h
  refine ⟨h1, h2, h3, ?_⟩
  rcases h4 with h4 | ⟨b, off, e, hc⟩
  · exact .inl h4
  by_cases h0 : n = 0
  · exact .inl h0
  refine .inr ⟨b, off, e, fun j hj => ?_⟩
  cases e
  have c := hc j hj
  exact (World.cell?_of_block (hg.block g (lt_of_cell c) (hne (by omega)))).trans c
theorem ints_save' {w w' : World} {g n O : Nat} {xs : List Int} (h : Ints w (some ⟨g, 0, none⟩) n xs) (hs : Save O w w') (hne : g ≠ O) : Ints w' (some ⟨g, 0, none⟩) n xs := by
  obtain ⟨h1, h2, h3, h4⟩ := h
  refine ⟨h1, h2, h3, ?_⟩
  rcases h4 with h4 | ⟨b, off, e, hc⟩
  · exact .inl h4
  refine .inr ⟨b, off, e, fun j hj => ?_⟩
  cases e
  have c := hc j hj
  exact (World.cell?_of_block (hs.1 g (lt_of_cell c) hne)).trans c
theorem grown_trans {row : Option Nat} (w w' w'' : World) (h : w.grownBy w' row) (k : w'.grownBy w'' row) : w.grownBy w'' row :=
  ⟨k.os.trans h.os, k.tape.trans h.tape, k.output.trans h.output, Nat.le_trans h.size k.size, fun i hi hne => (k.block i (Nat.lt_of_lt_of_le hi h.size) hne).trans (h.block i hi hne)⟩
theorem grown_of {row : Option Nat} (w w' : World) (h : Below w.heap.size w w') : w.grownBy w' row := ⟨h.os, h.tape, h.output, h.size, fun i hi _ => h.block i hi⟩
theorem wp_append_own {P : Program} {w : World} {o : Oper} {a : Act} {K : Act → World → Prop} {Q : Exit → Act → World → Prop} (s x : Operand) (t e : TypeId) (ho : o.op = .call { callee := .builtin .append, args := #[s, x], argTypes := #[t, t] })
    (ht : P.underlying t = some (.slice e)) (hi : (P.info? e).map (fun i => (i.zero, i.size, i.bytes)) = some (some (.int .i64 0), 1, 8)) (base : Nat) (v : Value) (n : Nat) (xs : List Value) (hs : a.eval s = v) (hown : w.ownsRow base e 1 v n xs)
    (B : Nat) (y : Int) (hx : a.eval x = .slice (some ⟨B, 0, none⟩) 1 1) (hy : w.cell? ⟨B, 0, none⟩ = some (.int .i64 y)) (h63 : n ≤ 65536) (hbase : base ≤ w.heap.size)
    (h : ∀ v' w', w'.ownsRow base e 1 v' (n + 1) (xs ++ [.int .i64 y]) → w.grownBy w' v.ownBlock → K (a.put o.dst v') w') : o.wp P a w K Q := by
  obtain ⟨i, hi1, hz, hsz, hby⟩ : ∃ i, P.info? e = some i ∧ i.zero = some (.int .i64 0) ∧ i.size = 1 ∧ i.bytes = 8 := by
    cases hh : P.info? e with
    | none => rw [hh] at hi; cases hi
    | some i =>
      rw [hh] at hi
      simp only [Option.map_some, Option.some.injEq, Prod.mk.injEq] at hi
      exact ⟨i, rfl, hi.1, hi.2.1, hi.2.2⟩
  obtain ⟨v', w', hr, h2, h3, h4, h5⟩ := run_append_own_at (P := P) w base t o.type e i (.int .i64 0) 1 8 ht hi1 hz hsz hby rfl (by decide) v n xs hown ⟨B, 0, none⟩ 1 1 [.int .i64 y] rfl (fun j u hj => by
    match j, hj with
    | 0, hj =>
      simp at hj
      subst hj
      rw [Go.WideShapes.add_plain]
      exact hy) (by simp [Value.oneCell']) (by unfold maxLen; omega) (by omega) hbase
  unfold Oper.wp execOp
  simp only [ho, resolve, invoke, builtin, Sem.run_bind, Sem.run_pure, Result.andThen_ok, List.map_toArray, List.map_cons, List.map_nil, hs, hx, hr]
  exact h v' w' h2 h3
/-- A new cell, out of the row. -/
def fCell (row : Option Nat) (y : Int) : Fact := ⟨fun u W => ∃ B, u = .slice (some ⟨B, 0, none⟩) 1 1 ∧ W.cell? ⟨B, 0, none⟩ = some (.int .i64 y) ∧ some B ≠ row, false⟩
theorem fCell_good (row : Option Nat) (y : Int) : (fCell row y).GoodR (fun a b => a.grownBy b row) false := ⟨fun _ _ _ ⟨B, h1, h2, h3⟩ hb => ⟨B, h1, (hb.cell (p := ⟨B, 0, none⟩) (lt_of_cell h2)).trans h2, h3⟩, fun _ _ _ _ ⟨B, h1, h2, h3⟩ hg => ⟨B, h1, (World.cell?_of_block (hg.block B (lt_of_cell h2) h3)).trans h2, h3⟩, fun h => by cases h⟩
/-- The row that has grown. -/
def fOwn (base : Nat) (t : TypeId) (n : Nat) (xs : List Value) : Fact := ⟨fun u W => W.ownsRow base t 1 u n xs, false⟩
theorem fOwn_good (base : Nat) (t : TypeId) (n : Nat) (xs : List Value) (R : World → World → Prop) : (fOwn base t n xs).GoodR R true := ⟨fun _ _ _ h hb => own_below h hb, (fun h => by cases h), (fun h => by cases h)⟩
theorem fIs_goodR (c : Value) (R : World → World → Prop) (b : Bool) : (fIs c).GoodR R b := ⟨fun _ _ _ h _ => h, fun _ _ _ _ h _ => h, fun h => by cases h⟩
def entRow (f : Nat → Int) (j : Nat) : List Value := ((List.range j).map f).map (Value.int .i64)
theorem entRow_succ (f : Nat → Int) (j : Nat) : entRow f (j + 1) = entRow f j ++ [.int .i64 (f j)] := by simp [entRow, List.range_succ]
theorem ArrAt.set1 {w : World} {b : Nat} {c0 c1 : Value} (h : ArrAt w b c0 c1) (d : Value) : ArrAt (w.setCell ⟨b, 1, none⟩ d) b c0 d := by
  unfold ArrAt at *
  simp [World.setCell, Array.getElem?_modify, h]
theorem Save.set {O : Nat} {w w' : World} (h : Save O w w') (i : Nat) (u : Value) : Save O w (w'.setCell ⟨O, i, none⟩ u) :=
  ⟨fun c hc hne => (Below.heap_setCell _ _ _ _ hne).trans (h.1 c hc hne), h.2.setCell (p := ⟨O, i, none⟩) (Nat.zero_le _) u⟩
theorem Save.grown {O : Nat} {w w' w'' : World} {row : Option Nat} (h : Save O w w') (hg : w'.grownBy w'' row) (hr : ∀ i, row = some i → w.heap.size ≤ i) : Save O w w'' :=
  ⟨fun c hc hne => (hg.block c (Nat.lt_of_lt_of_le hc h.2.size) (fun e => by have := hr c e.symm; omega)).trans (h.1 c hc hne), h.2.grown hg (Nat.zero_le _) (fun _ _ => Nat.zero_le _)⟩

theorem arrE_of' {L : List Int} (h : sizeE L = 0) : arrE L (prod L).toNat = 0 := by
  have hn : 0 ≤ prod L := by
    by_cases p : ∀ x ∈ L, 1 ≤ x
    · have := prod_pos L p; omega
    · have hz : (0 : Int) ∈ L := by
        simp only [Classical.not_forall] at p
        obtain ⟨x, hx, hn⟩ := p
        have := (sizeE_ok h).2.1 x hx
        obtain rfl : x = 0 := by omega
        exact hx
      have e := (sizeE_ok h).2.2.2 hz
      rw [size_prod h] at e
      omega
  unfold arrE
  rw [if_neg (by rw [h]; simp), if_neg (by rw [size_prod h]; simp; omega)]

set_option maxRecDepth 100000 in
set_option maxHeartbeats 1500000 in
theorem rDo_good (k x : Int) (ea : Option Addr) (el ec : Nat) (es : List Int) (pa : Option Addr) (pl pc : Nat) (ps : List Int) (la : Option Addr) (ll lc : Nat) (lo : List Int) (ha : Option Addr) (hl hc : Nat) (hi : List Int) (ta : Option Addr) (tl tc : Nat) (st : List Int) (A : Option Addr) (m cap : Nat) (v : Nat → ArrV) (L : List Int) (f : Nat → Int) (w : World)
    (he : Lst w ea el ec es) (hp : Lst w pa pl pc ps) (hlo : Lst w la ll lc lo) (hhi : Lst w ha hl hc hi) (hst : Lst w ta tl tc st) (b0 : el ≤ 1048576) (b1 : pl ≤ 1048576) (b2 : ll ≤ 1048576) (b3 : hl ≤ 1048576) (b4 : tl ≤ 1048576) (hA : Arrs w A m v) (hm : m ≤ 1048576) (hE : doE k es ps lo hi st m v = 0) (hL : L = (dimsP k es ps lo hi st (dimsOf m v)).1) (hfb : ∀ n, n < (prod L).toNat → -9223372036854775808 ≤ f n ∧ f n ≤ 9223372036854775807)
    (hent : ∀ W, Below w.heap.size w W → ∀ n : Nat, n < (prod L).toNat → ∀ g c, Ints W (some ⟨g, 0, none⟩) L.length (dig L n) → L.length ≤ c → Calls Tryz.prog 19 #[.agg #[.int .i64 k, .slice ea el ec, .slice pa pl pc, .slice la ll lc, .slice ha hl hc, .slice ta tl tc, .int .i64 x], .slice A m cap, .slice (some ⟨g, 0, none⟩) L.length c, .int .i64 n] W fun e w' => e = .returned (.int .i64 (f n)) ∧ Below W.heap.size W w') :
    Calls Tryz.prog 8 #[.agg #[.int .i64 k, .slice ea el ec, .slice pa pl pc, .slice la ll lc, .slice ha hl hc, .slice ta tl tc, .int .i64 x], .slice A m cap] w fun e w' => (∃ (Z : Option Addr) (nz cz : Nat) (G : Option Addr) (cg : Nat), e = .returned (.tuple #[.agg #[.slice Z nz cz, .slice G (prod L).toNat cg], .int .i64 0]) ∧ (Ints w' Z nz L ∧ nz ≤ cz) ∧ Ints w' G (prod L).toNat ((List.range (prod L).toNat).map f)) ∧ Below w.heap.size w w' := by
  obtain ⟨c1, c2, c3⟩ := doE_ok hE
  have hz := dimsP_ok c3
  rw [← hL] at hz
  have HDP : Hid (dimsP k es ps lo hi st (dimsOf m v) = (L, 0)) := by
    rw [Hid, hL]
    exact Prod.ext rfl c3
  have HC1 := hide c1
  have HOK := hide (arrsE_ok m c2)
  have HZ := hide hz
  obtain ⟨N, hN⟩ : ∃ N, N = (prod L).toNat := ⟨_, rfl⟩
  rw [← hN] at hent hfb ⊢
  have hN6 : N ≤ 65536 := by have := (arrE_ok (arrE_of' hz)).2.2; omega
  have HNN := hide hN
  have HENT := hide hent
  have HFB := hide hfb
  clear c1 c2 c3 hz hN hent hfb hL
  have HE := hide he
  have HP := hide hp
  have HLO := hide hlo
  have HHI := hide hhi
  have HST := hide hst
  have HAA := hide hA
  have HB2 := hide (((Below.refl w.heap.size w).alloc (Nat.le_refl _) (.cells #[.int .i64 k, .slice ea el ec, .slice pa pl pc, .slice la ll lc, .slice ha hl hc, .slice ta tl tc, .int .i64 x] 31)).alloc (by simp) (.cells #[.slice none 0 0, .slice none 0 0] 25))
  have HOP := hide ((OpAt.new w k (.slice ea el ec) (.slice pa pl pc) (.slice la ll lc) (.slice ha hl hc) (.slice ta tl tc) x).alloc (.cells #[.slice none 0 0, .slice none 0 0] 25))
  have har := ArrAt.new (w.alloc (.cells #[.int .i64 k, .slice ea el ec, .slice pa pl pc, .slice la ll lc, .slice ha hl hc, .slice ta tl tc, .int .i64 x] 31)) (.slice none 0 0) (.slice none 0 0)
  simp only [World.size_alloc] at har
  have HAR := hide har
  obtain ⟨o0, o1, o2, o3, o4, o5, o6⟩ := HOP.out.cells
  obtain ⟨⟨r0, r1⟩, fr0, fr1⟩ := HAR.out.cells
  obtain ⟨i0, hi0, hz0, hz1, hz2⟩ := info_parts info_ints
  have HI := hide hi0
  have HZ0 := hide hz0
  have HZ1 := hide hz1
  have HZ2' := hide hz2
  clear he hp hlo hhi hst hA har hE hi0 hz0 hz1 hz2
  go_enter Tryz.func8, Tryz.ntmps8
  go_wp2_with (go_at_call 15; refine (right_any _ _ _ _ _ _ _ _ _).mono ?_; rintro e w1 ⟨rfl, hb1⟩; rw [HC1.out]; have HB3 := hide (Below.on HB2.out hb1); have HO3 := hide (HOP.out.below hb1); have HA3 := hide (HAR.out.below hb1); have HSZ := hide (show w.heap.size + 2 ≤ w1.heap.size by have := hb1.size; simp at this; omega); clear hb1 o0 o1 o2 o3 o4 o5 o6 r0 r1 fr0 fr1)
  go_loopw [7, 26] (fun ds i wr => ∃ j : Nat, j ≤ m ∧ i = .int .i64 j ∧ (∀ t, t < j → arrE (v t).ds (v t).xl = 0) ∧ wr.ownsRow (w.heap.size + 2) 22 1 ds j (dimRow v j) ∧ OpAt wr w.heap.size k (.slice ea el ec) (.slice pa pl pc) (.slice la ll lc) (.slice ha hl hc) (.slice ta tl tc) x ∧ ArrAt wr (w.heap.size + 1) (.slice none 0 0) (.slice none 0 0) ∧ Below w.heap.size w wr ∧ w.heap.size + 2 ≤ wr.heap.size) (fun _ i _ => m - (intOf i).toNat)
  case atStart => exact ⟨0, by omega, rfl, fun t ht => by omega, World.ownsRow_nil _ _ _ _, HO3.out, HA3.out, HB3.out, HSZ.out⟩
  case round =>
    clear HB3 HO3 HA3 HSZ
    obtain ⟨j, hj, rfl, hgood, hrow, hop, har, hB, hsz⟩ := hrel
    have HG := hide hgood
    have HR := hide hrow
    have HO := hide hop
    have HA := hide har
    have HB := hide hB
    have HSZ := hide hsz
    clear hgood hrow hop har hB hsz
    by_cases hlt : j < m
    · obtain ⟨b, off, rfl, hcs⟩ := HAA.out.resolve_left (by omega)
      obtain ⟨d0, d1, hl⟩ := hcs j hlt
      have hbl : b < w.heap.size := lt_of_cell d0
      obtain ⟨⟨da, dl, dc, ds, xa, xl, xc⟩, hv⟩ : ∃ u, u = v j := ⟨_, rfl⟩
      rw [← hv] at d0 d1 hl
      simp only [ArrV.d, ArrV.x] at d0 d1 hl
      have s0 := (HB.out.cell (p := ⟨b, off + j * 2, none⟩) hbl).trans d0
      have s1 := (HB.out.cell (p := ⟨b, off + j * 2 + 1, none⟩) hbl).trans d1
      have HL := hide hl
      have HV := hide hv
      have HAN := hide (ArrAt.new wr (.slice da dl dc) (.slice xa xl xc))
      have HBN := hide (HB.out.alloc HB.out.size (.cells #[.slice da dl dc, .slice xa xl xc] 25))
      have HAB := hide (HA.out.alloc (.cells #[.slice da dl dc, .slice xa xl xc] 25))
      obtain ⟨⟨a0, a1⟩, _⟩ := HAN.out.cells
      clear hcs d0 d1 hl hv
      by_cases e1 : arrE ds xl = 0
      · have HE1 := hide e1
        clear e1
        go_wp2_with (first
          | (go_at_call 16; refine (rawrong_any da dl dc ds xa xl xc _ (HL.out.1.below HBN.out)).mono ?_; rintro e w1 ⟨rfl, hb⟩; rw [HE1.out]; have HB3 := hide (Below.on HBN.out hb); have HA3 := hide (HAB.out.below hb); have HO3 := hide ((HO.out.alloc _).below hb); have HR3 := hide (own_below (HR.out.alloc _) hb); have HAN3 := hide (HAN.out.below hb); have HSZ3 := hide (show w.heap.size + 2 ≤ w1.heap.size by have := hb.size; have := HSZ.out; simp at *; omega); clear a0 a1 hb; obtain ⟨⟨a0, a1⟩, _⟩ := HAN3.out.cells)
          | (at_builtin; refine wpList_append_own _ rfl _ _ 45 rfl (w.heap.size + 2) 22 i0 (.slice none 0 0) 1 24 Tryz.underlying45 HI.out HZ0.out HZ1.out HZ2'.out rfl (by decide) _ _ _ rfl (HR3.out.alloc _) ⟨w1.heap.size, 0, none⟩ 1 1 [.slice da dl dc] rfl rfl (cell_one_new _ _ _) (by simp [Value.oneCell']) (by unfold maxLen; omega) (by omega) (by have := HSZ3.out; simp; omega) ?_; intro v' w3 hown' hgrow hnn; have HO' := hide hown'; have HG' := hide hgrow; clear hown' hgrow hnn))
        go_roundw
        case rel =>
          refine ⟨j + 1, by omega, by go_num, fun t ht => ?_, by rw [dimRow_succ, ← HV.out]; exact HO'.out, (HO3.out.alloc _).grown HG'.out (own_ne HR3.out (by omega)), (HA3.out.alloc _).grown HG'.out (own_ne HR3.out (by omega)), ?_, ?_⟩
          · by_cases e : t = j
            · rw [e, ← HV.out]; exact HE1.out
            · exact HG.out t (by omega)
          · exact (HB3.out.alloc HB3.out.size _).grown HG'.out (by have := HB3.out.size; simp; omega) (fun i e => by have := (HR3.out.lt i e).1; omega)
          · have := HG'.out.size
            have := HSZ3.out
            simp at *
            omega
        case measure => simp [intOf]; omega
      · exact absurd (by have := HOK.out j hlt; rw [← HV.out] at this; exact this) e1
    · obtain rfl : m = j := by omega
      obtain ⟨R, rc, rfl, hrc, hrow⟩ := own_row HR.out
      have HLS : Hid (Lsts wr R m (dimsOf m v)) := by
        refine ⟨dimsOf_len _ _, by omega, ?_⟩
        rcases hrow with h0 | ⟨g, rfl, _, hcell⟩
        · exact .inl h0
        · by_cases h0 : m = 0
          · exact .inl h0
          refine .inr ⟨_, _, rfl, fun t ht => ?_⟩
          obtain ⟨b, off, rfl, hcs⟩ := HAA.out.resolve_left h0
          have := hcell t ht
          refine ⟨(v t).da, (v t).dl, (v t).dc, ?_, by rw [dimsOf_at _ _ _ ht]; exact (hcs t ht).2.2.below HB.out⟩
          rw [Nat.zero_add, this]
          simp [dimRow, ht, ArrV.d]
      have HCD := hide (rDims_any k x _ _ ec es _ _ pc ps _ _ lc lo _ _ hc hi _ _ tc st _ _ rc (dimsOf m v) wr (HE.out.below HB.out) (HP.out.below HB.out) (HLO.out.below HB.out) (HHI.out.below HB.out) (HST.out.below HB.out) HLS.out hrc hm b0 b1 b2 b3 b4)
      obtain ⟨o0, o1, o2, o3, o4, o5, o6⟩ := HO.out.cells
      clear hrow hrc
      go_wp2_with (first
        | (go_at_call 18; refine (rall_anyC Z _ cz L _ (HI1.out.below ((Below.refl _ _).alloc (Nat.le_refl _) _)) HZ.out).mono ?_; rintro e w2 ⟨⟨R2, c2, rfl, hls⟩, hb2⟩; rw [← HNN.out] at hls ⊢; have HLS2 := hide hls; have HAO2 := hide (HAO1.out.below hb2); have HB4 := hide (Below.on (HB3.out.alloc HB3.out.size _) hb2); have HA4 := hide ((HA3.out.alloc _).below hb2); have HO4 := hide ((HO3.out.alloc _).below hb2); have HI2 := hide ((HI1.out.below ((Below.refl _ _).alloc (Nat.le_refl _) _)).below hb2); have HB12 := hide (Below.on ((Below.refl _ w1).alloc (Nat.le_refl _) _) hb2); have HSZ2 := hide (show w1.heap.size + 1 ≤ w2.heap.size by have := hb2.size; simpa using this); clear hls hb2)
        | (go_at_call 17; refine HCD.out.mono ?_; rintro e w1 ⟨⟨Z, nz, cz, rfl, hi1, hnc⟩, hb⟩; simp only [HDP.out] at hi1 ⊢; have HI1 := hide hi1; have HB3 := hide (Below.on HB.out hb); have HA3 := hide (HA.out.below hb); have HO3 := hide (HO.out.below hb); have hw1 := (show w.heap.size + 2 ≤ w1.heap.size by have h1 := hb.size; have h2 := HSZ.out; omega); have HAO1 := hide (ArrAt.new w1 (.slice Z nz cz) (.slice none 0 0)); clear hi1 hb o0 o1 o2 o3 o4 o5 o6))
      obtain rfl : L.length = nz := HI2.out.1
      obtain ⟨O, hO⟩ : ∃ O, O = w1.heap.size := ⟨_, rfl⟩
      rw [World.size_alloc, ← hO] at HLS2
      rw [← hO] at HAO2 HSZ2 hw1 ⊢
      have HOO := hide hO
      have hO2 : O < w2.heap.size := by have := HSZ2.out; omega
      clear hO HR HLS HCD HO HA HB HAO1 HB3 HA3 HO3 HSZ
      go_loopw [57] (fun i wr => ∃ (t : Nat) (vv : Value), t ≤ N ∧ i = .int .i64 t ∧ ArrAt wr O (.slice Z L.length cz) vv ∧ wr.ownsRow w2.heap.size 2 1 vv t (entRow f t) ∧ Save O w2 wr) (fun i _ => N - (intOf i).toNat)
      case atStart => exact ⟨0, .slice none 0 0, Nat.zero_le _, rfl, HAO2.out, World.ownsRow_nil _ _ _ _, ⟨fun _ _ _ => rfl, Below.refl _ _⟩⟩
      case round =>
        obtain ⟨t, vv, ht, rfl, hao, hx, hsv⟩ := hrel
        have HAO := hide hao
        have HX := hide hx
        have HSV := hide hsv
        clear hao hx hsv
        have HNO := hide (own_ne HX.out hO2)
        have HNP := hide (own_ne (b := w.heap.size) HX.out (by omega))
        have HOP2 : Hid (OpAt _ w.heap.size k (.slice ea el ec) (.slice pa pl pc) (.slice la ll lc) (.slice ha hl hc) (.slice ta tl tc) x) := (HSV.out.1 _ HO4.out.lt (by omega)).trans HO4.out
        have HBW := hide (Save.below HB4.out HSV.out (show w.heap.size ≤ O by omega) (Nat.le_refl _))
        have HROW : Hid (∀ i, vv.ownBlock = some i → w.heap.size ≤ i) := fun i e => by have := (HX.out.lt i e).1; omega
        by_cases hlt : t < N
        · obtain ⟨b2, rfl, hB2, hcs⟩ := HLS2.out.resolve_left (by omega)
          obtain ⟨gj, cj, hgj, hcell, hint, hcj⟩ := hcs t hlt
          have hcc := (World.cell?_of_block (HSV.out.1 b2 (lt_of_cell hcell) (by omega))).trans hcell
          have HIJ := hide (ints_save' hint HSV.out (by omega))
          have HNG : Hid (0 < L.length → some gj ≠ vv.ownBlock) := fun h0 => by
            obtain ⟨b', off', e', hb', _⟩ := hint.at h0
            cases e'
            exact own_ne HX.out hb'
          clear hcs hcell hint
          go_wp2_with fail
          refine region_madeR (fun a b => a.grownBy b vv.ownBlock) (fun _ _ _ h k => grown_trans _ _ _ h k) (fun _ _ h => grown_of _ _ h) 8 10 14 [fIs (.pointer (some ⟨O, 1, none⟩)), fIs vv, fIs (.agg #[.int .i64 k, .slice ea el ec, .slice pa pl pc, .slice la ll lc, .slice ha hl hc, .slice ta tl tc, .int .i64 x]), fIs (.slice A m cap), fIs (.slice (some ⟨gj, 0, none⟩) L.length cj), fIs (.int .i64 (t : Int)), fIs (.int .i64 (f t)), fCell vv.ownBlock (f t), fOwn w2.heap.size 2 (t + 1) (entRow f t ++ [.int .i64 (f t)]), fIs (.pointer (some ⟨O, 1, none⟩))] (by kernel_rfl) (by kernel_rfl) (by kernel_rfl) (fun _ ⟨_, _⟩ ⟨_, _⟩ _ e h => by cases e; exact h) ⟨fIs_goodR _ _ _, fIs_goodR _ _ _, fIs_goodR _ _ _, fIs_goodR _ _ _, fIs_goodR _ _ _, fIs_goodR _ _ _, fIs_goodR _ _ _, fCell_good _ _, fOwn_good _ _ _ _ _, fIs_goodR _ _ _, trivial⟩ ?mk ?rest
          case mk =>
            refine ⟨fun u wz hb hs hd => ?_, fun u wz hb hs hd => ?_, fun u wz hb hs hd => ?_, fun u wz hb hs hd => ?_, fun u wz hb hs hd => ?_, fun u wz hb hs hd => ?_, fun u wz hb hs hd => ?_, fun u wz hb hs hd => ?_, fun u wz hb hs hd => ?_, fun u wz hb hs hd => ?_, trivial⟩
            all_goals simp only [Act.put, List.setIfInBounds_toArray, List.set_cons_zero, List.set_cons_succ]
            · go_simp
              exact ⟨rfl, St.of (Below.refl _ _) (by decide), fun h => by cases h⟩
            · have e0 : u 0 = .pointer (some ⟨O, 1, none⟩) := hd 0 (by omega) (by kernel_rfl)
              rw [e0]
              obtain ⟨⟨x0, x1⟩, _⟩ := (HAO.out.grown hb HNO.out).cells
              go_simp
              exact ⟨rfl, St.of (Below.refl _ _) (by decide), fun h => by cases h⟩
            · obtain ⟨o0, o1, o2, o3, o4, o5, o6⟩ := (HOP2.out.grown hb HNP.out).cells
              go_simp
              exact ⟨rfl, St.of (Below.refl _ _) (by decide), fun h => by cases h⟩
            · go_simp
              exact ⟨rfl, St.of (Below.refl _ _) (by decide), fun h => by cases h⟩
            · go_simp
              exact ⟨rfl, St.of (Below.refl _ _) (by decide), fun h => by cases h⟩
            · go_simp
              exact ⟨rfl, St.of (Below.refl _ _) (by decide), fun h => by cases h⟩
            · have e2 : u 2 = .agg #[.int .i64 k, .slice ea el ec, .slice pa pl pc, .slice la ll lc, .slice ha hl hc, .slice ta tl tc, .int .i64 x] := hd 2 (by omega) (by kernel_rfl)
              have e3 : u 3 = .slice A m cap := hd 3 (by omega) (by kernel_rfl)
              have e4 : u 4 = .slice (some ⟨gj, 0, none⟩) L.length cj := hd 4 (by omega) (by kernel_rfl)
              have e5 : u 5 = .int .i64 (t : Int) := hd 5 (by omega) (by kernel_rfl)
              rw [e2, e3, e4, e5]
              go_simp
              refine (HENT.out wz (HBW.out.grown hb HBW.out.size (fun i e => HROW.out i e)) t hlt gj cj (ints_grown' HIJ.out hb HNG.out) hcj).mono ?_
              rintro e w3 ⟨rfl, hb2⟩
              exact ⟨rfl, St.of hb2 (by decide), fun h => by cases h⟩
            · have e6 : u 6 = .int .i64 (f t) := hd 6 (by omega) (by kernel_rfl)
              rw [e6]
              go_simp
              refine ⟨⟨_, rfl, ?_, ?_⟩, St.of ((Below.refl _ _).alloc (Nat.le_refl _) _) (by decide), fun h => by cases h⟩
              · have := cell_one_new wz (.int .i64 (f t)) 2 0 _ rfl
                rwa [Go.WideShapes.add_plain] at this
              · intro e
                have h1 := HX.out.lt _ e.symm
                have h2 := hb.size
                omega
            · have e1 : u 1 = vv := hd 1 (by omega) (by kernel_rfl)
              obtain ⟨B7, e7, h7, _⟩ := hd 7 (by omega) (by kernel_rfl)
              rw [e1, e7]
              refine wp_append_own (.tmp 63) (.tmp 69) 23 2 rfl Tryz.underlying23 info_int64 w2.heap.size vv t (entRow f t) rfl (own_below HX.out (hs rfl)) B7 (f t) rfl h7 (by omega) (by have h1 := hb.size; have h2 := HSV.out.2.size; omega) (fun v' w3 hown hg => ?_)
              exact ⟨v', rfl, hown, St.at hg, fun h => by cases h⟩
            · go_simp
              exact ⟨rfl, St.of (Below.refl _ _) (by decide), fun h => by cases h⟩
          case rest =>
            intro u wz hb hf hp
            have f0 : u 0 = .pointer (some ⟨O, 1, none⟩) := hf 0 (by omega)
            have f1 : u 1 = vv := hf 1 (by omega)
            have f2 : u 2 = .agg #[.int .i64 k, .slice ea el ec, .slice pa pl pc, .slice la ll lc, .slice ha hl hc, .slice ta tl tc, .int .i64 x] := hf 2 (by omega)
            have f3 : u 3 = .slice A m cap := hf 3 (by omega)
            have f4 : u 4 = .slice (some ⟨gj, 0, none⟩) L.length cj := hf 4 (by omega)
            have f5 : u 5 = .int .i64 (t : Int) := hf 5 (by omega)
            have f6 : u 6 = .int .i64 (f t) := hf 6 (by omega)
            obtain ⟨_, f7, _, _⟩ := hf 7 (by omega)
            have hown : wz.ownsRow w2.heap.size 2 1 (u 8) (t + 1) (entRow f t ++ [.int .i64 (f t)]) := hf 8 (by omega)
            have f9 : u 9 = .pointer (some ⟨O, 1, none⟩) := hf 9 (by omega)
            obtain ⟨v8, f8⟩ : ∃ v8, u 8 = v8 := ⟨_, rfl⟩
            rw [f8] at hown
            refine UptoW.rest 1 10 (by rfl) (by kernel_rfl) ?_
            simp only [List.take, List.drop, putOps, Act.put, List.setIfInBounds_toArray, List.set_cons_zero, List.set_cons_succ, Nat.reduceAdd, f0, f1, f2, f3, f4, f5, f6, f7, f8, f9]
            clear f0 f1 f2 f3 f4 f5 f6 f7 f8 f9 hf hp
            obtain ⟨A8, c8, e8, _⟩ := own_row hown
            subst e8
            have hao := HAO.out.grown hb HNO.out
            obtain ⟨⟨x0, x1⟩, z0, z1⟩ := hao.cells
            refine wpList_plain rfl (fun K hK => ?_)
            go_simp
            refine hK _ _ (wpList_nil ?_)
            clear hK K
            have HX3 := hide (ownsRow_setCell_other (a := ⟨O, 1, none⟩) hown (fun e => own_ne hown hO2 e.symm) (.slice A8 (t + 1) c8))
            have HA4 := hide (hao.set1 (.slice A8 (t + 1) c8))
            have HS4 := hide ((HSV.out.grown hb (fun i e => (HX.out.lt i e).1)).set 1 (.slice A8 (t + 1) c8))
            clear hown hao x0 x1 z0 z1 hb
            go_wp2
            go_roundw
            case rel =>
              refine ⟨t + 1, _, by omega, by go_num, HA4.out, ?_, HS4.out⟩
              rw [entRow_succ]
              exact HX3.out
            case measure => simp [intOf]; omega
        · obtain rfl : N = t := by omega
          obtain ⟨⟨x0, x1⟩, _⟩ := HAO.out.cells
          have HA5 : Hid (ArrAt _ (w.heap.size + 1) (.slice none 0 0) (.slice none 0 0)) := (HSV.out.1 _ HA4.out.lt (by omega)).trans HA4.out
          obtain ⟨⟨r0, r1⟩, fr0, fr1⟩ := HA5.out.cells
          obtain ⟨A8, c8, e8, _, h8⟩ := own_row HX.out
          subst e8
          have HIZ := hide (ints_save HI1.out HB12.out (by rw [← HOO.out]; exact HSV.out))
          have HID : Hid (Ints wr A8 N ((List.range N).map f)) := by
            refine ⟨by simp, by omega, fun y hy => ?_, ?_⟩
            · simp only [List.mem_map, List.mem_range] at hy
              obtain ⟨i, hi', rfl⟩ := hy
              exact HFB.out i hi'
            · rcases h8 with h8 | ⟨g8, rfl, _, hc8⟩
              · exact .inl h8
              · refine .inr ⟨g8, 0, rfl, fun i hi' => ?_⟩
                rw [Nat.zero_add, hc8 i hi']
                simp [entRow, hi']
          clear h8
          go_wp2
          obtain ⟨⟨u0, u1⟩, _⟩ := (HA5.out.put (.slice Z L.length cz) (.slice A8 N c8)).cells
          refine bodyPost_ret (v := .tuple #[.agg #[.slice Z L.length cz, .slice A8 N c8], .int .i64 0]) (by simp [results, Tryz.results8, go_sem, u0, u1]) rfl ⟨⟨Z, L.length, cz, A8, c8, rfl, ⟨?_, hnc⟩, ?_⟩, ?_⟩
          · exact ints_put_arr HIZ.out HA5.out (fun _ _ e => by cases e) (fun _ _ e => by cases e) _ _
          · exact ints_put_arr HID.out HA5.out (fun _ _ e => by cases e) (fun _ _ e => by cases e) _ _
          · exact (HBW.out.setCell (p := ⟨w.heap.size + 1, 0, none⟩) (by simp) _).setCell (p := ⟨w.heap.size + 1, 1, none⟩) (by simp) _
end Go.Proofs.YteoobeldmicjhaaGreat.V
namespace Go.Proofs.YteoobeldmicjhaaGreat.V
set_option maxRecDepth 20000
open Go.RowKit

/-- What the document's Do answers, where it tells no error. -/
def DoesR (L f : List Int) (N : Nat) (e : Ending) (W' : World) : Prop :=
  ∃ (Z : Option Addr) (nz cz : Nat) (G : Option Addr) (cg : Nat), e = .returned (.tuple #[.agg #[.slice Z nz cz, .slice G N cg], .int .i64 0]) ∧ (Ints W' Z nz L ∧ nz ≤ cz) ∧ Ints W' G N f
theorem rdo_gen (k : Int) (x : Int) (ea : Option Addr) (el ec : Nat) (es : List Int) (pa : Option Addr) (pl pc : Nat) (ps : List Int) (la : Option Addr) (ll lc : Nat) (lo : List Int) (ha : Option Addr) (hl hc : Nat) (hi : List Int) (ta : Option Addr) (tl tc : Nat) (st : List Int) (A : Option Addr) (m cap : Nat) (v : Nat → ArrV) (L F : List Int) (w : World)
    (he : Lst w ea el ec es) (hp : Lst w pa pl pc ps) (hlo : Lst w la ll lc lo) (hhi : Lst w ha hl hc hi) (hst : Lst w ta tl tc st) (b0 : el ≤ 1048576) (b1 : pl ≤ 1048576) (b2 : ll ≤ 1048576) (b3 : hl ≤ 1048576) (b4 : tl ≤ 1048576) (hA : Arrs w A m v) (hm : m ≤ 1048576) (hE : doE k es ps lo hi st m v = 0) (hL : L = (dimsP k es ps lo hi st (dimsOf m v)).1) (hF : F.length = (prod L).toNat) (hFb : Bnd F)
    (hent : ∀ W, Below w.heap.size w W → ∀ n : Nat, n < (prod L).toNat → ∀ g c, Ints W (some ⟨g, 0, none⟩) L.length (dig L n) → L.length ≤ c → Calls Tryz.prog 19 #[.agg #[.int .i64 k, .slice ea el ec, .slice pa pl pc, .slice la ll lc, .slice ha hl hc, .slice ta tl tc, .int .i64 x], .slice A m cap, .slice (some ⟨g, 0, none⟩) L.length c, .int .i64 n] W fun e w' => e = .returned (.int .i64 (F[n]?.getD 0)) ∧ Below W.heap.size W w') :
    Calls Tryz.prog 8 #[.agg #[.int .i64 k, .slice ea el ec, .slice pa pl pc, .slice la ll lc, .slice ha hl hc, .slice ta tl tc, .int .i64 x], .slice A m cap] w fun e w' => DoesR L F (prod L).toNat e w' ∧ Below w.heap.size w w' := by
  refine (rDo_good k x ea el ec es pa pl pc ps la ll lc lo ha hl hc hi ta tl tc st A m cap v L (fun n => F[n]?.getD 0) w he hp hlo hhi hst b0 b1 b2 b3 b4 hA hm hE hL (fun n _ => bnd_at hFb n) hent).mono ?_
  rintro e w' ⟨⟨Z, nz, cz, G, cg, h1, h2, h3⟩, hb⟩
  rw [← list_map_range F _ hF] at h3
  exact ⟨⟨Z, nz, cz, G, cg, h1, h2, h3⟩, hb⟩
end Go.Proofs.YteoobeldmicjhaaGreat.V
