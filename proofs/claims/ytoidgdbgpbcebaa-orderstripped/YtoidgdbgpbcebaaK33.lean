/-
  Contract: order.spots, where times are right. Towards order.look: the closures, the spots in a list, the search for the first one. order.look: where something is wrong.
-/
import Derived.Test.YtoidgdbgpbcebaaK26
import Derived.Test.YtoidgdbgpbcebaaK25
import Derived.Test.YtoidgdbgpbcebaaK22
import Derived.Deep.DeepCutAuto
namespace Go.Proofs.Ytoidgdbgpbcebaa.V
open Go Go.RowKit Go.Shelf
attribute [local go_sem] Oper.semAt_some
set_option linter.unusedVariables false

/-- What spots tells. -/
def SpotsR (zs : List Int) (ss : List Stm) (T : Tms) (N : Nat) (e : Ending) (w' : World) : Prop := if 1024 < (spK ss ss.length).length then e = .returned (.tuple #[.slice none 0 0, .int .i64 5]) else ∃ v B, e = .returned (.tuple #[v, .int .i64 0]) ∧ N ≤ B ∧ OutT w' B v ((spK ss ss.length).map (spOf zs ss T))
theorem spK_mono (ss : List Stm) : ∀ (n k : Nat), k ≤ n → (spK ss k).length ≤ (spK ss n).length
  | 0, k, h => by obtain rfl : k = 0 := (by omega); exact Nat.le_refl _
  | n + 1, k, h => by
    by_cases e : k = n + 1
    · rw [e]; exact Nat.le_refl _
    · rw [spK_succ, List.length_append]
      have := spK_mono ss n k (by omega)
      omega
theorem spS_map (zs : List Int) (ss : List Stm) (T : Tms) (k : Nat) : (spK ss (k + 1)).map (spOf zs ss T) = (spK ss k).map (spOf zs ss T) ++ (pts (ss[k]?.getD stmD).box (ss[k]?.getD stmD).rows).map (fun x => spOf zs ss T (k, x)) := by
  rw [spK_succ, List.map_append]
  unfold spS
  rw [List.map_map]
  rfl
theorem spS_map' {zs : List Int} {ss : List Stm} {T : Tms} {k : Nat} {s : Stm} (h : s = ss[k]?.getD stmD) : (spK ss (k + 1)).map (spOf zs ss T) = (spK ss k).map (spOf zs ss T) ++ (pts s.box s.rows).map (fun x => spOf zs ss T (k, x)) := by rw [h]; exact spS_map zs ss T k
/-- What stands when there are too many. -/
def SRet (w : World) (O : Nat) (Ds : List Nat) (W : World) : Prop := Below w.heap.size w W ∧ (W.heap[w.heap.size + 1 + 1]? = some (.cells #[.slice none 0 0] 48 (0, 0)) ∧ W.heap[w.heap.size + 1 + 1 + 1]? = some (.cells #[.int .i64 5] 29 (0, 0))) ∧ Marks (O + 1) Ds W
theorem keepF_put {N l : Nat} {W : World} {o o' : Obj} (ho : W.heap[l]? = some o) (hc : o.isCells = false) : KeepF N W (W.putObj l o') := ⟨fun b c t _ _ h => World.putObj_heap_other (fun e => by rw [e, ho] at h; cases h; cases hc), by simp⟩
theorem own_and {B : Nat} {I : List (List Int) → World → Prop} {p : List (List Int) → Prop} (h : OwnFrom B I) : OwnFrom B (fun pre W => I pre W ∧ p pre) := fun s W W' row hs hg hr => ⟨h s W W' row hs.1 hg hr, hs.2⟩
theorem sret_own {w : World} {O : Nat} {Ds : List Nat} {p : Prop} {B : Nat} (hw : w.heap.size ≤ B) (hD : ∀ D ∈ Ds, D < B) : OwnFrom B (fun (c : Code) W => c = .ret ∧ SRet w O Ds W ∧ p) := by
  rintro c W W' row ⟨rfl, ⟨h1, ⟨h2, h3⟩, h4⟩, h5⟩ hg hr
  have hc : ∀ (b : Nat) c t f, W.heap[b]? = some (Obj.cells c t f) → W'.heap[b]? = W.heap[b]? := fun b c t f e => hg.block b (Array.getElem?_eq_some_iff.1 e).1 (fun e' => by
    obtain ⟨_, o, ho, hcl⟩ := hr b e'.symm
    rw [e] at ho
    cases ho
    cases hcl)
  refine ⟨rfl, ⟨h1.grown hg h1.size (fun k e => Nat.le_trans hw (hr k e).1), ⟨(hc _ _ _ _ h2).trans h2, (hc _ _ _ _ h3).trans h3⟩, ⟨h4.nodup, fun D hD' => ⟨(h4.here D hD').1, ?_⟩⟩⟩, h5⟩
  refine (hg.block D (Array.getElem?_eq_some_iff.1 (h4.here D hD').2).1 (fun e' => ?_)).trans (h4.here D hD').2
  have h1 := (hr D e'.symm).1
  have h2 := hD D hD'
  omega
set_option maxRecDepth 100000 in
set_option maxHeartbeats 8000000 in
theorem spots_ok (za : Option Addr) (zl zc : Nat) (zs : List Int) (ta : Option Addr) (tl tc : Nat) (ss : List Stm) (ma : Option Addr) (ml mc : Nat) (T : Tms) (w : World) (hz : Ints w za zl zs) (hs : Stms w ta tl ss) (hT : TimesA w ma ml T) (hE : ordE zs ss T = 0) :
    CallsIn FW 8 Try.prog 17 #[.agg #[.slice za zl zc, .slice ta tl tc], .slice ma ml mc] w fun e w' => SpotsR zs ss T w.heap.size e w' ∧ Below w.heap.size w w' := by
  have hro : FW.round = none := rfl
  obtain ⟨W, hW⟩ : ∃ W, W = (((w.alloc (.cells #[.slice za zl zc, .slice ta tl tc] 25)).alloc (.cells #[.slice ma ml mc] 27)).alloc (.cells #[.slice none 0 0] 48)).alloc (.cells #[.int .i64 0] 29) := ⟨_, rfl⟩
  have B0 : Below w.heap.size w W := by rw [hW]; exact bl_on (bl_new _) (bl_on (bl_new _) (bl_on (bl_new _) (bl_new _)))
  have P0 : NsBlk W w.heap.size za zl zc ta tl tc := by rw [hW]; exact (((NsBlk.new w za zl zc ta tl tc).below (bl_new _)).below (bl_new _)).below (bl_new _)
  have G1 : W.heap[w.heap.size + 1]? = some (.cells #[.slice ma ml mc] 27 (0, 0)) := by
    rw [hW]
    refine (Below.heap_alloc _ _ _ (by simp <;> omega)).trans ((Below.heap_alloc _ _ _ (by simp)).trans ?_)
    have := World.alloc_heap_new (w.alloc (.cells #[.slice za zl zc, .slice ta tl tc] 25)) (.cells #[.slice ma ml mc] 27)
    rw [World.size_alloc] at this
    exact this
  have G2 : W.heap[w.heap.size + 1 + 1]? = some (.cells #[.slice none 0 0] 48 (0, 0)) := by
    rw [hW]
    refine (Below.heap_alloc _ _ _ (by simp)).trans ?_
    have := World.alloc_heap_new ((w.alloc (.cells #[.slice za zl zc, .slice ta tl tc] 25)).alloc (.cells #[.slice ma ml mc] 27)) (.cells #[.slice none 0 0] 48)
    rw [World.size_alloc, World.size_alloc] at this
    exact this
  have G3 : W.heap[w.heap.size + 1 + 1 + 1]? = some (.cells #[.int .i64 0] 29 (0, 0)) := by
    rw [hW]
    have := World.alloc_heap_new (((w.alloc (.cells #[.slice za zl zc, .slice ta tl tc] 25)).alloc (.cells #[.slice ma ml mc] 27)).alloc (.cells #[.slice none 0 0] 48)) (.cells #[.int .i64 0] 29)
    rw [World.size_alloc, World.size_alloc, World.size_alloc] at this
    exact this
  have HSW : Hid (W.heap.size = w.heap.size + 4) := by rw [Hid, hW]; simp
  have HOW := hide (oWrong_any za zl zc zs ta tl tc ss ma ml mc T W (hz.below B0) (hs.below B0) (hT.below B0))
  obtain ⟨n0, n1⟩ := P0.cells
  have zn := P0.lt
  have c1 := cell_of_one G1
  have z1 := lt_of_cell c1
  have HB := hide B0
  have HN := hide P0
  have HG := hide (And.intro G1 (And.intro G2 G3))
  have HW := hide hW
  have hok := ordE_ok hE
  have HOK := hide hok
  have HNO := hide (nestE_ok hok.nest)
  rw [hE] at HOW
  have HZ := hide hz
  have HS := hide hs
  have HT := hide hT
  have HSL := hide hs.1
  have HTL := hide hT.1
  have HZL := hide hz.1
  have h256 : tl ≤ 256 := by have := (nestE_ok hok.nest).many; have := hs.1; omega
  clear hz hs hT B0 P0 G1 G2 G3 hW hE hok
  refine callsIn_of_wp_marks Try.func17 rfl trivial ?_ hro
  simp only [Try.ntmps17, List.size_toArray, List.length_cons, List.length_nil, Nat.reduceAdd, Nat.reduceSub, Array.replicate_succ, Array.replicate_zero, List.push_toArray, List.append_toArray, List.nil_append, List.cons_append]
  gi_wp2_with (refine ⟨trivial, ?_⟩; gi_at_call 43; rw [← HW.out]; refine (callsIn_wide.2 HOW.out).mono ?_; rintro e w1 ⟨rfl, hb⟩; have HB1 := hide (bl_on HB.out hb); have HN1 := hide (HN.out.below hb); have HBb := hide hb; have m0 := (HN.out.below hb).cells.1; have m1 := (HN.out.below hb).cells.2; have zm := (HN.out.below hb).lt; clear hb)
  obtain ⟨W9, hW9⟩ : ∃ W9, W9 = w1.alloc (.cells #[.slice none 0 0] 48) := ⟨_, rfl⟩
  obtain ⟨O, hO⟩ : ∃ O, O = w1.heap.size := ⟨_, rfl⟩
  have hO3 : w.heap.size + 1 + 1 + 1 < O := by have := HSW.out; have := HBb.out.size; omega
  have I0 : SInv w za zl zc ta tl tc ma ml mc O [] ((spK ss 0).map (spOf zs ss T)) W9 := by
    have hb9 : Below w1.heap.size w1 W9 := by rw [hW9]; exact bl_new _
    have bb := bl_on HBb.out hb9
    obtain ⟨G1, G2, G3⟩ := HG.out
    refine ⟨bl_on HB1.out hb9, HN1.out.below hb9, (bb.block _ (Array.getElem?_eq_some_iff.1 G1).1).trans G1, (bb.block _ (Array.getElem?_eq_some_iff.1 G2).1).trans G2, (bb.block _ (Array.getElem?_eq_some_iff.1 G3).1).trans G3, ⟨.slice none 0 0, ?_, ?_⟩, Marks.nil _ _⟩
    · rw [hW9, hO]; exact World.alloc_heap_new _ _
    · exact OutT.nil _ _
  have HI0 := hide I0
  rw [← hW9, ← hO]
  clear I0 hW9 hO HB1 HN1 HBb m0 m1 zm n0 n1 zn c1 z1 HB HN HG HOW
  refine wpIn_loop (fun a' W' => ∃ u0 u1 u6 u8 u9 u10 u11 u12 u13 u14 u15 u16 u17 u18 u19 u20 u21 u25 u26 u27 u28 u29 u30 u31 u32 u33 u34 u35 u36 u37 u38 u39 u40 u41 u42 u43 u44 u45 u46 u47 u48 u49 u50 u51 u52 u53 u54 u55 u56 u57 u58 u59 u60 u61 u62 u63 u64 u65 u66 u67 u68 u69 u70 u71 u72 u73 u74 u75 : Value, ∃ (k : Nat) (Ds : List Nat), ((k ≤ tl ∧ (spK ss k).length ≤ 1024) ∧ SInv w za zl zc ta tl tc ma ml mc O Ds ((spK ss k).map (spOf zs ss T)) W') ∧ a' = ⟨#[u0, u1, .pointer (some ⟨w.heap.size, 0, none⟩), .pointer (some ⟨w.heap.size + 1, 0, none⟩), .pointer (some ⟨w.heap.size + 1 + 1, 0, none⟩), .pointer (some ⟨w.heap.size + 1 + 1 + 1, 0, none⟩), u6, .pointer (some ⟨O, 0, none⟩), u8, u9, u10, u11, u12, u13, u14, u15, u16, u17, u18, u19, u20, u21, .slice ta tl tc, .int .i64 (tl : Int), .int .i64 (k : Int), u25, u26, u27, u28, u29, u30, u31, u32, u33, u34, u35, u36, u37, u38, u39, u40, u41, u42, u43, u44, u45, u46, u47, u48, u49, u50, u51, u52, u53, u54, u55, u56, u57, u58, u59, u60, u61, u62, u63, u64, u65, u66, u67, u68, u69, u70, u71, u72, u73, u74, u75], Ds.map mark⟩) (fun a' _ => tl - (intOf (a'.tmps.getD 24 undef)).toNat) ?start ?round
  case start =>
    repeat apply Exists.intro
    exact ⟨⟨⟨Nat.zero_le _, by simp [spK]⟩, HI0.out⟩, rfl⟩
  case round =>
    intro a' wo hinv
    obtain ⟨u0, u1, u6, u8, u9, u10, u11, u12, u13, u14, u15, u16, u17, u18, u19, u20, u21, u25, u26, u27, u28, u29, u30, u31, u32, u33, u34, u35, u36, u37, u38, u39, u40, u41, u42, u43, u44, u45, u46, u47, u48, u49, u50, u51, u52, u53, u54, u55, u56, u57, u58, u59, u60, u61, u62, u63, u64, u65, u66, u67, u68, u69, u70, u71, u72, u73, u74, u75, k, Ds, ⟨⟨hk, hle⟩, hI⟩, rfl⟩ := hinv
    have HI := hide hI
    obtain ⟨n0, n1⟩ := hI.ns.cells
    have hOl : O < wo.heap.size := by obtain ⟨v, h1, _⟩ := hI.out; exact (Array.getElem?_eq_some_iff.1 h1).1
    clear hI HI0
    by_cases hlt : k < tl
    rotate_left
    · obtain rfl : tl = k := by omega
      obtain ⟨v, hv, hov⟩ := HI.out.out
      have cO := cell_of_one hv
      have G2 := HI.out.r1
      have G3 := HI.out.r2
      have y2 := cell_of_one G2
      have y3 := cell_of_one G3
      have f2 := free_of_one G2
      have f3 := free_of_one G3
      have z2 := lt_of_cell y2
      have z3 := lt_of_cell y3
      have HOV := hide hov
      obtain ⟨A, c, ev, _⟩ := hov.len
      obtain ⟨n9, hn9⟩ : ∃ n9, n9 = ((spK ss tl).map (spOf zs ss T)).length := ⟨_, rfl⟩
      rw [← hn9] at ev
      subst ev
      clear hv hov G2 G3 hn9
      have HLE := hide hle
      gi_wp2_with fail
      obtain ⟨Wf, hWf⟩ : ∃ Wf, Wf = (wo.setCell ⟨w.heap.size + 1 + 1, 0, none⟩ (.slice A n9 c)).setCell ⟨w.heap.size + 1 + 1 + 1, 0, none⟩ (.int .i64 0) := ⟨_, rfl⟩
      rw [← hWf]
      have oth : ∀ b, b ≠ w.heap.size + 1 + 1 → b ≠ w.heap.size + 1 + 1 + 1 → Wf.heap[b]? = wo.heap[b]? := fun b h1 h2 => by rw [hWf]; exact (Below.heap_setCell _ ⟨w.heap.size + 1 + 1 + 1, 0, none⟩ _ b h2).trans (Below.heap_setCell _ ⟨w.heap.size + 1 + 1, 0, none⟩ _ b h1)
      have e2 : Wf.heap[w.heap.size + 1 + 1]? = some (.cells #[.slice A n9 c] 48 (0, 0)) := by
        rw [hWf, Below.heap_setCell _ ⟨w.heap.size + 1 + 1 + 1, 0, none⟩ _ _ (by simp only; omega)]
        simp [World.setCell, Array.getElem?_modify, HI.out.r1]
      have e3 : Wf.heap[w.heap.size + 1 + 1 + 1]? = some (.cells #[.int .i64 0] 29 (0, 0)) := by
        have h : (wo.setCell ⟨w.heap.size + 1 + 1, 0, none⟩ (.slice A n9 c)).heap[w.heap.size + 1 + 1 + 1]? = some (.cells #[.int .i64 0] 29 (0, 0)) := (Below.heap_setCell _ ⟨w.heap.size + 1 + 1, 0, none⟩ _ _ (by simp only; omega)).trans HI.out.r2
        rw [hWf]
        generalize wo.setCell ⟨w.heap.size + 1 + 1, 0, none⟩ (.slice A n9 c) = V at h ⊢
        simp [World.setCell, Array.getElem?_modify, h]
      have hBf : Below w.heap.size w Wf := by rw [hWf]; exact (HI.out.below.setCell (p := ⟨w.heap.size + 1 + 1, 0, none⟩) (by simp only; omega) _).setCell (p := ⟨w.heap.size + 1 + 1 + 1, 0, none⟩) (by simp only; omega) _
      have hkf : KeepF (O + 1) wo Wf := by rw [hWf]; exact (KeepF.set (p := ⟨w.heap.size + 1 + 1, 0, none⟩) (by simp only; omega) _).trans (KeepF.set (p := ⟨w.heap.size + 1 + 1 + 1, 0, none⟩) (by simp only; omega) _)
      have hszf : Wf.heap.size = wo.heap.size := by rw [hWf, World.size_setCell, World.size_setCell]
      have hof : OutT Wf (O + 1) (.slice A n9 c) ((spK ss tl).map (spOf zs ss T)) := HOV.out.keep hkf (fun g e => by have := (HOV.out.lt g e).1.1; exact oth g (by omega) (by omega))
      refine leaves_marks (O + 1) Ds Wf ⟨HI.out.marks.nodup, fun D hD => ?_⟩ (by omega) (fun W' b1 b2 => ?_)
      · have := HI.out.marks.here D hD
        exact ⟨this.1, (oth D (by omega) (by omega)).trans this.2⟩
      · have x2 := cell_of_one ((b2 _ _ _ _ e2).trans e2)
        have x3 := cell_of_one ((b2 _ _ _ _ e3).trans e3)
        refine ⟨.tuple #[.slice A n9 c, .int .i64 0], by simp [results, Try.results17, go_sem, x2, x3], ?_⟩
        refine ⟨?_, hBf.trans (b1.mono (by omega))⟩
        unfold SpotsR
        rw [HSL.out, if_neg (by have := HLE.out; omega)]
        exact ⟨_, O + 1, rfl, by omega, hof.keep (keepF_of_cells _ b1.size b2) (fun g e => by obtain ⟨_, cur, hc⟩ := hof.lt g e; exact b2 _ _ _ _ hc)⟩
    · have hkl : k < ss.length := by rw [HSL.out]; exact hlt
      obtain ⟨b, off, rfl, hat⟩ := HS.out.at (by omega)
      obtain ⟨q, hq0, hc⟩ := hat k hlt
      obtain ⟨k0', k1', k2', k3', k4', k5', k6', k7'⟩ := hc
      have k0 := (HI.out.below.cell (p := ⟨b, off + k * 8, none⟩) (lt_of_cell k0')).trans k0'
      have k1 := (HI.out.below.cell (p := ⟨b, off + k * 8 + 1, none⟩) (lt_of_cell k1')).trans k1'
      have k2 := (HI.out.below.cell (p := ⟨b, off + k * 8 + 2, none⟩) (lt_of_cell k2')).trans k2'
      have k3 := (HI.out.below.cell (p := ⟨b, off + k * 8 + 3, none⟩) (lt_of_cell k3')).trans k3'
      have k4 := (HI.out.below.cell (p := ⟨b, off + k * 8 + 4, none⟩) (lt_of_cell k4')).trans k4'
      have k5 := (HI.out.below.cell (p := ⟨b, off + k * 8 + 5, none⟩) (lt_of_cell k5')).trans k5'
      have k6 := (HI.out.below.cell (p := ⟨b, off + k * 8 + 6, none⟩) (lt_of_cell k6')).trans k6'
      have k7 := (HI.out.below.cell (p := ⟨b, off + k * 8 + 7, none⟩) (lt_of_cell k7')).trans k7'
      have hq := hq0.below HI.out.below
      have z1 := lt_of_cell k0
      simp only at z1
      have BA : Below wo.heap.size wo ((wo.alloc (.cells #[.int .i64 (k : Int)] 3)).alloc (.cells q.cs 71)) := bl_on (bl_new _) (bl_new _)
      have QB := SW.new q (wo.alloc (.cells #[.int .i64 (k : Int)] 3))
      rw [World.size_alloc] at QB
      have KBK : ((wo.alloc (.cells #[.int .i64 (k : Int)] 3)).alloc (.cells q.cs 71)).heap[wo.heap.size]? = some (.cells #[.int .i64 (k : Int)] 3 (0, 0)) := (Below.heap_alloc _ _ _ (by simp)).trans (World.alloc_heap_new _ _)
      obtain ⟨V, hV⟩ : ∃ V, V = (wo.alloc (.cells #[.int .i64 (k : Int)] 3)).alloc (.cells q.cs 71) := ⟨_, rfl⟩
      have hVs : V.heap.size = wo.heap.size + 2 := by rw [hV]; simp
      rw [← hV] at BA QB KBK
      obtain ⟨s, hs⟩ : ∃ s, s = ss[k]?.getD stmD := ⟨_, rfl⟩
      have hso := HNO.out.stms _ (mem_getS ss k hkl)
      rw [← hs] at hq hq0 hso
      have h1 := hq.below BA
      have HALL := hide (all_ok q.ba q.bl q.bc s.box q.ra q.rl q.rc s.rows V h1.box.1 h1.rows hso.pt)
      obtain ⟨y0, y1, y2, y3, y4, y5, y6, y7⟩ := QB.cells
      have zq := QB.lt
      have HBA := hide BA
      have HQB := hide QB
      have HKB := hide KBK
      have HV := hide hV
      have HSG := hide hq0
      have HSO := hide hso
      have HSS := hide hs
      have HBL := hide hq.box.1.1
      have HRL := hide hq.rows.1
      clear hat hq hq0 hso BA QB KBK hs h1 hV k0' k1' k2' k3' k4' k5' k6' k7'
      unfold SW.cs at HV
      gi_wp2_with (refine ⟨trivial, ?_⟩; gi_at_call 35; rw [← HV.out]; refine (callsIn_wide.2 HALL.out).mono ?_; rintro e w4 ⟨⟨B, gb, RR, rfl, hN⟩, hb⟩; have HNW := hide hN; have HB4 := hide (bl_on HBA.out hb); have HQ5 := hide (HQB.out.below hb); have HK5 := hide ((hb.block _ (Array.getElem?_eq_some_iff.1 HKB.out).1).trans HKB.out); have zb4 := hb.size; clear hb hN)
      have HO := hide (ptE_ok HSO.out.pt)
      have hOw4 : O < w4.heap.size := by have := HB4.out.size; omega
      refine rangeFunc_tellsA (F := FW) (n := 8) hro (by omega) (gf := 91) (lb := #[.pointer (some ⟨B, 0, none⟩)]) rfl trivial (enters_of Try.func91 (by kernel_rfl) rfl) (L := pts s.box s.rows) (len := q.bl) (Kp := KeepF V.heap.size)
        (through1_tells 7 (by omega) B (some ⟨gb, 0, none⟩) q.bl q.bl s.box (some ⟨RR, 0, none⟩) q.rl q.rl s.rows HO.out (KeepF V.heap.size) (KeepF V.heap.size w4) (fun A hA => (HNW.out.keepF hA).good HO.out HBL.out HRL.out) (fun A A' hA hb => hA.trans (KeepF.below hb)) (fun A A' hk => hk.2) (fun A A' hk hA => hA.trans hk) w4 (KeepF.refl _ _))
        (fun h1 h2 => h1.trans h2) (fun W l o o' hl ho hc _ => keepF_put ho hc) (Below.refl _ _) rfl
        (fun pre W => SInvS w za zl zc (some ⟨b, off, none⟩) tl tc ma ml mc O Ds ((spK ss k).map (spOf zs ss T)) (fun x => spOf zs ss T (k, x)) k q wo.heap.size V.heap.size w4 pre W ∧ (spK ss k).length + pre.length ≤ 1024) (fun c W => c = .ret ∧ SRet w O Ds W ∧ 1024 < (spK ss ss.length).length)
        (own_and (SInvS.own (Nat.le_trans HI.out.below.size HB4.out.size) (fun D hD => by have := (Array.getElem?_eq_some_iff.1 (HI.out.marks.here D hD).2).1; have := HB4.out.size; omega))) (sret_own (Nat.le_trans HI.out.below.size HB4.out.size) (fun D hD => by have := (Array.getElem?_eq_some_iff.1 (HI.out.marks.here D hD).2).1; have := HB4.out.size; omega)) ⟨⟨by simpa using HI.out.grow HB4.out, ⟨HK5.out, HQ5.out⟩, KeepF.refl _ _⟩, by simpa using hle⟩ 22 (fun W o => KeepF.below (bl_new o)) ?a1 ?assign ?body ?done ?stop
      case assign =>
        intro l gx X W K hX hK
        gi_wp2
        rw [← hX]
        exact hK
      case stop =>
        rintro D c W hD ⟨rfl, hR, hTt⟩ hDD
        have HR := hide hR
        have HDD := hide hDD
        have HTt := hide hTt
        have hnew : D ∉ Ds := fun hD' => by
          have := (Array.getElem?_eq_some_iff.1 (HI.out.marks.here D hD').2).1
          have := HB4.out.size
          omega
        clear hR hDD hTt
        gi_wp2_with fail
        refine leaves_marks (O + 1) (D :: Ds) W ⟨List.nodup_cons.2 ⟨hnew, HR.out.2.2.nodup⟩, fun D' hD' => ?_⟩ (by have := HR.out.1.size; have := (Array.getElem?_eq_some_iff.1 HDD.out).1; omega) (fun W' b1 b2 => ?_)
        · rcases List.mem_cons.1 hD' with rfl | hD'
          · exact ⟨by omega, HDD.out⟩
          · exact HR.out.2.2.here D' hD'
        · have x2 := cell_of_one ((b2 _ _ _ _ HR.out.2.1.1).trans HR.out.2.1.1)
          have x3 := cell_of_one ((b2 _ _ _ _ HR.out.2.1.2).trans HR.out.2.1.2)
          refine ⟨.tuple #[.slice none 0 0, .int .i64 5], by simp [results, Try.results17, go_sem, x2, x3], ?_⟩
          refine ⟨?_, HR.out.1.trans (b1.mono (by omega))⟩
          unfold SpotsR
          rw [if_pos HTt.out]
      case done =>
        rintro D W hD ⟨hJ, hle2⟩ hK
        have hJ1 := hJ.1
        rw [← spS_map' HSS.out] at hJ1
        have hle3 : (spK ss (k + 1)).length ≤ 1024 := by
          rw [spK_succ, List.length_append]
          have h2 : (spS k (ss[k]?.getD stmD)).length = (pts s.box s.rows).length := by unfold spS; rw [List.length_map, ← HSS.out]
          omega
        have HJ1 : Hid (SInv w za zl zc (some ⟨b, off, none⟩) tl tc ma ml mc O (D :: Ds) ((spK ss (k + 1)).map (spOf zs ss T)) W) := by
          refine ⟨hJ1.below, hJ1.ns, hJ1.tb, hJ1.r1, hJ1.r2, hJ1.out, ⟨List.nodup_cons.2 ⟨fun hD' => ?_, hJ1.marks.nodup⟩, fun D' hD' => ?_⟩⟩
          · have := (Array.getElem?_eq_some_iff.1 (HI.out.marks.here D hD').2).1
            have := HB4.out.size
            omega
          · rcases List.mem_cons.1 hD' with rfl | hD'
            · exact ⟨by omega, hK⟩
            · exact hJ1.marks.here D' hD'
        clear hJ hJ1 hK
        gi_wp2_with fail
        refine ⟨?_, ?_⟩
        · repeat apply Exists.intro
          exact ⟨⟨⟨by omega, hle3⟩, HJ1.out⟩, by rfl⟩
        · simp [intOf]; omega
      case body =>
        rintro l pre x post gx X W hL ⟨hJ, hle2⟩ hTo hX hXc
        have HJ := hide hJ
        obtain ⟨v, hv, hov⟩ := hJ.1.out
        obtain ⟨A, c, ev, hlc⟩ := hov.len
        have elen : ((spK ss k).map (spOf zs ss T) ++ pre.map (fun x => spOf zs ss T (k, x))).length = (spK ss k).length + pre.length := by simp
        obtain ⟨N, hN⟩ : ∃ N, N = (spK ss k).length + pre.length := ⟨_, rfl⟩
        rw [elen, ← hN] at ev hlc
        subst ev
        have cO := cell_of_one hv
        have zO := lt_of_cell cO
        have HV0 := hide hv
        have HOV := hide hov
        have HN := hide hN
        have hN4 : N ≤ 1024 := by omega
        have hmem : x ∈ pts s.box s.rows := by rw [hL]; simp
        have HMEM := hide hmem
        have HTOT : Hid (N + 1 ≤ (spK ss ss.length).length) := by
          have h1 := spK_mono ss ss.length (k + 1) hkl
          rw [spK_succ, List.length_append] at h1
          have h2 : (spS k (ss[k]?.getD stmD)).length = (pts s.box s.rows).length := by unfold spS; rw [List.length_map, ← HSS.out]
          rw [h2, hL, List.length_append, List.length_cons] at h1
          rw [Hid, hN]
          omega
        clear hv hov hN elen hL hmem hle2
        by_cases h4 : (N : Int) = 1024
        · have G2 := hJ.1.r1
          have G3 := hJ.1.r2
          have y2 := cell_of_one G2
          have y3 := cell_of_one G3
          have f2 := free_of_one G2
          have f3 := free_of_one G3
          have z2 := lt_of_cell y2
          have z3 := lt_of_cell y3
          clear G2 G3 hJ
          gi_wp2_with fail
          have e2 : ((W.setCell ⟨w.heap.size + 1 + 1, 0, none⟩ (.slice none 0 0)).setCell ⟨w.heap.size + 1 + 1 + 1, 0, none⟩ (.int .i64 5)).heap[w.heap.size + 1 + 1]? = some (.cells #[.slice none 0 0] 48 (0, 0)) := by
            rw [Below.heap_setCell _ ⟨w.heap.size + 1 + 1 + 1, 0, none⟩ _ _ (by simp only; omega)]
            simp [World.setCell, Array.getElem?_modify, HJ.out.1.r1]
          have e3 : ((W.setCell ⟨w.heap.size + 1 + 1, 0, none⟩ (.slice none 0 0)).setCell ⟨w.heap.size + 1 + 1 + 1, 0, none⟩ (.int .i64 5)).heap[w.heap.size + 1 + 1 + 1]? = some (.cells #[.int .i64 5] 29 (0, 0)) := by
            have h : (W.setCell ⟨w.heap.size + 1 + 1, 0, none⟩ (.slice none 0 0)).heap[w.heap.size + 1 + 1 + 1]? = some (.cells #[.int .i64 0] 29 (0, 0)) := (Below.heap_setCell _ ⟨w.heap.size + 1 + 1, 0, none⟩ _ _ (by simp only; omega)).trans HJ.out.1.r2
            generalize W.setCell ⟨w.heap.size + 1 + 1, 0, none⟩ (.slice none 0 0) = V at h ⊢
            simp [World.setCell, Array.getElem?_modify, h]
          have oth : ∀ b, b ≠ w.heap.size + 1 + 1 → b ≠ w.heap.size + 1 + 1 + 1 → ((W.setCell ⟨w.heap.size + 1 + 1, 0, none⟩ (.slice none 0 0)).setCell ⟨w.heap.size + 1 + 1 + 1, 0, none⟩ (.int .i64 5)).heap[b]? = W.heap[b]? := fun b h1 h2 => (Below.heap_setCell _ ⟨w.heap.size + 1 + 1 + 1, 0, none⟩ _ b h2).trans (Below.heap_setCell _ ⟨w.heap.size + 1 + 1, 0, none⟩ _ b h1)
          refine ⟨⟨by simp, fun b o _ hb hcl => (oth b (fun e => ?_) (fun e => ?_)).trans hb⟩, rfl, ⟨?_, ⟨e2, e3⟩, ⟨HJ.out.1.marks.nodup, fun D hD => ?_⟩⟩, by have := HTOT.out; omega⟩
          · rw [e, HJ.out.1.r1] at hb; cases hb; cases hcl
          · rw [e, HJ.out.1.r2] at hb; cases hb; cases hcl
          · exact (HJ.out.1.below.setCell (p := ⟨w.heap.size + 1 + 1, 0, none⟩) (by simp only; omega) _).setCell (p := ⟨w.heap.size + 1 + 1 + 1, 0, none⟩) (by simp only; omega) _
          · have := HJ.out.1.marks.here D hD
            exact ⟨this.1, (oth D (by omega) (by omega)).trans this.2⟩
        · have hxl : x.length = q.bl := hTo.2.2.1
          have hx4 : q.bl ≤ 4 := hTo.2.2.2.1
          have hxb := hTo.2.2.2.2
          have hTI := hTo.ints
          have cK := cell_of_one hJ.2.1.1
          have cX := cell_of_one hXc
          obtain ⟨y0, y1, y2, y3, y4, y5, y6, y7⟩ := hJ.2.1.2.cells
          obtain ⟨n0', n1'⟩ := hJ.1.ns.cells
          have hbw := hJ.1.below
          have HTO := hide (fun U (hb : Below W.heap.size W U) => to_any q.pu s.put X w.heap.size (some ⟨gx, 0, none⟩) q.bl q.bl x za zl zc zs U (HSG.out.put.below (bl_on hbw hb)) ((hb.cell (p := ⟨X, 0, none⟩) (lt_of_cell cX)).trans cX) ((hb.cell (p := ⟨w.heap.size, 0, none⟩) (lt_of_cell n0')).trans n0') (hTI.below hb) (HZ.out.below (bl_on hbw hb)) (by rw [hxl, ← HBL.out]; exact HSO.out.put) (by omega) hxb)
          have HEA := hide (fun U (hb : Below W.heap.size W U) => eachTo q.ga q.gl q.gc s.gets X w.heap.size (some ⟨gx, 0, none⟩) q.bl q.bl x za zl zc zs U (HSG.out.gets.below (bl_on hbw hb)) (by have h1 := HSG.out.gets.1; have h2 := HSO.out.takes; have h3 := takes_bd s.kind; omega) ((hb.cell (p := ⟨X, 0, none⟩) (lt_of_cell cX)).trans cX) ((hb.cell (p := ⟨w.heap.size, 0, none⟩) (lt_of_cell n0')).trans n0') (hTI.below hb) (HZ.out.below (bl_on hbw hb)) (fun a ha => by rw [hxl, ← HBL.out]; exact HSO.out.gets a ha) (by omega) hxb)
          obtain ⟨pv, hpv⟩ : ∃ pv, pv = leadV zs s.put x := ⟨_, rfl⟩
          rw [← hpv] at HTO
          unfold AW.v PW.v at HTO
          have HPV := hide hpv
          have HTOL := hide hTo
          have HXC := hide hXc
          clear hTo hxl hxb hTI hpv hJ hXc n0' n1' y0 y1
          gi_wp2_with fail
          refine region_madeIn 17 26 [fIs (.int .i64 (k : Int)), fIs (.slice (some ⟨gx, 0, none⟩) q.bl q.bl), fIs (.agg #[.int .i64 (k : Int), .slice (some ⟨gx, 0, none⟩) q.bl q.bl]), fIs (.pointer (some ⟨wo.heap.size + 1, 2, none⟩)), fIs (.int .i64 q.kd), fIs (.pointer (some ⟨wo.heap.size + 1, 3, none⟩)), fIs (.int .i64 q.va), fIs (.func (.func 44) #[] #[.pointer (some ⟨X, 0, none⟩), .pointer (some ⟨w.heap.size, 0, none⟩)]), fIs (.pointer (some ⟨wo.heap.size + 1, 4, none⟩)), fIs (.agg #[.int .i64 q.pu.arr, .slice q.pu.ca q.pu.cl q.pu.cc, .int .i64 q.pu.con]), fIs (.agg #[.int .i64 pv.arr, .int .i64 pv.pos]), fIs (.pointer (some ⟨wo.heap.size + 1, 7, none⟩)), fIs (.slice q.ga q.gl q.gc), fIs (.func (.func 44) #[] #[.pointer (some ⟨X, 0, none⟩), .pointer (some ⟨w.heap.size, 0, none⟩)]), fPls W.heap.size q.gl (s.gets.map fun a => leadV zs a x), fSpot W.heap.size (fun R => ⟨(k : Int), some ⟨gx, 0, none⟩, q.bl, q.bl, fun _ => 0, q.kd, q.va, pv, some ⟨R, 0, none⟩, q.gl, q.gl⟩) q.gl (s.gets.map fun a => leadV zs a x), fNewSpot W.heap.size] (by kernel_rfl) (by kernel_rfl) (by kernel_rfl) (by kernel_rfl) (fun ⟨_, _, h⟩ => h) (fun _ ⟨_, _⟩ ⟨_, _⟩ _ e h => by cases e; exact h) ⟨fIs_good _, fIs_good _, fIs_good _, fIs_good _, fIs_good _, fIs_good _, fIs_good _, fIs_good _, fIs_good _, fIs_good _, fIs_good _, fIs_good _, fIs_good _, fIs_good _, fPls_good _ _ _, fSpot_good _ _ _ _, fNewSpot_good _, trivial⟩ ?mk ?rest
          case mk =>
            refine ⟨fun u wz hb hd => ?_, fun u wz hb hd => ?_, fun u wz hb hd => ?_, fun u wz hb hd => ?_, fun u wz hb hd => ?_, fun u wz hb hd => ?_, fun u wz hb hd => ?_, fun u wz hb hd => ?_, fun u wz hb hd => ?_, fun u wz hb hd => ?_, fun u wz hb hd => ?_, fun u wz hb hd => ?_, fun u wz hb hd => ?_, fun u wz hb hd => ?_, fun u wz hb hd => ?_, fun u wz hb hd => ?_, fun u wz hb hd => ?_, trivial⟩
            all_goals simp only [Act.put, List.setIfInBounds_toArray, List.set_cons_zero, List.set_cons_succ]
            · have cK' := (hb.cell (p := ⟨wo.heap.size, 0, none⟩) (lt_of_cell cK)).trans cK
              go_simp
              exact ⟨rfl, Below.refl _ _, fun h => by cases h⟩
            · have cX' := (hb.cell (p := ⟨X, 0, none⟩) (lt_of_cell cX)).trans cX
              go_simp
              exact ⟨rfl, Below.refl _ _, fun h => by cases h⟩
            · have e0 : u 0 = .int .i64 (k : Int) := hd 0 (by omega) (by kernel_rfl)
              have e1 : u 1 = .slice (some ⟨gx, 0, none⟩) q.bl q.bl := hd 1 (by omega) (by kernel_rfl)
              rw [e0, e1]
              go_simp
              exact ⟨rfl, Below.refl _ _, fun h => by cases h⟩
            · go_simp
              exact ⟨rfl, Below.refl _ _, fun h => by cases h⟩
            · have e3 : u 3 = .pointer (some ⟨wo.heap.size + 1, 2, none⟩) := hd 3 (by omega) (by kernel_rfl)
              rw [e3]
              have y2' := (hb.cell (p := ⟨wo.heap.size + 1, 2, none⟩) (lt_of_cell y2)).trans y2
              go_simp
              exact ⟨rfl, Below.refl _ _, fun h => by cases h⟩
            · go_simp
              exact ⟨rfl, Below.refl _ _, fun h => by cases h⟩
            · have e5 : u 5 = .pointer (some ⟨wo.heap.size + 1, 3, none⟩) := hd 5 (by omega) (by kernel_rfl)
              rw [e5]
              have y3' := (hb.cell (p := ⟨wo.heap.size + 1, 3, none⟩) (lt_of_cell y3)).trans y3
              go_simp
              exact ⟨rfl, Below.refl _ _, fun h => by cases h⟩
            · go_simp
              exact ⟨rfl, Below.refl _ _, fun h => by cases h⟩
            · go_simp
              exact ⟨rfl, Below.refl _ _, fun h => by cases h⟩
            · have e8 : u 8 = .pointer (some ⟨wo.heap.size + 1, 4, none⟩) := hd 8 (by omega) (by kernel_rfl)
              rw [e8]
              have y4' := (hb.cell (p := ⟨wo.heap.size + 1, 4, none⟩) (lt_of_cell y4)).trans y4
              have y5' := (hb.cell (p := ⟨wo.heap.size + 1, 5, none⟩) (lt_of_cell y5)).trans y5
              have y6' := (hb.cell (p := ⟨wo.heap.size + 1, 6, none⟩) (lt_of_cell y6)).trans y6
              go_simp
              exact ⟨rfl, Below.refl _ _, fun h => by cases h⟩
            · have e7 : u 7 = .func (.func 44) #[] #[.pointer (some ⟨X, 0, none⟩), .pointer (some ⟨w.heap.size, 0, none⟩)] := hd 7 (by omega) (by kernel_rfl)
              have e9 : u 9 = .agg #[.int .i64 q.pu.arr, .slice q.pu.ca q.pu.cl q.pu.cc, .int .i64 q.pu.con] := hd 9 (by omega) (by kernel_rfl)
              rw [e7, e9]
              go_simp
              refine (HTO.out wz hb).mono ?_
              rintro e w2 ⟨rfl, hb2⟩
              exact ⟨rfl, hb2, fun h => by cases h⟩
            · go_simp
              exact ⟨rfl, Below.refl _ _, fun h => by cases h⟩
            · have e11 : u 11 = .pointer (some ⟨wo.heap.size + 1, 7, none⟩) := hd 11 (by omega) (by kernel_rfl)
              rw [e11]
              have y7' := (hb.cell (p := ⟨wo.heap.size + 1, 7, none⟩) (lt_of_cell y7)).trans y7
              go_simp
              exact ⟨rfl, Below.refl _ _, fun h => by cases h⟩
            · go_simp
              exact ⟨rfl, Below.refl _ _, fun h => by cases h⟩
            · have e12 : u 12 = .slice q.ga q.gl q.gc := hd 12 (by omega) (by kernel_rfl)
              have e13 : u 13 = .func (.func 44) #[] #[.pointer (some ⟨X, 0, none⟩), .pointer (some ⟨w.heap.size, 0, none⟩)] := hd 13 (by omega) (by kernel_rfl)
              rw [e12, e13]
              go_simp
              refine (HEA.out wz hb).mono ?_
              rintro e w2 ⟨⟨R, rfl, hl⟩, hb2⟩
              exact ⟨⟨R, rfl, hl.mono hb.size⟩, hb2, fun h => by cases h⟩
            · have e2 : u 2 = .agg #[.int .i64 (k : Int), .slice (some ⟨gx, 0, none⟩) q.bl q.bl] := hd 2 (by omega) (by kernel_rfl)
              have e4 : u 4 = .int .i64 q.kd := hd 4 (by omega) (by kernel_rfl)
              have e6 : u 6 = .int .i64 q.va := hd 6 (by omega) (by kernel_rfl)
              have e10 : u 10 = .agg #[.int .i64 pv.arr, .int .i64 pv.pos] := hd 10 (by omega) (by kernel_rfl)
              obtain ⟨R4, e14, h14⟩ := hd 14 (by omega) (by kernel_rfl)
              rw [e2, e4, e6, e10, e14]
              go_simp
              exact ⟨⟨R4, rfl, h14⟩, Below.refl _ _, fun h => by cases h⟩
            · go_simp
              exact ⟨⟨_, rfl, World.alloc_heap_new _ _, hb.size⟩, bl_new _, fun h => by cases h⟩
          case rest =>
            intro u wz hb hf hp
            have f0 : u 0 = .int .i64 (k : Int) := hf 0 (by omega)
            have f1 : u 1 = .slice (some ⟨gx, 0, none⟩) q.bl q.bl := hf 1 (by omega)
            have f2 : u 2 = .agg #[.int .i64 (k : Int), .slice (some ⟨gx, 0, none⟩) q.bl q.bl] := hf 2 (by omega)
            have f3 : u 3 = .pointer (some ⟨wo.heap.size + 1, 2, none⟩) := hf 3 (by omega)
            have f4 : u 4 = .int .i64 q.kd := hf 4 (by omega)
            have f5 : u 5 = .pointer (some ⟨wo.heap.size + 1, 3, none⟩) := hf 5 (by omega)
            have f6 : u 6 = .int .i64 q.va := hf 6 (by omega)
            have f7 : u 7 = .func (.func 44) #[] #[.pointer (some ⟨X, 0, none⟩), .pointer (some ⟨w.heap.size, 0, none⟩)] := hf 7 (by omega)
            have f8 : u 8 = .pointer (some ⟨wo.heap.size + 1, 4, none⟩) := hf 8 (by omega)
            have f9 : u 9 = .agg #[.int .i64 q.pu.arr, .slice q.pu.ca q.pu.cl q.pu.cc, .int .i64 q.pu.con] := hf 9 (by omega)
            obtain f10 := hf 10 (by omega)
            have f11 : u 11 = .pointer (some ⟨wo.heap.size + 1, 7, none⟩) := hf 11 (by omega)
            have f12 : u 12 = .slice q.ga q.gl q.gc := hf 12 (by omega)
            have f13 : u 13 = .func (.func 44) #[] #[.pointer (some ⟨X, 0, none⟩), .pointer (some ⟨w.heap.size, 0, none⟩)] := hf 13 (by omega)
            obtain ⟨_, f14, _⟩ := hf 14 (by omega)
            obtain ⟨R, f15, hPl⟩ := hf 15 (by omega)
            obtain ⟨H, f16, hH, hHn⟩ := hf 16 (by omega)
            refine UptoW.rest 1 17 (by rfl) (by kernel_rfl) ?_
            simp only [List.take, List.drop, putOps, Act.put, List.setIfInBounds_toArray, List.set_cons_zero, List.set_cons_succ, Nat.reduceAdd, f0, f1, f2, f3, f4, f5, f6, f7, f8, f9, f11, f12, f13, f14, f15, f16]
            clear f0 f1 f2 f3 f4 f5 f6 f7 f8 f9 f10 f11 f12 f13 f14 f15 f16 hf hp
            have zH := hH.lt
            obtain ⟨t0, t1, t2, t3, t4, t5, t6, t7, t8, t9, t10, t11, t12, t13, t14⟩ := hH.cells
            have m0 := hH.free 0
            have m1 := hH.free 1
            have m2 := hH.free 2
            have m3 := hH.free 3
            have m4 := hH.free 4
            have m5 := hH.free 5
            have m6 := hH.free 6
            have m7 := hH.free 7
            have m8 := hH.free 8
            have m9 := hH.free 9
            have m10 := hH.free 10
            have m11 := hH.free 11
            have m12 := hH.free 12
            have m13 := hH.free 13
            have m14 := hH.free 14
            unfold twD at t0 t1 t2 t3 t4 t5 t6 t7 t8 t9 t10 t11 t12 t13 t14
            have HH := hide hH
            have HPL := hide hPl
            have HBZ := hide hb
            have HHN := hide hHn
            clear hH hPl hb cK cX y2 y3 y4 y5 y6 y7 cO zO HTO HEA
            unfold TW.v TW.cs
            go_wp2_with fail
            obtain ⟨u0, hu0⟩ : ∃ u0 : TW, u0 = ⟨(k : Int), some ⟨gx, 0, none⟩, q.bl, q.bl, fun _ => 0, q.kd, q.va, pv, some ⟨R, 0, none⟩, q.gl, q.gl⟩ := ⟨_, rfl⟩
            obtain ⟨Wh, hWh⟩ : ∃ Wh, Wh = putT wz H ⟨(k : Int), some ⟨gx, 0, none⟩, q.bl, q.bl, fun _ => 0, q.kd, q.va, pv, some ⟨R, 0, none⟩, q.gl, q.gl⟩ := ⟨_, rfl⟩
            have hWh' := hWh
            unfold putT at hWh'
            simp only at hWh'
            rw [← hWh']
            rw [← hu0] at hWh
            have BW : Below W.heap.size W Wh := by rw [hWh]; exact putT_below HBZ.out HHN.out _
            have HHh : Hid (u0.blk Wh H) := by rw [Hid, hWh]; exact putT_blk HH.out
            have HPh : Hid (Lies W.heap.size (fun V => PlsAt V (some ⟨R, 0, none⟩) q.gl (s.gets.map fun a => leadV zs a x)) Wh) := by rw [Hid, hWh]; exact HPL.out.keep (putT_keep HH.out u0)
            have HU0 := hide hu0
            have HBW := hide BW
            clear t0 t1 t2 t3 t4 t5 t6 t7 t8 t9 t10 t11 t12 t13 t14 m0 m1 m2 m3 m4 m5 m6 m7 m8 m9 m10 m11 m12 m13 m14 hWh hWh' HH HPL HBZ zH hu0
            have hkm : k < ml := by rw [← HTL.out, HOK.out.len]; exact hkl
            have hkmz : (k : Int) < (ml : Int) := by omega
            have bwh := bl_on HJ.out.1.below BW
            have cT0 := cell_of_one HJ.out.1.tb
            have cT := (BW.cell (p := ⟨w.heap.size + 1, 0, none⟩) (lt_of_cell cT0)).trans cT0
            have cK0 := cell_of_one HJ.out.2.1.1
            have cK := (BW.cell (p := ⟨wo.heap.size, 0, none⟩) (lt_of_cell cK0)).trans cK0
            obtain ⟨mb, mo, rfl, hat⟩ := HT.out.at (by omega)
            obtain ⟨ra, rl, rc, r1', r2⟩ := hat k hkm
            have r1 := (bwh.cell (p := ⟨mb, mo + k, none⟩) (lt_of_cell r1')).trans r1'
            have zr1 := lt_of_cell r1
            have zT := lt_of_cell cT
            have zK := lt_of_cell cK
            have HRK := hide (HOK.out.rows k (by rw [HTL.out]; exact hkm))
            obtain ⟨rows, hrows⟩ : ∃ rows, rows = T[k]?.getD [] := ⟨_, rfl⟩
            rw [← hrows] at r2 HRK
            have HROWS := hide hrows
            have HRW := hide r2
            have hrl8 : rl ≤ 8 := by have h1 := r2.1; have h2 := HRK.out.1; omega
            have hrlm := r2.2.1
            obtain ⟨f, hf⟩ : ∃ f, f = timeV rows x := ⟨_, rfl⟩
            have HF := hide hf
            have HHs : Hid ((u0.upto f 0).blk Wh H) := by
              have h := HHh.out
              rw [Hid]
              unfold TW.blk TW.cs TW.upto at *
              rw [HU0.out] at h ⊢
              simpa using h
            clear BW bwh cT0 cK0 hat r1' r2 hrows hf HHh
            gi_wp2_with fail
            clear cT cK r1 zr1 zT zK
            gi_loopw [58] (fun i U => ∃ j : Nat, j ≤ rl ∧ i = .int .i64 j ∧ Below W.heap.size W U ∧ (u0.upto f j).blk U H ∧ Lies W.heap.size (fun V => PlsAt V (some ⟨R, 0, none⟩) q.gl (s.gets.map fun a => leadV zs a x)) U) (fun i _ => rl - (intOf i).toNat)
            case atStart => exact ⟨0, Nat.zero_le _, rfl, HBW.out, HHs.out, HPh.out⟩
            case round =>
              obtain ⟨j, hj, rfl, hBU, hHU, hPU⟩ := hrel
              have HBU := hide hBU
              have HHU := hide hHU
              have HPU := hide hPU
              clear hBU hHU hPU HBW HHs HPh
              by_cases hlt2 : j < rl
              · have hjl : j < rows.length := by rw [HRW.out.1]; exact hlt2
                obtain ⟨rb, ro, rfl, hatr⟩ := HRW.out.at (by omega)
                obtain ⟨ca, cl, cc, e1', e2', e3, e4, e5⟩ := hatr j hlt2
                have bwu := bl_on HJ.out.1.below HBU.out
                have e1 := (bwu.cell (p := ⟨rb, ro + j * 2, none⟩) (lt_of_cell e1')).trans e1'
                have e2 := (bwu.cell (p := ⟨rb, ro + j * 2 + 1, none⟩) (lt_of_cell e2')).trans e2'
                have ze1 := lt_of_cell e1
                have ze2 := lt_of_cell e2
                obtain ⟨hrl1, hrc, hrcs⟩ := rowE_ok (HRK.out.2 _ (mem_getR rows j hjl))
                have hfj : f j = worthV (rows[j]?.getD ([], 0)) x := by
                  rw [HF.out]
                  unfold timeV
                  rw [if_pos hjl]
                obtain ⟨rr, hrr⟩ : ∃ rr, rr = rows[j]?.getD ([], 0) := ⟨_, rfl⟩
                rw [← hrr] at e2 e3 hrl1 hrc hrcs hfj
                obtain ⟨cs, K⟩ := rr
                simp only at e2 e3 hrl1 hrc hrcs
                have cX0 := cell_of_one HXC.out
                have cX1 := (HBU.out.cell (p := ⟨X, 0, none⟩) (lt_of_cell cX0)).trans cX0
                obtain ⟨Un, hUn⟩ : ∃ Un, Un = wr.alloc (.cells #[.slice ca cl cc, .int .i64 K] 66) := ⟨_, rfl⟩
                have Bn : Below wr.heap.size wr Un := by rw [hUn]; exact bl_new _
                have hnew : Un.heap[wr.heap.size]? = some (.cells #[.slice ca cl cc, .int .i64 K] 66 (0, 0)) := by rw [hUn]; exact World.alloc_heap_new _ _
                obtain ⟨x0, x1⟩ := cells_two hnew
                have zcX := lt_of_cell cX1
                have znew := (Array.getElem?_eq_some_iff.1 hnew).1
                have HC := hide (worth_any ca cl cc cs K (some ⟨gx, 0, none⟩) q.bl q.bl x Un (e3.below (bl_on bwu Bn)) ((HTOL.out.ints.below HBU.out).below Bn) (by have h1 := e3.1; have h2 := HTOL.out.2.2.1; have h3 := HBL.out; rw [← HSS.out] at hrl1; omega) (by have h1 := e3.1; rw [← HSS.out] at hrl1; have h3 := HBL.out; omega) hrc hrcs HTOL.out.2.2.2.2)
                rw [← hfj] at HC
                have HUn := hide hUn
                have HBn := hide Bn
                have hj8 : j < 8 := by omega
                clear hatr e1' e2' e3 e4 e5 bwu hrr hrl1 hrc hrcs hfj cX0 hUn Bn hnew x0 x1 znew
                gi_wp2_with (refine ⟨trivial, ?_⟩; gi_at_call 47; rw [← HUn.out]; refine (callsIn_wide.2 HC.out).mono ?_; rintro e w3 ⟨rfl, hb3⟩; have HB3 := hide (bl_on HBn.out hb3); have HH3 := hide ((HHU.out.below HBn.out).below hb3); have HP3 := hide ((HPU.out.below HBn.out).below hb3); have ch := upto_cell ((HHU.out.below HBn.out).below hb3) hj8; have cf := ((HHU.out.below HBn.out).below hb3).free (2 + j); have zh := ((HHU.out.below HBn.out).below hb3).lt; clear hb3)
                go_roundw
                case rel => exact ⟨j + 1, by omega, by go_num, (bl_on HBU.out HB3.out).setCell (p := ⟨H, 2 + j, none⟩) HHN.out _, upto_blk HH3.out hj8, HP3.out.keep (KeepF.sp (p := ⟨H, 2 + j, none⟩) HH3.out _)⟩
                case measure => simp [intOf]; omega
              · obtain rfl : j = rl := by omega
                obtain ⟨u1, hu1⟩ : ∃ u1, u1 = u0.upto f j := ⟨_, rfl⟩
                have hB1 : u1.blk wr H := by rw [hu1]; exact HHU.out
                obtain ⟨t0, t1, t2, t3, t4, t5, t6, t7, t8, t9, t10, t11, t12, t13, t14⟩ := hB1.cells
                have zH := hB1.lt
                have cO0 := cell_of_one HV0.out
                have cO := (HBU.out.cell (p := ⟨O, 0, none⟩) (lt_of_cell cO0)).trans cO0
                have zO := lt_of_cell cO
                have hW4 : w4.heap.size ≤ W.heap.size := HJ.out.2.2.2
                have hW5 : W.heap.size ≤ wr.heap.size := HBU.out.size
                have hTG : Lies (O + 1) (fun V => TG V u1 (spOf zs ss T (k, x))) wr := by
                  have hrow : wr.rowIs gx 3 q.bl (fun j => .int .i64 (x[j]?.getD 0)) := HTOL.out.2.1.of_block (HBU.out.block gx HTOL.out.lt)
                  have hgx : O + 1 ≤ gx := by have := HTOL.out.1; omega
                  refine ((lies_row hrow hgx).and (HPU.out.mono (by omega))).imp (fun V hV => ?_)
                  have hI : RowI V gx q.bl x := hV.1
                  rw [hu1, HU0.out]
                  refine ⟨rfl, ⟨ints_of_rowI hI HTOL.out.2.2.1 (Nat.le_trans HTOL.out.2.2.2.1 (by omega)) (fun y hy => by have := HTOL.out.2.2.2.2 y hy; omega), Nat.le_refl _, fun e => by cases e⟩, ?_, ?_, ?_, ?_, ?_, Nat.le_refl _, fun b o e => by cases e; obtain ⟨cur, hcur, _⟩ := hI; exact ⟨cur, _, hcur⟩⟩
                  · funext i
                    simp only [TW.upto, spOf]
                    rw [HF.out, HROWS.out]
                    unfold timeV
                    have hl : (T[k]?.getD []).length = j := by rw [← HROWS.out]; exact HRW.out.1
                    rw [hl]
                    by_cases h : i < j
                    · rw [if_pos h, if_pos h]
                    · rw [if_neg h, if_neg h]
                  · simp only [TW.upto, spOf]
                    rw [← HSS.out]
                    exact HSG.out.kd
                  · simp only [TW.upto, spOf]
                    rw [← HSS.out]
                    exact HSG.out.va
                  · simp only [TW.upto, spOf]
                    rw [← HSS.out]
                    exact HPV.out
                  · simp only [TW.upto, spOf]
                    rw [← HSS.out]
                    exact hV.2
                have HTG := hide hTG
                have hN2 : (N + 1) * 152 ≤ 140737488355328 := by omega
                have HLN : Hid (((spK ss k).map (spOf zs ss T) ++ pre.map (fun x => spOf zs ss T (k, x))).length = N) := by rw [Hid, HN.out]; simp
                have HOVU := hide (HOV.out.below HBU.out)
                have hOW : O < W.heap.size := by omega
                clear cO0 hTG hB1 hu1
                gi_wp2_with (gi_at_builtin; refine append_tw (by rfl) (.tmp 70) (.tmp 72) (by rfl) (O + 1) _ (by rfl) ((spK ss k).map (spOf zs ss T) ++ pre.map (fun x => spOf zs ss T (k, x))) u1 (spOf zs ss T (k, x)) HOVU.out HTG.out (by rfl) (by rw [HLN.out]; exact hN2) (by omega) ?_; intro v' w7 hout hb7 hk7 hot hbl; obtain ⟨A2, c2, ev2, _⟩ := hout.len; obtain ⟨n2, hn2⟩ : ∃ n2, n2 = ((spK ss k).map (spOf zs ss T) ++ pre.map (fun x => spOf zs ss T (k, x)) ++ [spOf zs ss T (k, x)]).length := ⟨_, rfl⟩; rw [← hn2] at ev2; subst ev2; clear hn2; have HOUT := hide hout; have HB7 := hide hb7; have HK7 := hide hk7; have HOT := hide hot; have HBL7 := hide hbl; have c7 := (hb7.cell (p := ⟨O, 0, none⟩) (by simp only; omega)).trans cO; have f7 : w7.frozen? ⟨O, 0, none⟩ = false := (hb7.frozen (p := ⟨O, 0, none⟩) (by simp only; omega)).trans ((HBU.out.frozen (p := ⟨O, 0, none⟩) (by simp only; omega)).trans (free_of_one HV0.out)); have z7 := lt_of_cell c7; clear hout hb7 hk7 hot hbl)
                obtain ⟨i1, i2, i3⟩ := HJ.out.step hO3 (by omega) (by omega) HBU.out HV0.out HOVU.out HOUT.out HB7.out HK7.out HOT.out HBL7.out
                rw [hVs] at i1 i3
                exact ⟨i2.from _, i3, i1, by have := HN.out; omega⟩
end Go.Proofs.Ytoidgdbgpbcebaa.V
namespace Go.Proofs.Ytoidgdbgpbcebaa.V
open Go Go.RowKit
set_option linter.unusedVariables false

theorem cmpT_neg (f g : Nat → Int) : decide (cmpT f g < 0) = befB f g := by
  unfold cmpT
  cases e : befB f g
  · cases e2 : befB g f <;> simp
  · simp
theorem cmpT_zero (f g : Nat → Int) : decide (cmpT g f = 0) = eq8 f g := by
  rw [Bool.eq_iff_iff, decide_eq_true_iff, eq8_iff]
  constructor
  · intro h
    unfold cmpT at h
    rcases befB_tri f g with c | c | c
    · rw [befB_asymm c, c] at h; simp at h
    · rw [c] at h; simp at h
    · exact c
  · intro h
    exact cmpT_same (fun j hj => (h j hj).symm)
set_option maxRecDepth 100000 in
set_option maxHeartbeats 2000000 in
theorem legal1_any (p q : TW) (w : World) : Calls Try.prog 30 #[p.v, q.v] w fun e w' => e = .returned (.bool (befB q.tm p.tm)) ∧ Below w.heap.size w w' := by
  have HB : Hid (Below w.heap.size w ((w.alloc (.cells p.cs 59)).alloc (.cells q.cs 59))) := bl_on (bl_new _) (bl_new _)
  have HC := hide (byTime_any q p ((w.alloc (.cells p.cs 59)).alloc (.cells q.cs 59)))
  rw [← cmpT_neg]
  obtain ⟨K, hK⟩ : ∃ K, K = cmpT q.tm p.tm := ⟨_, rfl⟩
  rw [← hK] at HC ⊢
  clear hK
  unfold TW.v TW.cs at *
  go_enter Try.func30, Try.ntmps30
  go_wp2_with (go_at_call 31; refine HC.out.mono ?_; rintro e w2 ⟨rfl, hb⟩; have HB2 := hide (bl_on HB.out hb); clear hb)
  go_ret
  exact ⟨rfl, HB2.out⟩
set_option maxRecDepth 100000 in
set_option maxHeartbeats 2000000 in
theorem free1_any (p q : TW) (w : World) : Calls Try.prog 37 #[p.v, q.v] w fun e w' => e = .returned (.bool (decide (cmpT q.tm p.tm = 0))) ∧ Below w.heap.size w w' := by
  have HB : Hid (Below w.heap.size w ((w.alloc (.cells p.cs 59)).alloc (.cells q.cs 59))) := bl_on (bl_new _) (bl_new _)
  have HC := hide (byTime_any q p ((w.alloc (.cells p.cs 59)).alloc (.cells q.cs 59)))
  obtain ⟨K, hK⟩ : ∃ K, K = cmpT q.tm p.tm := ⟨_, rfl⟩
  rw [← hK] at HC ⊢
  clear hK
  unfold TW.v TW.cs at *
  go_enter Try.func37, Try.ntmps37
  go_wp2_with (go_at_call 31; refine HC.out.mono ?_; rintro e w2 ⟨rfl, hb⟩; have HB2 := hide (bl_on HB.out hb); clear hb)
  go_ret
  refine ⟨?_, HB2.out⟩
  by_cases c : K = 0 <;> simp [c]
theorem flat_get : ∀ (us : List TW) (j i : Nat), i < 15 → j < us.length → (us.flatMap twCs)[j * 15 + i]? = (us[j]?.getD twD).cs[i]?
  | [], j, i, _, hj => by simp at hj
  | u :: us, 0, i, hi, _ => by
    rw [List.flatMap_cons, List.getElem?_append_left (by rw [twCs_len]; omega)]
    simp [twCs]
  | u :: us, j + 1, i, hi, hj => by
    rw [List.flatMap_cons, List.getElem?_append_right (by rw [twCs_len]; omega), twCs_len]
    have := flat_get us j i hi (by simpa using hj)
    rw [show (j + 1) * 15 + i - 15 = j * 15 + i by omega, this]
    simp
theorem OutT.at {W : World} {B : Nat} {v : Value} {S : List Sp} (h : OutT W B v S) : ∃ aa ac us, v = .slice aa S.length ac ∧ TAt W aa S.length us ∧ ∀ j, j < S.length → Lies B (fun V => TG V (us j) (S[j]?.getD spDD)) W := by
  obtain ⟨us, h1, h2, h3⟩ := h
  rcases h2.2 with ⟨e, e2⟩ | ⟨g, cap, cur, e, e2, e3, e4⟩
  · exact ⟨none, 0, fun j => us[j]?.getD twD, by rw [e, ← h1, e2], fun j hj => by omega, h3⟩
  · refine ⟨some ⟨g, 0, none⟩, cap, fun j => us[j]?.getD twD, by rw [e, h1], fun j hj => ⟨g, 0, rfl, fun i hi => ?_⟩, h3⟩
    have hs : (us[j]?.getD twD).cs[i]? = some ((us[j]?.getD twD).cs[i]'(by simpa [TW.cs] using hi)) := Array.getElem?_eq_getElem _
    have := h2.cells (g := g) (by rw [e]; rfl) (j * 15 + i) _ ((flat_get us j i hi (by omega)).trans hs)
    rw [Go.WideShapes.add_plain] at this
    rw [hs, ← this]
    congr 2
    omega
/-- The first one of a list that is amiss, up to place i; k where there is none. -/
structure First (am : Nat → Bool) (l : List Nat) (k i f : Nat) : Prop where
  le : f ≤ k
  hit : f < k → f ∈ l ∧ am f = true
  low : ∀ a ∈ l.take i, am a = true → f ≤ a
theorem First.zero (am : Nat → Bool) (l : List Nat) (k : Nat) : First am l k 0 k := ⟨Nat.le_refl _, fun h => by omega, fun a ha => by simp at ha⟩
theorem First.step {am : Nat → Bool} {l : List Nat} {k i f a : Nat} (h : First am l k i f) (ha : l[i]? = some a) : First am l k (i + 1) (if a < f ∧ am a = true then a else f) := by
  have hi := (List.getElem?_eq_some_iff.1 ha).1
  have hget := (List.getElem?_eq_some_iff.1 ha).2
  have ht : l.take (i + 1) = l.take i ++ [a] := by rw [List.take_succ_eq_append_getElem hi, hget]
  have hm : a ∈ l := by rw [← hget]; exact List.getElem_mem hi
  by_cases c : a < f ∧ am a = true
  · rw [if_pos c]
    refine ⟨by have := h.le; omega, fun _ => ⟨hm, c.2⟩, fun x hx hx2 => ?_⟩
    rw [ht, List.mem_append] at hx
    rcases hx with hx | hx
    · have := h.low x hx hx2
      omega
    · simp at hx
      omega
  · rw [if_neg c]
    refine ⟨h.le, h.hit, fun x hx hx2 => ?_⟩
    rw [ht, List.mem_append] at hx
    rcases hx with hx | hx
    · exact h.low x hx hx2
    · simp at hx
      subst hx
      rcases Nat.lt_or_ge x f with c2 | c2
      · exact absurd ⟨c2, hx2⟩ c
      · exact c2
/-- What is looked for. -/
def badA (am : (Nat → Int) → (Nat → Int) → Bool) (zs : List Int) (ss : List Stm) (T : Tms) (a b : Nat × List Int) : Bool := am (spOf zs ss T a).tm (spOf zs ss T b).tm && decide (clash (memZ zs) (ss[a.1]?.getD stmD) (ss[b.1]?.getD stmD) a.2 b.2)
theorem none_skip {am : (Nat → Int) → (Nat → Int) → Bool} {zs : List Int} {ss : List Stm} {T : Tms} (hok : NestOk zs ss) {l : List (Nat × List Int)} {k : Nat} (hk : (l[k]?.getD spD).1 < ss.length) (hb : (spOf zs ss T (l[k]?.getD spD)).put.pos = -1) (h : NoneTo (badA am zs ss T) l k) : NoneTo (badA am zs ss T) l (k + 1) := by
  intro j i hj hi
  rcases Nat.lt_or_ge j k with c | c
  · exact h j i c hi
  · obtain rfl : j = k := by omega
    unfold badA
    rw [decide_eq_false (clash_in T hok hk hb), Bool.and_false]
theorem bad_iff {am : (Nat → Int) → (Nat → Int) → Bool} {zs : List Int} {ss : List Stm} {T : Tms} (hok : NestOk zs ss) {l : List (Nat × List Int)} {i k : Nat} (hi : i < k) (hki : (l[i]?.getD spD).1 < ss.length) (hk : (l[k]?.getD spD).1 < ss.length) (hb : (spOf zs ss T (l[k]?.getD spD)).put.pos ≠ -1) (S : Nat → Sp) (hS : ∀ j, S j = spOf zs ss T (l[j]?.getD spD)) (kd : Nat → Int) (hkd : ∀ j, kd j = (S j).kd) :
    badA am zs ss T (l[i]?.getD spD) (l[k]?.getD spD) = true ↔ i ∈ aheadL (touchL S k) kd (S k).kd (S k).put (S k).gets ∧ am (S i).tm (S k).tm = true := by
  rw [mem_ahead S kd hkd, hS i, hS k, way_clash T hok hki hk hb]
  unfold badA
  rw [Bool.and_eq_true, decide_eq_true_iff]
  constructor
  · rintro ⟨h1, h2⟩; exact ⟨⟨hi, h2⟩, h1⟩
  · rintro ⟨⟨_, h2⟩, h1⟩; exact ⟨h1, h2⟩
theorem first_none {am : (Nat → Int) → (Nat → Int) → Bool} {zs : List Int} {ss : List Stm} {T : Tms} (hok : NestOk zs ss) {l : List (Nat × List Int)} {k : Nat} (hl : ∀ j, j < l.length → (l[j]?.getD spD).1 < ss.length) (hk : k < l.length) (hb : (spOf zs ss T (l[k]?.getD spD)).put.pos ≠ -1) (S : Nat → Sp) (hS : ∀ j, S j = spOf zs ss T (l[j]?.getD spD)) (kd : Nat → Int) (hkd : ∀ j, kd j = (S j).kd)
    (h : NoneTo (badA am zs ss T) l k) {n f : Nat} (hf : First (fun a => am (S a).tm (S k).tm) (aheadL (touchL S k) kd (S k).kd (S k).put (S k).gets) k n f) (hn : (aheadL (touchL S k) kd (S k).kd (S k).put (S k).gets).length ≤ n) : (f < k → FirstAt (badA am zs ss T) l f k) ∧ (¬ f < k → NoneTo (badA am zs ss T) l (k + 1)) := by
  have low := hf.low
  rw [List.take_of_length_le hn] at low
  have below : ∀ i, i < f → i < k → badA am zs ss T (l[i]?.getD spD) (l[k]?.getD spD) = false := fun i h1 h2 => by
    rw [Bool.eq_false_iff]
    intro hb'
    obtain ⟨e1, e2⟩ := (bad_iff hok h2 (hl i (by omega)) (hl k hk) hb S hS kd hkd).1 hb'
    have := low i e1 e2
    omega
  constructor
  · intro hlt
    obtain ⟨e1, e2⟩ := hf.hit hlt
    exact ⟨hk, hlt, (bad_iff hok hlt (hl f (by omega)) (hl k hk) hb S hS kd hkd).2 ⟨e1, e2⟩, h, fun i hi => below i hi (by omega)⟩
  · intro hge j i hj hi
    rcases Nat.lt_or_ge j k with c | c
    · exact h j i c hi
    · obtain rfl : j = k := by omega
      exact below i (by have := hf.le; omega) hi
end Go.Proofs.Ytoidgdbgpbcebaa.V
namespace Go.Proofs.Ytoidgdbgpbcebaa.V
open Go Go.RowKit
set_option linter.unusedVariables false

theorem spots_bad (za : Option Addr) (zl zc : Nat) (zs : List Int) (ta : Option Addr) (tl tc : Nat) (ss : List Stm) (ma : Option Addr) (ml mc : Nat) (T : Tms) (w : World) (hz : Ints w za zl zs) (hs : Stms w ta tl ss) (hT : TimesA w ma ml T) (hE : rightE zs ss T ≠ 0) :
    Calls Try.prog 17 #[.agg #[.slice za zl zc, .slice ta tl tc], .slice ma ml mc] w fun e w' => e = .returned (.tuple #[.slice none 0 0, .int .i64 (rightE zs ss T)]) ∧ Below w.heap.size w w' := by
  by_cases h : ordE zs ss T = 0
  · have h1 := callsIn_wide.1 (spots_ok za zl zc zs ta tl tc ss ma ml mc T w hz hs hT h)
    refine h1.mono ?_
    rintro e w' ⟨h2, h3⟩
    unfold rightE at hE ⊢
    rw [if_neg (by simpa using h)] at hE ⊢
    unfold SpotsR at h2
    by_cases c : 1024 < (spK ss ss.length).length
    · rw [if_pos c] at h2 ⊢
      exact ⟨h2, h3⟩
    · rw [if_neg c] at hE
      exact absurd rfl hE
  · unfold rightE
    rw [if_pos h]
    exact spots_no za zl zc zs ta tl tc ss ma ml mc T w hz hs hT h
theorem spots_good (za : Option Addr) (zl zc : Nat) (zs : List Int) (ta : Option Addr) (tl tc : Nat) (ss : List Stm) (ma : Option Addr) (ml mc : Nat) (T : Tms) (w : World) (hz : Ints w za zl zs) (hs : Stms w ta tl ss) (hT : TimesA w ma ml T) (hE : rightE zs ss T = 0) :
    Calls Try.prog 17 #[.agg #[.slice za zl zc, .slice ta tl tc], .slice ma ml mc] w fun e w' => (∃ v B, e = .returned (.tuple #[v, .int .i64 0]) ∧ w.heap.size ≤ B ∧ OutT w' B v ((spK ss ss.length).map (spOf zs ss T))) ∧ Below w.heap.size w w' := by
  have hR := rightE_ok hE
  have h0 : ordE zs ss T = 0 := by
    unfold rightE at hE
    by_cases h1 : ordE zs ss T ≠ 0
    · rw [if_pos h1] at hE; exact absurd hE h1
    · simpa using h1
  have h1 := callsIn_wide.1 (spots_ok za zl zc zs ta tl tc ss ma ml mc T w hz hs hT h0)
  refine h1.mono ?_
  rintro e w' ⟨h2, h3⟩
  unfold SpotsR at h2
  rw [if_neg (by have := hR.few; omega)] at h2
  exact ⟨h2, h3⟩
set_option maxRecDepth 100000 in
set_option maxHeartbeats 4000000 in
theorem look_bad (za : Option Addr) (zl zc : Nat) (zs : List Int) (ta : Option Addr) (tl tc : Nat) (ss : List Stm) (ma : Option Addr) (ml mc : Nat) (T : Tms) (gv : Value) (w : World) (hz : Ints w za zl zs) (hs : Stms w ta tl ss) (hT : TimesA w ma ml T) (hE : rightE zs ss T ≠ 0) :
    Calls Try.prog 29 #[.agg #[.slice za zl zc, .slice ta tl tc], .slice ma ml mc, gv] w fun e w' => e = .returned (.tuple #[zeroF, .int .i64 (rightE zs ss T)]) ∧ Below w.heap.size w w' := by
  obtain ⟨W, hW⟩ : ∃ W, W = (w.alloc (.cells #[.slice za zl zc, .slice ta tl tc] 25)).alloc (.cells #[.bool false, .int .i64 0, .slice none 0 0, .int .i64 0, .slice none 0 0] 38) := ⟨_, rfl⟩
  have BW : Below w.heap.size w W := by rw [hW]; exact bl_on (bl_new _) (bl_new _)
  have N1 : NsBlk W w.heap.size za zl zc ta tl tc := by rw [hW]; exact (Below.heap_alloc _ _ _ (by simp)).trans (World.alloc_heap_new w _)
  have F1 : W.heap[w.heap.size + 1]? = some (.cells #[.bool false, .int .i64 0, .slice none 0 0, .int .i64 0, .slice none 0 0] 38 (0, 0)) := by
    rw [hW]
    have := World.alloc_heap_new (w.alloc (.cells #[.slice za zl zc, .slice ta tl tc] 25)) (.cells #[.bool false, .int .i64 0, .slice none 0 0, .int .i64 0, .slice none 0 0] 38)
    rw [World.size_alloc] at this
    exact this
  obtain ⟨n0, n1⟩ := N1.cells
  have zn := N1.lt
  have HRI := hide (spots_bad za zl zc zs ta tl tc ss ma ml mc T W (hz.below BW) (hs.below BW) (hT.below BW) hE)
  have HW := hide hW
  have HBW := hide BW
  have HF := hide F1
  obtain ⟨E, hEE⟩ : ∃ E, E = rightE zs ss T := ⟨_, rfl⟩
  rw [← hEE] at hE HRI
  rw [← hEE]
  have hEb : (E != 0) = true := by simpa using hE
  clear hz hs hT hW BW F1 N1 hEE hE
  go_enter Try.func29, Try.ntmps29
  go_wp2_with fail
  rw [← HW.out]
  refine HRI.out.mono ?_
  rintro e w1 ⟨rfl, hb⟩
  have HB1 := hide (bl_on HBW.out hb)
  have F2 := (hb.block _ (Array.getElem?_eq_some_iff.1 HF.out).1).trans HF.out
  have RW5 := row5 (five (.bool false) (.int .i64 0) (.slice none 0 0) (.int .i64 0) (.slice none 0 0)) (F2)
  have f0 := RW5.cell (i := 0) (by omega)
  have g0 := RW5.frozen 0
  have f1 := RW5.cell (i := 1) (by omega)
  have g1 := RW5.frozen 1
  have f2 := RW5.cell (i := 2) (by omega)
  have g2 := RW5.frozen 2
  have f3 := RW5.cell (i := 3) (by omega)
  have g3 := RW5.frozen 3
  have f4 := RW5.cell (i := 4) (by omega)
  have g4 := RW5.frozen 4
  simp only [five] at f0 f1 f2 f3 f4
  clear RW5
  have zf := (Array.getElem?_eq_some_iff.1 F2).1
  have HF2 := hide F2
  clear hb n0 n1 zn F2
  go_wp2_with fail
  have RF := set5 (row5 (five (.bool false) (.int .i64 0) (.slice none 0 0) (.int .i64 0) (.slice none 0 0)) HF2.out) (five (.bool false) (.int .i64 0) (.slice none 0 0) (.int .i64 0) (.slice none 0 0))
  have BF := below5 HB1.out (b := w.heap.size + 1) (by omega) (five (.bool false) (.int .i64 0) (.slice none 0 0) (.int .i64 0) (.slice none 0 0))
  have hput : ((((w1.setCell ⟨w.heap.size + 1, 0, none⟩ (.bool false)).setCell ⟨w.heap.size + 1, 1, none⟩ (.int .i64 0)).setCell ⟨w.heap.size + 1, 2, none⟩ (.slice none 0 0)).setCell ⟨w.heap.size + 1, 3, none⟩ (.int .i64 0)).setCell ⟨w.heap.size + 1, 4, none⟩ (.slice none 0 0) = put5 w1 (w.heap.size + 1) (five (.bool false) (.int .i64 0) (.slice none 0 0) (.int .i64 0) (.slice none 0 0)) := rfl
  rw [hput]
  clear hput
  generalize put5 w1 (w.heap.size + 1) (five (.bool false) (.int .i64 0) (.slice none 0 0) (.int .i64 0) (.slice none 0 0)) = wf at RF BF ⊢
  have k0 := RF.cell (i := 0) (by omega)
  have k1 := RF.cell (i := 1) (by omega)
  have k2 := RF.cell (i := 2) (by omega)
  have k3 := RF.cell (i := 3) (by omega)
  have k4 := RF.cell (i := 4) (by omega)
  simp only [five] at k0 k1 k2 k3 k4
  refine bodyPost_ret (v := .tuple #[zeroF, .int .i64 E]) (by simp [results, Try.results29, go_sem, zeroF, k0, k1, k2, k3, k4]) rfl ⟨rfl, BF⟩

end Go.Proofs.Ytoidgdbgpbcebaa.V
