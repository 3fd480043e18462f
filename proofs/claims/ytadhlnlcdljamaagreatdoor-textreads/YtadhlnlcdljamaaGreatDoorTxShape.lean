/-
  The reader: shape, list.
-/
import Derived.Test.YtadhlnlcdljamaaGreatDoorTxTake
import Derived.Maps.AppendAt
namespace Go.Proofs.YtadhlnlcdljamaaGreatDoor.V
set_option maxRecDepth 20000
open Go.RowKit

theorem dimInfo : (Tryz.prog.info? 72).map (fun i => (i.zero, i.size, i.bytes)) = some (some (.agg #[.string ByteArray.empty, .int .i64 0]), 2, 24) := by kernel_rfl
theorem intInfo : (Tryz.prog.info? 3).map (fun i => (i.zero, i.size, i.bytes)) = some (some (.int .i64 0), 1, 8) := by kernel_rfl
/-- How far the reader at R has come. -/
def posOf (R : Nat) (w : World) : Nat := match w.cell? ⟨R, 1, none⟩ with
  | some v => (intOf v).toNat
  | none => 0
theorem RdAt.pos {X : Tks} {R G c : Nat} {w : World} {i : Nat} (h : RdAt X R G c w i) : posOf R w = i := by
  unfold posOf
  rw [h.two.cells.1.2]
  simp [intOf]
/-- From this block on. -/
def from_ (w : World) : Nat → Prop := fun b => w.heap.size ≤ b
def repD (w0 : World) (w : World) (ds : List (ByteArray × Int)) (v : Value) : Prop := SliceV DimV w (from_ w0) ds v
def repL (w0 : World) (w : World) (ds : List Int) (v : Value) : Prop := SliceV IntV w (from_ w0) ds v
theorem own_ne {w : World} {B : Nat} {t : TypeId} {k : Nat} {v : Value} {n : Nat} {xs : List Value} {R : Nat} (h : w.ownsRow B t k v n xs) (hR : R < B) : v.ownBlock ≠ some R := by
  intro e
  have := (h.lt R e).1
  omega
theorem GrowV.grown {α : Type} {p : World → (Nat → Prop) → α → List Value → Prop} (H : Stays p) {t : TypeId} {k : Nat} {w0 w w' : World} {us : List α} {v : Value} {R : Nat} (h : GrowV p t k w w0.heap.size (from_ w0) us v) (hg : w.grownBy w' (some R)) (hR : R < w0.heap.size) : GrowV p t k w' w0.heap.size (from_ w0) us v := by
  obtain ⟨cs, h1, h2⟩ := h
  refine GrowV.kept H ⟨cs, h1, h2⟩ hg (.inr (own_ne h1 hR)) (fun b hb _ => ?_)
  intro e; cases e
  have : w0.heap.size ≤ R := hb
  omega
theorem _root_.Go.World.grownBy.onto {a b c : World} {R : Nat} {row : Option Nat} (h : a.grownBy b (some R)) (k : b.grownBy c row) (hr : ∀ g, row = some g → a.heap.size ≤ g) : a.grownBy c (some R) :=
  ⟨k.os.trans h.os, k.tape.trans h.tape, k.output.trans h.output, Nat.le_trans h.size k.size, fun j hj hne => (k.block j (Nat.lt_of_lt_of_le hj h.size) (fun e => by have := hr j e.symm; omega)).trans (h.block j hj hne)⟩

theorem cells_new (w : World) (cs : List Value) (t : TypeId) : ∀ j u, cs[j]? = some u → (w.alloc (.cells cs.toArray t)).cell? ((⟨w.heap.size, 0, none⟩ : Addr).add j) = some u := by
  intro j u hj
  have h : (w.alloc (.cells cs.toArray t)).heap[w.heap.size]? = some (.cells cs.toArray t) := World.alloc_heap_new w _
  have e : ((⟨w.heap.size, 0, none⟩ : Addr).add j) = ⟨w.heap.size, j, none⟩ := by
    by_cases c : j = 0
    · subst c; simp [Addr.add]
    · simp [Addr.add, c]
  rw [e]
  unfold World.cell?
  rw [show (w.alloc (.cells cs.toArray t)).heap[(⟨w.heap.size, j, none⟩ : Addr).block]? = some (.cells cs.toArray t) from h]
  simpa using hj
/-- One more entry, laid down first in a block of its own. -/
theorem grow_one {α : Type} {p : World → (Nat → Prop) → α → List Value → Prop} (H : Stays p) {t : TypeId} {k : Nat} {w0 w1 w w' : World} {us : List α} {a : α} {v v' : Value} {cs cs' : List Value} {R G c j : Nat} {X : Tks} {o : Obj}
    (hR : R < w0.heap.size) (hG : G < w0.heap.size) (hr : RdAt X R G c w j) (h0 : w0.grownBy w1 (some R)) (h1 : w1.grownBy w (some R)) (ho : w.ownsRow w0.heap.size t k v us.length cs) (h2 : RowsV (p w fun b => from_ w0 b ∧ some b ≠ v.ownBlock) us cs) (ha : p w (fun b => from_ w0 b ∧ some b ≠ v.ownBlock) a cs')
    (hg : (w.alloc o).grownBy w' v.ownBlock) (hn : v'.ownBlock = v.ownBlock ∨ v'.ownBlock = some (w.heap.size + 1)) (h' : w'.ownsRow w0.heap.size t k v' (us.length + 1) (cs ++ cs')) :
    RdAt X R G c w' j ∧ w0.grownBy w' (some R) ∧ GrowV p t k w' w0.heap.size (from_ w0) (us ++ [a]) v' := by
  have hne : ∀ b, b < w0.heap.size → some b ≠ v.ownBlock := fun b hb e => by have := (ho.lt b e.symm).1; omega
  refine ⟨(hr.alloc o).grown hg (hne R hR) (hne G hG), ((h0.then' h1).then' (World.grownBy_alloc w o _)).onto hg (fun g e => (ho.lt g e).1), ?_⟩
  exact GrowV.snoc H (h2.mono fun _ _ h => H.keep h (Keep.alloc _ _)) (H.keep ha (Keep.alloc _ _)) hg (by rw [show (w.alloc o).heap.size = w.heap.size + 1 by simp]; exact hn) h'

set_option maxRecDepth 100000 in
set_option maxHeartbeats 4000000 in
theorem tShape {X : Tks} {R G c : Nat} {w : World} {i : Nat} (ok : X.Ok) (h : RdAt X R G c w i) : Calls Tryz.prog 55 #[.pointer (some ⟨R, 0, none⟩)] w (Parsed X R G c (repD w) (shapeS X i) w) := by
  obtain ⟨i0, hi, hz0, hz1, hz2⟩ := info_parts dimInfo
  have HI := hide hi
  have HI0 := hide hz0
  have HI1 := hide hz1
  have HI2 := hide hz2
  have HM := hide (tMust h ⟨#[91]⟩ (tC 91) (by simp) (by simp))
  have HOK := hide ok
  have HRR := hide h.ltR
  have HGG := hide h.lt
  have hm := h.len
  have hf0 := field_text
  clear h hi hz0 hz1 hz2 ok
  unfold shapeS at *
  cases hr : mustS X (tC 91) i with
  | bad T k =>
    rw [hr] at HM
    unfold Parsed thrown faultV at *
    simp only [Res.bind_bad]
    go_enter Tryz.func55, Tryz.ntmps55
    go_wp2_with (go_at_call 38; refine HM.out.mono ?_; rintro e w1 ⟨hg, rfl⟩; have HG := hide hg; clear hg)
    exact ⟨rfl, HG.out, rfl⟩
  | ok u i1 =>
    rw [hr] at HM
    simp only [Res.bind_ok]
    obtain ⟨r0, hr0⟩ : ∃ r0, r0 = shapeL X (X.ts.length + 1) i1 [] := ⟨_, rfl⟩
    rw [← hr0]
    have HR0 := hide hr0
    clear hr0
    go_enter Tryz.func55, Tryz.ntmps55
    go_wp2_with (go_at_call 38; refine HM.out.mono ?_; rintro e w1 ⟨hg, hr1, v, rfl, hv⟩; unfold repU at hv; subst hv; have HG := hide hg; have HR1 := hide hr1; clear hg hr1)
    go_loopw [3] (fun v wr => ∃ (f j : Nat) (ds : List (ByteArray × Int)), RdAt X R G c wr j ∧ w.grownBy wr (some R) ∧ r0 = shapeL X f j ds ∧ X.ts.length - j < f ∧ ds.length ≤ j ∧ GrowV DimV 72 2 wr w.heap.size (from_ w) ds v) (fun _ wr => X.ts.length + 1 - posOf R wr)
    case atStart => exact ⟨_, i1, [], HR1.out, HG.out, HR0.out, by omega, Nat.zero_le _, GrowV.nil _ _ _ _ _ _⟩
    case round =>
      obtain ⟨f, j, ds, hR, hG, hsl, hf, hd, hO⟩ := hrel
      obtain ⟨f, rfl⟩ : ∃ g, f = g + 1 := ⟨f - 1, by omega⟩
      rw [shapeL] at hsl
      have HR2 := hide hR
      have HG2 := hide hG
      have HO2 := hide hO
      have hjl := hR.le
      clear hR hG hO
      cases hb : ((X.tx j).toList == tC 93) with
      | true =>
        rw [if_pos hb] at hsl
        have HMY := hide (tMay_yes HR2.out ⟨#[93]⟩ (tC 93) (by simp) (by simp) hb)
        have HSL := hide hsl
        clear hsl hb
        go_wp2_with (go_at_call 51; refine HMY.out.mono ?_; rintro e w2 ⟨rfl, hg, hr⟩; have HG3 := hide hg; have HR3 := hide hr; clear hg hr)
        refine bodyPost_ret (results_tmp rfl _ _ _) rfl ?_
        rw [HSL.out]
        refine ⟨HG2.out.then' HG3.out, HR3.out, _, rfl, (HO2.out.grown DimV.stays HG3.out HRR.out).slice DimV.stays (fun _ h => h)⟩
      | false =>
        rw [if_neg (by rw [hb]; simp)] at hsl
        have HMY := hide (tMay_no HR2.out ⟨#[93]⟩ (tC 93) (by simp) (by simp) hb)
        clear hb
        cases hn : isNumB (X.tx j) with
        | true =>
          rw [if_pos hn] at hsl
          have hjlt := isNumB_lt hn
          have HSL := hide hsl
          have HN0 : Hid (numS X j = .ok (numVal (xsOf (X.tx j))) (j + 1)) := if_pos hn
          clear hsl
          go_wp2_with (first
            | (go_at_call 51; refine HMY.out.mono ?_; rintro e w2 ⟨rfl, hg, hr⟩; have HG3 := hide hg; have HR3 := hide hr; clear hg hr)
            | (go_at_call 64; refine (tNext HR3.out).mono ?_; rintro e w3 ⟨rfl, hb3⟩; have HB3 := hide hb3; clear hb3)
            | (go_at_call 66; refine (tNumber _ _).mono ?_; rw [hn]; rintro e w4 ⟨rfl, hw4⟩; obtain rfl := hw4.symm; clear hw4)
            | (go_at_call 57; refine (tNum HOK.out (HR3.out.below HB3.out)).mono ?_; rw [HN0.out]; rintro e w5 ⟨hg5, hr5, v5, rfl, hv5⟩; unfold repI at hv5; subst hv5; have HR5 := hide hr5; have HG5 := hide ((HG3.out.then' (HB3.out.by _)).then' hg5); obtain ⟨cs5, ho5, hs5⟩ := HO2.out.grown DimV.stays HG5.out HRR.out; have HO5 := hide ho5; have HS5 := hide hs5; clear hg5 hr5 ho5 hs5)
            | (at_builtin; refine wpList_append_own_at _ rfl _ _ 43 rfl w.heap.size 72 i0 _ 2 24 Tryz.underlying43 HI.out HI0.out HI1.out HI2.out rfl (by decide) _ _ _ rfl (HO5.out.alloc _) ⟨w5.heap.size, 0, none⟩ 1 1 [.string ByteArray.empty, .int .i64 (numVal (xsOf (X.tx j)))] rfl rfl ?c1 ?c2 ?c3 ?c4 ?c5 ?_))
          case c1 => exact cells_new _ [.string ByteArray.empty, .int .i64 (numVal (xsOf (X.tx j)))] _
          case c2 => intro u hu; simp at hu; rcases hu with rfl | rfl <;> rfl
          case c3 => unfold maxLen; omega
          case c4 => omega
          case c5 => have := HG2.out.size; have := HG5.out.size; simp; omega
          intro v' w6 hown' hgrow _ hat
          have HQ := hide (grow_one (a := (ByteArray.empty, numVal (xsOf (X.tx j)))) DimV.stays HRR.out HGG.out HR5.out HG2.out HG5.out HO5.out HS5.out rfl hgrow hat hown')
          clear hown' hgrow hat
          go_wp2
          go_roundw
          case rel => exact ⟨f, j + 1, _, HQ.out.1, HQ.out.2.1, HSL.out, by omega, by rw [List.length_append]; show ds.length + 1 ≤ j + 1; omega, HQ.out.2.2⟩
          case measure => rw [HQ.out.1.pos, HR2.out.pos]; omega
        | false =>
          rw [if_neg (by rw [hn]; simp)] at hsl
          cases hm2 : isNameB (X.tx j) with
          | true =>
            rw [if_pos hm2] at hsl
            have hjlt := isNameB_lt hm2
            have HSL := hide hsl
            have HN0 : Hid (nameS X j = .ok (X.tx j) (j + 1)) := if_pos hm2
            clear hsl hm2
            go_wp2_with (first
              | (go_at_call 51; refine HMY.out.mono ?_; rintro e w2 ⟨rfl, hg, hr⟩; have HG3 := hide hg; have HR3 := hide hr; clear hg hr)
              | (go_at_call 64; refine (tNext HR3.out).mono ?_; rintro e w3 ⟨rfl, hb3⟩; have HB3 := hide hb3; clear hb3)
              | (go_at_call 66; refine (tNumber _ _).mono ?_; rw [hn]; rintro e w4 ⟨rfl, hw4⟩; obtain rfl := hw4.symm; clear hw4)
              | (go_at_call 39; refine (tName HOK.out (HR3.out.below HB3.out)).mono ?_; rw [HN0.out]; rintro e w5 ⟨hg5, hr5, v5, rfl, hv5⟩; unfold repS at hv5; subst hv5; have HR5 := hide hr5; have HG5 := hide ((HG3.out.then' (HB3.out.by _)).then' hg5); obtain ⟨cs5, ho5, hs5⟩ := HO2.out.grown DimV.stays HG5.out HRR.out; have HO5 := hide ho5; have HS5 := hide hs5; clear hg5 hr5 ho5 hs5)
              | (at_builtin; refine wpList_append_own_at _ rfl _ _ 43 rfl w.heap.size 72 i0 _ 2 24 Tryz.underlying43 HI.out HI0.out HI1.out HI2.out rfl (by decide) _ _ _ rfl (HO5.out.alloc _) ⟨w5.heap.size, 0, none⟩ 1 1 [.string (X.tx j), .int .i64 0] rfl rfl ?c1 ?c2 ?c3 ?c4 ?c5 ?_))
            case c1 => exact cells_new _ [.string (X.tx j), .int .i64 0] _
            case c2 => intro u hu; simp at hu; rcases hu with rfl | rfl <;> rfl
            case c3 => unfold maxLen; omega
            case c4 => omega
            case c5 => have := HG2.out.size; have := HG5.out.size; simp; omega
            intro v' w6 hown' hgrow _ hat
            have HQ := hide (grow_one (a := (X.tx j, 0)) DimV.stays HRR.out HGG.out HR5.out HG2.out HG5.out HO5.out HS5.out rfl hgrow hat hown')
            clear hown' hgrow hat
            go_wp2
            go_roundw
            case rel => exact ⟨f, j + 1, _, HQ.out.1, HQ.out.2.1, HSL.out, by omega, by rw [List.length_append]; show ds.length + 1 ≤ j + 1; omega, HQ.out.2.2⟩
            case measure => rw [HQ.out.1.pos, HR2.out.pos]; omega
          | false =>
            rw [if_neg (by rw [hm2]; simp)] at hsl
            have HSL := hide hsl
            have HN0 : Hid (nameS X j = .bad 7 (X.ps j)) := if_neg (by rw [hm2]; simp)
            clear hsl hm2
            rw [HSL.out]
            unfold Parsed thrown faultV
            go_wp2_with (first
              | (go_at_call 51; refine HMY.out.mono ?_; rintro e w2 ⟨rfl, hg, hr⟩; have HG3 := hide hg; have HR3 := hide hr; clear hg hr)
              | (go_at_call 64; refine (tNext HR3.out).mono ?_; rintro e w3 ⟨rfl, hb3⟩; have HB3 := hide hb3; clear hb3)
              | (go_at_call 66; refine (tNumber _ _).mono ?_; rw [hn]; rintro e w4 ⟨rfl, hw4⟩; obtain rfl := hw4.symm; clear hw4)
              | (go_at_call 39; refine (tName HOK.out (HR3.out.below HB3.out)).mono ?_; rw [HN0.out]; unfold Parsed thrown faultV; rintro e w5 ⟨hg5, rfl⟩; have HG5 := hide ((HG3.out.then' (HB3.out.by _)).then' hg5); clear hg5))
            exact ⟨rfl, HG2.out.then' HG5.out, rfl⟩

set_option maxRecDepth 100000 in
set_option maxHeartbeats 4000000 in
theorem tList {X : Tks} {R G c : Nat} {w : World} {i : Nat} (ok : X.Ok) (h : RdAt X R G c w i) : Calls Tryz.prog 89 #[.pointer (some ⟨R, 0, none⟩)] w (Parsed X R G c (repL w) (listS X i) w) := by
  obtain ⟨i0, hi, hz0, hz1, hz2⟩ := info_parts intInfo
  have HI := hide hi
  have HI0 := hide hz0
  have HI1 := hide hz1
  have HI2 := hide hz2
  have HM := hide (tMust h ⟨#[123]⟩ (tC 123) (by simp) (by simp))
  have HOK := hide ok
  have HRR := hide h.ltR
  have HGG := hide h.lt
  have hm := h.len
  clear h hi hz0 hz1 hz2 ok
  unfold listS at *
  cases hr : mustS X (tC 123) i with
  | bad T k =>
    rw [hr] at HM
    unfold Parsed thrown faultV at *
    simp only [Res.bind_bad]
    go_enter Tryz.func89, Tryz.ntmps89
    go_wp2_with (go_at_call 38; refine HM.out.mono ?_; rintro e w1 ⟨hg, rfl⟩; have HG := hide hg; clear hg)
    exact ⟨rfl, HG.out, rfl⟩
  | ok u i1 =>
    rw [hr] at HM
    simp only [Res.bind_ok]
    obtain ⟨r0, hr0⟩ : ∃ r0, r0 = listL X (X.ts.length + 1) i1 [] := ⟨_, rfl⟩
    rw [← hr0]
    have HR0 := hide hr0
    clear hr0
    go_enter Tryz.func89, Tryz.ntmps89
    go_wp2_with (go_at_call 38; refine HM.out.mono ?_; rintro e w1 ⟨hg, hr1, v, rfl, hv⟩; unfold repU at hv; subst hv; have HG := hide hg; have HR1 := hide hr1; clear hg hr1)
    go_loopw [3] (fun v wr => ∃ (f j : Nat) (ds : List Int), RdAt X R G c wr j ∧ w.grownBy wr (some R) ∧ r0 = listL X f j ds ∧ X.ts.length - j < f ∧ ds.length ≤ j ∧ GrowV IntV 3 1 wr w.heap.size (from_ w) ds v) (fun _ wr => X.ts.length + 1 - posOf R wr)
    case atStart => exact ⟨_, i1, [], HR1.out, HG.out, HR0.out, by omega, Nat.zero_le _, GrowV.nil _ _ _ _ _ _⟩
    case round =>
      obtain ⟨f, j, ds, hR, hG, hsl, hf, hd, hO⟩ := hrel
      obtain ⟨f, rfl⟩ : ∃ g, f = g + 1 := ⟨f - 1, by omega⟩
      rw [listL] at hsl
      have HR2 := hide hR
      have HG2 := hide hG
      have HO2 := hide hO
      have hjl := hR.le
      clear hR hG hO
      cases hb : ((X.tx j).toList == tC 125) with
      | true =>
        rw [if_pos hb] at hsl
        have HMY := hide (tMay_yes HR2.out ⟨#[125]⟩ (tC 125) (by simp) (by simp) hb)
        have HSL := hide hsl
        clear hsl hb
        go_wp2_with (go_at_call 51; refine HMY.out.mono ?_; rintro e w2 ⟨rfl, hg, hr⟩; have HG3 := hide hg; have HR3 := hide hr; clear hg hr)
        refine bodyPost_ret (results_tmp rfl _ _ _) rfl ?_
        rw [HSL.out]
        refine ⟨HG2.out.then' HG3.out, HR3.out, _, rfl, (HO2.out.grown IntV.stays HG3.out HRR.out).slice IntV.stays (fun _ h => h)⟩
      | false =>
        rw [if_neg (by rw [hb]; simp)] at hsl
        have HMY := hide (tMay_no HR2.out ⟨#[125]⟩ (tC 125) (by simp) (by simp) hb)
        clear hb
        cases hn : isNumB (X.tx j) with
        | true =>
          rw [if_pos hn] at hsl
          have hjlt := isNumB_lt hn
          have HSL := hide hsl
          have HN0 : Hid (numS X j = .ok (numVal (xsOf (X.tx j))) (j + 1)) := if_pos hn
          clear hsl
          go_wp2_with (first
            | (go_at_call 51; refine HMY.out.mono ?_; rintro e w2 ⟨rfl, hg, hr⟩; have HG3 := hide hg; have HR3 := hide hr; clear hg hr)
            | (go_at_call 57; refine (tNum HOK.out HR3.out).mono ?_; rw [HN0.out]; rintro e w5 ⟨hg5, hr5, v5, rfl, hv5⟩; unfold repI at hv5; subst hv5; have HR5 := hide hr5; have HG5 := hide (HG3.out.then' hg5); obtain ⟨cs5, ho5, hs5⟩ := HO2.out.grown IntV.stays HG5.out HRR.out; have HO5 := hide ho5; have HS5 := hide hs5; clear hg5 hr5 ho5 hs5)
            | (at_builtin; refine wpList_append_own_at _ rfl _ _ 85 rfl w.heap.size 3 i0 _ 1 8 Tryz.underlying85 HI.out HI0.out HI1.out HI2.out rfl (by decide) _ _ _ rfl (HO5.out.alloc _) ⟨w5.heap.size, 0, none⟩ 1 1 [.int .i64 (numVal (xsOf (X.tx j)))] rfl rfl ?c1 ?c2 ?c3 ?c4 ?c5 ?_))
          case c1 => exact cells_new _ [.int .i64 (numVal (xsOf (X.tx j)))] _
          case c2 => intro u hu; simp at hu; subst hu; rfl
          case c3 => unfold maxLen; omega
          case c4 => omega
          case c5 => have := HG2.out.size; have := HG5.out.size; simp; omega
          intro v' w6 hown' hgrow _ hat
          have HQ := hide (grow_one (a := numVal (xsOf (X.tx j))) IntV.stays HRR.out HGG.out HR5.out HG2.out HG5.out HO5.out HS5.out rfl hgrow hat hown')
          clear hown' hgrow hat
          go_wp2
          go_roundw
          case rel => exact ⟨f, j + 1, _, HQ.out.1, HQ.out.2.1, HSL.out, by omega, by rw [List.length_append]; show ds.length + 1 ≤ j + 1; omega, HQ.out.2.2⟩
          case measure => rw [HQ.out.1.pos, HR2.out.pos]; omega
        | false =>
          rw [if_neg (by rw [hn]; simp)] at hsl
          have HSL := hide hsl
          have HN0 : Hid (numS X j = .bad 7 (X.ps j)) := if_neg (by rw [hn]; simp)
          clear hsl
          rw [HSL.out]
          unfold Parsed thrown faultV
          go_wp2_with (first
            | (go_at_call 51; refine HMY.out.mono ?_; rintro e w2 ⟨rfl, hg, hr⟩; have HG3 := hide hg; have HR3 := hide hr; clear hg hr)
            | (go_at_call 57; refine (tNum HOK.out HR3.out).mono ?_; rw [HN0.out]; unfold Parsed thrown faultV; rintro e w5 ⟨hg5, rfl⟩; have HG5 := hide (HG3.out.then' hg5); clear hg5))
          exact ⟨rfl, HG2.out.then' HG5.out, rfl⟩
end Go.Proofs.YtadhlnlcdljamaaGreatDoor.V
