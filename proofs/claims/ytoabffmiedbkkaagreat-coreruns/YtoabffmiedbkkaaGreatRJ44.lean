/-
  Contract: core.Run. Contract: core.Run.
-/
import Derived.Test.YtoabffmiedbkkaaGreatRJ43
import Derived.Test.YtoabffmiedbkkaaGreatRJ12
namespace Go.Proofs.YtoabffmiedbkkaaGreat.V
set_option maxRecDepth 20000
open Go Go.RowKit
set_option linter.unusedVariables false
set_option linter.unusedSimpArgs false

theorem cr_info64 : (Tryz.prog.info? 2).map (fun i => (i.zero, i.size, i.bytes)) = some (some (.int .i64 0), 1, 8) := by kernel_rfl
/-- A row of numbers of its own. -/
def RowN64 (W : World) (g n : Nat) (f : Nat → Int) : Prop := ∃ cur, W.heap[g]? = some (.cells cur 2 (0, 0)) ∧ cur.size = n ∧ ∀ j, j < n → cur[j]? = some (.int .i64 (f j))
theorem RowN64.below {W V : World} {g n : Nat} {f : Nat → Int} (h : RowN64 W g n f) (hb : Below W.heap.size W V) : RowN64 V g n f := by
  obtain ⟨cur, h1, h2⟩ := h
  exact ⟨cur, (hb.block g (Array.getElem?_eq_some_iff.1 h1).1).trans h1, h2⟩
theorem RowN64.lt {W : World} {g n : Nat} {f : Nat → Int} (h : RowN64 W g n f) : g < W.heap.size := by
  obtain ⟨cur, h1, h2⟩ := h
  exact (Array.getElem?_eq_some_iff.1 h1).1
theorem RowN64.wrd {W : World} {g n : Nat} {f : Nat → Int} (h : RowN64 W g n f) {F : Int → Int} (hF : ∀ k : Nat, k < n → F (k : Int) = f k) : WrdAt W ⟨some ⟨g, 0, none⟩, n, n⟩ g 0 F := by
  obtain ⟨cur, h1, h2, h3⟩ := h
  exact ⟨fun _ => rfl, fun _ => ⟨cur, h1, fun k hk => by rw [Nat.zero_add, h3 k hk, hF k hk]⟩, Nat.le_refl _⟩
set_option maxHeartbeats 1000000 in
theorem cfresh_any (a : Option Addr) (len cap : Nat) (xs : List Int) (w : World) (h : Ints w a len xs) (h6 : len ≤ 1048576) :
    Calls Tryz.prog 12 #[.slice a len cap] w fun e w' => (∃ g : Nat, e = .returned (.slice (some ⟨g, 0, none⟩) len len) ∧ RowN64 w' g len (fun j => xs[j]?.getD 0) ∧ w.heap.size ≤ g) ∧ Below w.heap.size w w' := by
  have H := hide h
  have HL := hide h.1
  have hmk := run_make_row' (P := Tryz.prog) 25 2 (.int .i64 0) 8 Tryz.underlying25 cr_info64 rfl .i64 .i64 len (by omega) (by omega)
  clear h
  obtain ⟨cs, hcs⟩ : ∃ cs : List Value, cs = xs.map (Value.int .i64) := ⟨_, rfl⟩
  have HCS := hide hcs
  have hlen : cs.length = len := by rw [hcs]; simp [HL.out]
  have HLEN := hide hlen
  clear hcs hlen
  go_enter Tryz.func12, Tryz.ntmps12
  go_wp2_with (refine wpList_copy_splice rfl (.tmp 7) (.tmp 8) 25 25 rfl 2 Tryz.underlying25 cm_size64 (some ⟨w.heap.size, 0, none⟩) a len len len cap rfl rfl w.heap.size 0 (List.replicate len (.int .i64 0)) 2 ?hg cs ?hn ?hpos ?hfit ?h1 w.heap.size w ?hb (Nat.le_refl _) ?_)
  case hg =>
    have := World.alloc_heap_new w (.cells (madeCells #[.int .i64 0] len) 2)
    rw [this]
    rw [← toList_madeCells_one]
  case hn => rw [HLEN.out]; simp
  case hpos =>
    intro h0
    rw [HLEN.out] at h0
    obtain ⟨b, off, rfl, hb, hc⟩ := H.out.at h0
    refine ⟨_, rfl, fun j v hj => ?_⟩
    have hjl : j < len := by rw [← HLEN.out]; exact (List.getElem?_eq_some_iff.1 hj).1
    have h2 := hc j hjl
    have h3 : v = .int .i64 (xs[j]?.getD 0) := by
      rw [HCS.out] at hj
      simp [HL.out, hjl] at hj ⊢
      exact hj.symm
    rw [h3]
    have hb' : Below w.heap.size w (w.alloc (.cells (madeCells #[.int .i64 0] len) 2)) := (Below.refl _ _).alloc (Nat.le_refl _) _
    rw [Go.WideShapes.add_plain]
    exact (hb'.cell (p := ⟨b, off + j, none⟩) hb).trans h2
  case hfit => simp [HLEN.out]
  case h1 => intro v hv; rw [HCS.out] at hv; simp at hv; obtain ⟨x, _, rfl⟩ := hv; rfl
  case hb => exact (Below.refl _ _).alloc (Nat.le_refl _) _
  intro w' hrow hbel
  have HB := hide hbel
  clear hbel hmk
  go_wp2
  go_ret
  refine ⟨⟨_, rfl, ?_, Nat.le_refl _⟩, HB.out⟩
  refine ⟨_, hrow.out, by simp [splice, HLEN.out], fun i hi => ?_⟩
  have hs : splice (List.replicate len (Value.int .i64 0)) 0 cs = cs := by simp [splice, HLEN.out]
  rw [hs, HCS.out]
  simp [HL.out, hi]
/-- A fact: a row of numbers that is new. -/
def fRow64 (N n : Nat) (f : Nat → Int) : Fact := ⟨fun u W => ∃ g, u = .slice (some ⟨g, 0, none⟩) n n ∧ RowN64 W g n f ∧ N ≤ g, true⟩
theorem fRow64_good (N n : Nat) (f : Nat → Int) : (fRow64 N n f).Good := ⟨fun _ _ _ ⟨g, h1, h2, h3⟩ hb => ⟨g, h1, h2.below hb, h3⟩, fun _ v w b ⟨g, h1, h2, h3⟩ hb => by
  rw [h1] at hb
  simp only [blk, Option.some.injEq] at hb
  rw [← hb]
  exact h2.lt⟩
theorem row_made (W : World) (n : Nat) : RowN64 (W.alloc (.cells (madeCells #[.int .i64 0] n) 2)) W.heap.size n (fun _ => 0) := by
  have := World.rowIs_made W (.int .i64 0) n 2
  obtain ⟨cur, h1, h2, h3⟩ := this
  exact ⟨cur, h1, h2, h3⟩
theorem mch_zero (pad mem : Int) (ma : Option Addr) (ml mc : Nat) (ka : Option Addr) (kl kc : Nat) (B : MbK) (ms : List Int) (k : Nat) (hk : k < 24) : (#[Value.int .i64 pad, .int .i64 mem, .slice ma ml mc, .slice ka kl kc, .slice B.p.a B.p.n B.p.c, .slice B.m.a B.m.n B.m.c, .int .i64 0, .int .i64 0, .int .i64 0, .int .i64 0, .int .i64 0, .int .i64 0, .int .i64 0, .int .i64 0, .int .i64 0, .int .i64 0, .int .i64 0, .int .i64 0, .int .i64 0, .int .i64 0, .int .i64 0, .int .i64 0, .int .i64 0, .int .i64 0])[k]? = some (mchV ⟨pad, mem, ma, ml, mc, ka, kl, kc⟩ B (macO ms) k) := by
  have : k = 0 ∨ k = 1 ∨ k = 2 ∨ k = 3 ∨ k = 4 ∨ k = 5 ∨ k = 6 ∨ k = 7 ∨ k = 8 ∨ k = 9 ∨ k = 10 ∨ k = 11 ∨ k = 12 ∨ k = 13 ∨ k = 14 ∨ k = 15 ∨ k = 16 ∨ k = 17 ∨ k = 18 ∨ k = 19 ∨ k = 20 ∨ k = 21 ∨ k = 22 ∨ k = 23 := by omega
  rcases this with rfl | rfl | rfl | rfl | rfl | rfl | rfl | rfl | rfl | rfl | rfl | rfl | rfl | rfl | rfl | rfl | rfl | rfl | rfl | rfl | rfl | rfl | rfl | rfl
  all_goals rfl
/-- A walk stops here. -/
def StpC (p : Prop) : Prop := p
theorem stpC {p : Prop} (h : StpC p) : p := h
/-- What Run answers. -/
def endS (mv mk : List In) (ps ms : List Int) : Bool := decide ((lastM mv mk ps ms).i = mv.length ∧ (lastM mv mk ps ms).j = mk.length)
def runE (pad mem : Int) (mv mk : List In) (ps ms : List Int) : Int := if codeE pad mem mv mk ≠ 0 then codeE pad mem mv mk else if ((ms.length : Nat) : Int) ≠ mem then 6 else if endS mv mk ps ms = true then 0 else 12
def memL (m : Int → Int) (n : Nat) : List Int := (List.range n).map fun (q : Nat) => m (q : Int)
theorem memL_length (m : Int → Int) (n : Nat) : (memL m n).length = n := by simp [memL]
def runL (pad mem : Int) (mv mk : List In) (ps ms : List Int) : List Int := if runE pad mem mv mk ps ms = 0 then memL (lastM mv mk ps ms).mem ms.length else []
/-- What is told: numbers and an errno. -/
def TellsN (L : List Int) (E : Int) (N : Nat) (e : Ending) (w' : World) : Prop := ∃ a n cc, e = .returned (.tuple #[.slice a n cc, .int .i64 E]) ∧ Ints w' a n L ∧ n ≤ cc
theorem WrdAt.memL {W : World} {y : Sw1} {b off : Nat} {f : Int → Int} (h : WrdAt W y b off f) (hf : ∀ q, bd64 (f q)) (h9 : y.n ≤ 9223372036854775807) : Ints W y.a y.n (memL f y.n) := by
  refine ⟨memL_length _ _, by omega, fun x hx => ?_, ?_⟩
  · simp only [V.memL, List.mem_map] at hx
    obtain ⟨i, _, rfl⟩ := hx
    exact hf _
  · by_cases h0 : y.n = 0
    · exact .inl h0
    · refine .inr ⟨b, off, h.1 (by omega), fun j hj => ?_⟩
      rw [h.cell hj]
      simp [V.memL, hj]
end Go.Proofs.YtoabffmiedbkkaaGreat.V
namespace Go.Proofs.YtoabffmiedbkkaaGreat.V
set_option maxRecDepth 20000
open Go Go.RowKit
set_option linter.unusedVariables false
set_option linter.unusedSimpArgs false

set_option maxRecDepth 20000 in
set_option maxHeartbeats 8000000 in
theorem run_any (c : CV) (mv mk : List In) (xa : Option Addr) (M xc : Nat) (ms : List Int) (ya : Option Addr) (yl yc : Nat) (ps : List Int) (w : World) (hm : Inss w c.ma c.ml mv) (hk : Inss w c.ka c.kl mk) (hvm : VOk mv) (hvk : VOk mk) (hx : Ints w xa M ms) (hy : Ints w ya yl ps) (hyb : yl * 8 ≤ 140737488355328) :
    Calls Tryz.prog 5 #[c.v, .slice xa M xc, .slice ya yl yc] w fun e w' => TellsN (runL c.pad c.mem mv mk ps ms) (runE c.pad c.mem mv mk ps ms) w.heap.size e w' ∧ Below w.heap.size w w' := by
  obtain ⟨W, hW⟩ : ∃ W, W = w.alloc (.cells #[.int .i64 c.pad, .int .i64 c.mem, .slice c.ma c.ml c.mc, .slice c.ka c.kl c.kc] 24) := ⟨_, rfl⟩
  have hbW : Below w.heap.size w W := by rw [hW]; exact bl_new _
  have hC : CBlk W w.heap.size c := by rw [hW]; exact CBlk.new w c
  have HWR := hide (fun (V : World) (hV : Below w.heap.size w V) => coWrong_any c mv mk V (hm.below hV) (hk.below hV))
  obtain ⟨cb, hcb⟩ : ∃ cb, cb = w.heap.size := ⟨_, rfl⟩
  have hC' : CBlk W cb c := by rw [hcb]; exact hC
  obtain ⟨⟨c0, c1, c2, c3⟩, zc⟩ := hC'.cells
  have HW := hide hW
  have HB := hide hbW
  have HC := hide hC'
  have HCB := hide hcb
  have HMV := hide (fun (V : World) (hV : Below w.heap.size w V) => hm.below hV)
  have HMK := hide (fun (V : World) (hV : Below w.heap.size w V) => hk.below hV)
  have HMS := hide (fun (V : World) (hV : Below w.heap.size w V) => hx.below hV)
  have HPS := hide (fun (V : World) (hV : Below w.heap.size w V) => hy.below hV)
  have hml : mv.length = c.ml := hm.1
  have hkl : mk.length = c.kl := hk.1
  have hxl : ms.length = M := hx.1
  have HXB := hide hx.2.2.1
  have HML := hide hml
  have HKL := hide hkl
  have HXL := hide hxl
  have HMA : Hid (∀ b off, (c.ma = some ⟨b, off, none⟩ ∧ 0 < c.ml) ∨ (c.ka = some ⟨b, off, none⟩ ∧ 0 < c.kl) → b < w.heap.size) := by
    intro b off h
    rcases h with ⟨e, h0⟩ | ⟨e, h0⟩
    · rcases hm.2.2 with h1 | ⟨b', o', e', hc⟩
      · omega
      · rw [e] at e'; cases e'
        exact lt_of_cell (hc 0 h0).1
    · rcases hk.2.2 with h1 | ⟨b', o', e', hc⟩
      · omega
      · rw [e] at e'; cases e'
        exact lt_of_cell (hc 0 h0).1
  have HYA : Hid (∀ b off, ya = some ⟨b, off, none⟩ → 0 < yl → b < w.heap.size) := by
    intro b off e h0
    obtain ⟨b', o', e', hb', _⟩ := hy.at h0
    rw [e] at e'; cases e'
    exact hb'
  have HYB := hide hyb
  have HVM := hide hvm
  have HVK := hide hvk
  obtain ⟨E, hE⟩ : ∃ E, E = codeE c.pad c.mem mv mk := ⟨_, rfl⟩
  have HE := hide hE
  simp only [← hE] at HWR
  obtain ⟨RE, hRE⟩ : ∃ RE, RE = runE c.pad c.mem mv mk ps ms := ⟨_, rfl⟩
  obtain ⟨RL, hRL⟩ : ∃ RL, RL = runL c.pad c.mem mv mk ps ms := ⟨_, rfl⟩
  rw [← hRE, ← hRL]
  have HRE := hide hRE
  have HRL := hide hRL
  clear hRE hRL
  clear hW hbW hC hC' hcb hm hk hvm hvk hx hy hyb hml hkl hxl hE
  obtain ⟨pad, mem, ma, ml, mc, ka, kl, kc⟩ := c
  unfold CV.v at HWR ⊢
  simp only at *
  go_enter Tryz.func5, Tryz.ntmps5
  go_upto_region 1 with fail
  rw [← HW.out, ← HCB.out]
  go_upto_region 2 with (go_at_call 8; refine (HWR.out W HB.out).mono ?_; rintro r w3 ⟨rfl, hb3⟩; have HB3 := hide (bl_on HB.out hb3); have HC3 := hide (HC.out.below hb3); clear hb3 c0 c1 c2 c3 zc)
  by_cases h0 : E ≠ 0
  · have h0b : (E != 0) = true := by simpa using h0
    have e1 : runE pad mem mv mk ps ms = E := by unfold runE; rw [← HE.out, if_pos h0]
    have e2 : runL pad mem mv mk ps ms = [] := by unfold runL; rw [e1, if_neg h0]
    obtain rfl : RE = E := HRE.out.trans e1
    obtain rfl : RL = [] := HRL.out.trans e2
    clear h0 e1 e2 HE HRE HRL
    go_wp2_with fail
    refine bodyPost_ret (v := .tuple #[.slice none 0 0, .int .i64 RE]) (by simp [results, Tryz.results5, go_sem]) rfl ⟨⟨none, 0, 0, rfl, ⟨rfl, by omega, fun _ h => (by cases h), .inl rfl⟩, Nat.le_refl _⟩, HB3.out⟩
  replace h0 : E = 0 := by simpa using h0
  have hce : codeE pad mem mv mk = 0 := by rw [← HE.out, h0]
  have hok := code_ok hce
  have HCE := hide hce
  subst h0
  obtain ⟨⟨d0, d1, d2, d3⟩, zc⟩ := HC3.out.cells
  simp only at d0 d1 d2 d3
  by_cases h1 : (M : Int) = mem
  · have h1b : ((M : Int) != mem) = false := by simp [h1]
    obtain ⟨P, hP⟩ : ∃ P : Nat, pad = (P : Int) := ⟨pad.toNat, by have := hok.pd; omega⟩
    have hP4 : P ≤ 4096 := by have := hok.pd; omega
    have hM4 : M ≤ 1048576 := by have := hok.mm; omega
    have HOK := hide hok
    subst hP
    subst h1
    clear hok hce
    have hmk := run_make_row' (P := Tryz.prog) 25 2 (.int .i64 0) 8 Tryz.underlying25 cr_info64 rfl .i64 .i64 P (by omega) (by omega)
    have HBV := hide HB3.out
    go_upto_region 6 with fail
    refine region_made 6 8 [fIs (.agg #[.int .i64 (P : Int), .int .i64 (M : Int), .slice ma ml mc, .slice ka kl kc]), fIs (.pointer (some ⟨cb, 0, none⟩)), fIs (.int .i64 (P : Int)), fRow64 w.heap.size P (fun _ => 0), fIs (.slice xa M xc), fRow64 w.heap.size M (fun j => ms[j]?.getD 0)] (by kernel_rfl) (by kernel_rfl) (by kernel_rfl) (fun _ ⟨_, _⟩ ⟨_, _⟩ _ e h => by cases e; exact h) ⟨fIs_good _, fIs_good _, fIs_good _, fRow64_good _ _ _, fIs_good _, fRow64_good _ _ _, trivial⟩ ?mk ?rest
    case mk =>
      refine ⟨fun u wz hb hd => ?_, fun u wz hb hd => ?_, fun u wz hb hd => ?_, fun u wz hb hd => ?_, fun u wz hb hd => ?_, fun u wz hb hd => ?_, trivial⟩
      all_goals simp only [Act.put, List.setIfInBounds_toArray, List.set_cons_zero, List.set_cons_succ]
      · have d0' := (hb.cell (p := ⟨cb, 0, none⟩) (lt_of_cell d0)).trans d0
        have d1' := (hb.cell (p := ⟨cb, 1, none⟩) (lt_of_cell d1)).trans d1
        have d2' := (hb.cell (p := ⟨cb, 2, none⟩) (lt_of_cell d2)).trans d2
        have d3' := (hb.cell (p := ⟨cb, 3, none⟩) (lt_of_cell d3)).trans d3
        have cz' : cb < wz.heap.size := Nat.lt_of_lt_of_le zc hb.size
        go_simp
        exact ⟨rfl, Below.refl _ _, fun h => by cases h⟩
      · go_simp
        exact ⟨rfl, Below.refl _ _, fun h => by cases h⟩
      · have e1 : u 1 = .pointer (some ⟨cb, 0, none⟩) := hd 1 (by omega) (by kernel_rfl)
        rw [e1]
        have d0' := (hb.cell (p := ⟨cb, 0, none⟩) (lt_of_cell d0)).trans d0
        go_simp
        exact ⟨rfl, Below.refl _ _, fun h => by cases h⟩
      · have e2 : u 2 = .int .i64 (P : Int) := hd 2 (by omega) (by kernel_rfl)
        rw [e2]
        go_simp
        exact ⟨⟨_, rfl, row_made wz P, Nat.le_trans HBV.out.size hb.size⟩, bl_new _, fun _ b e => by simp only [blk, Option.some.injEq] at e; omega⟩
      · go_simp
        exact ⟨rfl, Below.refl _ _, fun h => by cases h⟩
      · have e4 : u 4 = .slice xa M xc := hd 4 (by omega) (by kernel_rfl)
        rw [e4]
        go_simp
        refine (cfresh_any xa M xc ms wz (HMS.out wz (Below.on HBV.out hb)) (by omega)).mono ?_
        rintro e w2 ⟨⟨G, rfl, hi, hg2⟩, hb2⟩
        exact ⟨⟨G, rfl, hi, Nat.le_trans (Below.on HBV.out hb).size hg2⟩, hb2, fun _ b e => by simp only [blk, Option.some.injEq] at e; omega⟩
    case rest =>
      intro u wz hb hf hp
      have f0 : u 0 = .agg #[.int .i64 (P : Int), .int .i64 (M : Int), .slice ma ml mc, .slice ka kl kc] := hf 0 (by omega)
      have f1 : u 1 = .pointer (some ⟨cb, 0, none⟩) := hf 1 (by omega)
      have f2 : u 2 = .int .i64 (P : Int) := hf 2 (by omega)
      obtain ⟨GP, f3, hgp, hgpl⟩ := hf 3 (by omega)
      have f4 : u 4 = .slice xa M xc := hf 4 (by omega)
      obtain ⟨GM, f5, hgm, hgml⟩ := hf 5 (by omega)
      have hne : GP ≠ GM := fun e => hp 3 5 (by omega) (by omega) (by omega) rfl rfl GP (by rw [f3]; rfl) (by rw [f5, e]; rfl)
      refine UptoW.rest 3 6 (by rfl) (by kernel_rfl) ?_
      simp only [List.take, List.drop, putOps, Act.put, List.setIfInBounds_toArray, List.set_cons_zero, List.set_cons_succ, Nat.reduceAdd, f0, f1, f2, f3, f4, f5]
      clear f0 f1 f2 f3 f4 f5 hf hp
      have HBZ := hide hb
      have HGP := hide hgp
      have HGM := hide hgm
      have hbz := Below.on HBV.out hb
      have lgp := hgp.lt
      have lgm := hgm.lt
      obtain ⟨V, hV⟩ : ∃ V, V = wz.alloc (.cells #[.int .i64 (P : Int), .int .i64 (M : Int), .slice ma ml mc, .slice ka kl kc, .slice (some ⟨GP, 0, none⟩) P P, .slice (some ⟨GM, 0, none⟩) M M, .int .i64 0, .int .i64 0, .int .i64 0, .int .i64 0, .int .i64 0, .int .i64 0, .int .i64 0, .int .i64 0, .int .i64 0, .int .i64 0, .int .i64 0, .int .i64 0, .int .i64 0, .int .i64 0, .int .i64 0, .int .i64 0, .int .i64 0, .int .i64 0] 44) := ⟨_, rfl⟩
      obtain ⟨g, hg⟩ : ∃ g, g = wz.heap.size := ⟨_, rfl⟩
      have hbV : Below wz.heap.size wz V := by rw [hV]; exact bl_new _
      have hMch : MchAt V g ⟨(P : Int), (M : Int), ma, ml, mc, ka, kl, kc⟩ mv mk ⟨⟨some ⟨GP, 0, none⟩, P, P⟩, ⟨some ⟨GM, 0, none⟩, M, M⟩, GP, 0, GM, 0⟩ (macO ms) := by
        have hbw := Below.on hbz hbV
        refine ⟨⟨_, by rw [hV, hg]; exact World.alloc_heap_new _ _, rfl, fun k hk => ?_⟩, HMV.out V hbw, HMK.out V hbw, (hgp.below hbV).wrd (fun k hk => rfl), (hgm.below hbV).wrd (fun k hk => by simp [macO]), ⟨hne, by simp only; omega, by simp only; omega⟩, fun b off h => ?_⟩
        · exact mch_zero _ _ _ _ _ _ _ _ ⟨⟨some ⟨GP, 0, none⟩, P, P⟩, ⟨some ⟨GM, 0, none⟩, M, M⟩, GP, 0, GM, 0⟩ ms k hk
        · have h9 := HMA.out b off h
          have h8 := hbz.size
          simp only
          exact ⟨by omega, by omega, by omega⟩
      have HV := hide hV
      have HG := hide hg
      have HBV2 := hide (Below.on hbz hbV)
      have HMC := hide hMch
      have hzz := hbz.size
      have HFT : Hid (Fits ⟨(P : Int), (M : Int), ma, ml, mc, ka, kl, kc⟩ ⟨⟨some ⟨GP, 0, none⟩, P, P⟩, ⟨some ⟨GM, 0, none⟩, M, M⟩, GP, 0, GM, 0⟩) := ⟨rfl, rfl⟩
      have hVs : V.heap.size = wz.heap.size + 1 := by rw [hV]; simp
      have gz := hMch.lt
      have hg1 : w.heap.size ≤ g := by omega
      have hg2 : GP < g ∧ GM < g := ⟨by omega, by omega⟩
      clear hb hgp hgm hV hg hbV hMch d0 d1 d2 d3 zc hmk
      go_upto_region 7 with fail
      rw [← HV.out, ← HG.out]
      go_upto_region 8 with (first
        | (go_at_call 14; refine (turns_any ya yl yc ps _ (HPS.out _ HBV2.out) HYB.out).mono ?_; rintro e w4 ⟨b1, b2, rfl, hT, hn12, hl1, hl2, hb4⟩; have HT := hide hT; have HB4 := hide hb4; clear hT hb4)
        | (go_at_call 13; refine stpC ?_))
      unfold StpC
      refine (work_any g ⟨(P : Int), (M : Int), ma, ml, mc, ka, kl, kc⟩ mv mk ⟨⟨some ⟨GP, 0, none⟩, P, P⟩, ⟨some ⟨GM, 0, none⟩, M, M⟩, GP, 0, GM, 0⟩ ya yl yc ps b1 b2 (macO ms) w4 (HMC.out.below HB4.out) (macO_ok mv mk ms) HT.out HOK.out HFT.out (reckon_ok _ _ _ _ _ HFT.out (by have := HOK.out.pd; exact this.2)) ⟨by simp only; omega, by simp only; omega, fun b off e h0 => by have := HYA.out b off e h0; have := HB4.out.size; simp only; omega, fun b off h => by have := HMA.out b off h; have := HB4.out.size; omega⟩ HVM.out HVK.out ⟨fun q => by simp [macO, bd64], fun q => by
            unfold macO
            simp only
            split
            · cases e : ms[q.toNat]? with
              | none => simp [bd64]
              | some v => simp only [Option.getD_some]; exact HXB.out v (List.mem_of_getElem? e)
            · simp [bd64]⟩).mono ?_
      rintro e w5 ⟨rfl, hM5, hw5⟩
      have HM5 := hide hM5
      have HW5 := hide hw5
      clear hM5 hw5
      go_upto_region 8 with fail
      have hlast : runM mv mk ps (mv.length + mk.length) 0 (macO ms) = lastM mv mk ps ms := rfl
      rw [hlast] at HM5
      have hbd := BdM.run HVM.out HVK.out (mv.length + mk.length) 0 (macO ms) (ps := ps) ⟨fun q => by simp [macO, bd64], fun q => by
            unfold macO
            simp only
            split
            · cases e : ms[q.toNat]? with
              | none => simp [bd64]
              | some v => simp only [Option.getD_some]; exact HXB.out v (List.mem_of_getElem? e)
            · simp [bd64]⟩
      rw [hlast] at hbd
      have HBD := hide hbd
      clear hbd hlast
      obtain ⟨R, hR⟩ : ∃ R, R = lastM mv mk ps ms := ⟨_, rfl⟩
      rw [← hR] at HM5 HBD
      have HR := hide hR
      clear hR
      have gz5 := HM5.out.lt
      have hbw5 : Below w.heap.size w w5 := by
        have h9 := HBV2.out
        have h8 := HB4.out
        refine (h9.trans ⟨h8.os, h8.tape, h8.output, h8.size, fun i hi => h8.block i (by have := h9.size; omega)⟩).trans ⟨HW5.out.1.1, HW5.out.1.2.1, HW5.out.1.2.2, HW5.out.2.1, fun i hi => HW5.out.2.2 i (by have := h9.size; have := h8.size; omega) (fun e => by have := h9.size; rcases e with e | e | e | e <;> (try simp only at e) <;> omega)⟩
      have HB5 := hide hbw5
      clear hbw5
      have hen := ended_any g _ mv mk _ R w5 HM5.out
      obtain ⟨D, hD⟩ : ∃ D, D = decide (R.i = mv.length ∧ R.j = mk.length) := ⟨_, rfl⟩
      rw [← hD] at hen
      have HEN := hide hen
      have HD := hide hD
      clear hen hD
      by_cases h9 : R.i = mv.length ∧ R.j = mk.length
      · obtain rfl : D = true := HD.out.trans (decide_eq_true h9)
        have h9b : decide (R.i = mv.length ∧ R.j = mk.length) = true := decide_eq_true h9
        have e1 : runE (P : Int) (M : Int) mv mk ps ms = 0 := by
          unfold runE endS
          rw [HCE.out, if_neg (by simp), if_neg (by rw [HXL.out]; simp), ← HR.out, h9b]
          rfl
        have e2 : runL (P : Int) (M : Int) mv mk ps ms = memL R.mem M := by
          unfold runL
          rw [e1, if_pos rfl, ← HR.out, HXL.out]
        obtain rfl : RE = 0 := HRE.out.trans e1
        obtain rfl : RL = memL R.mem M := HRL.out.trans e2
        clear HRE HRL HD h9b e1 e2 h9
        go_wp2_with (go_at_call 15; refine HEN.out.mono ?_; rintro e w6 ⟨rfl, hb6⟩; have HM6 := hide (HM5.out.below hb6); have HB6 := hide (Below.on HB5.out hb6); have m5 := HM6.out.cell (k := 5) (by decide); simp [mchV] at m5; have gz6 := HM6.out.lt; clear hb6)
        have hI := HM6.out.mem.memL HBD.out.2 (by simp only; omega)
        simp only at hI
        have HI := hide hI
        clear hI
        refine bodyPost_ret (v := .tuple #[.slice (some ⟨GM, 0, none⟩) M M, .int .i64 0]) (by simp [results, Tryz.results5, go_sem]) rfl ⟨⟨_, M, M, rfl, HI.out, Nat.le_refl _⟩, HB6.out⟩
      · obtain rfl : D = false := HD.out.trans (decide_eq_false h9)
        have h9b : decide (R.i = mv.length ∧ R.j = mk.length) = false := decide_eq_false h9
        have e1 : runE (P : Int) (M : Int) mv mk ps ms = 12 := by
          unfold runE endS
          rw [HCE.out, if_neg (by simp), if_neg (by rw [HXL.out]; simp), ← HR.out, h9b]
          rfl
        have e2 : runL (P : Int) (M : Int) mv mk ps ms = [] := by
          unfold runL
          rw [e1, if_neg (by simp)]
        obtain rfl : RE = 12 := HRE.out.trans e1
        obtain rfl : RL = [] := HRL.out.trans e2
        clear HRE HRL HD h9b e1 e2 h9
        go_wp2_with (go_at_call 15; refine HEN.out.mono ?_; rintro e w6 ⟨rfl, hb6⟩; have HM6 := hide (HM5.out.below hb6); have HB6 := hide (Below.on HB5.out hb6); have m5 := HM6.out.cell (k := 5) (by decide); simp [mchV] at m5; have gz6 := HM6.out.lt; clear hb6)
        refine bodyPost_ret (v := .tuple #[.slice none 0 0, .int .i64 12]) (by simp [results, Tryz.results5, go_sem]) rfl ⟨⟨none, 0, 0, rfl, ⟨rfl, by omega, fun _ h => (by cases h), .inl rfl⟩, Nat.le_refl _⟩, HB6.out⟩
  · have h1b : ((M : Int) != mem) = true := by simpa using h1
    have e1 : runE pad mem mv mk ps ms = 6 := by unfold runE; rw [HCE.out, if_neg (by simp), HXL.out, if_pos h1]
    have e2 : runL pad mem mv mk ps ms = [] := by unfold runL; rw [e1, if_neg (by simp)]
    obtain rfl : RE = 6 := HRE.out.trans e1
    obtain rfl : RL = [] := HRL.out.trans e2
    clear HRE HRL
    clear h1 e1 e2 hok hce
    go_wp2_with fail
    refine bodyPost_ret (v := .tuple #[.slice none 0 0, .int .i64 6]) (by simp [results, Tryz.results5, go_sem]) rfl ⟨⟨none, 0, 0, rfl, ⟨rfl, by omega, fun _ h => (by cases h), .inl rfl⟩, Nat.le_refl _⟩, HB3.out⟩
end Go.Proofs.YtoabffmiedbkkaaGreat.V
