/-
  Contract: adjointref12.free.
-/
import Derived.Test.YtcnnghhaohehoaaRmRef1
import Derived.Test.YtcnnghhaohehoaaRmLayM
import Derived.Deep.DeepCutAuto
import Derived.Deep.QuietTactic
import Derived.Test.YtcnnghhaohehoaaFactsG
namespace Go.Proofs.Ytcnnghhaohehoaa.V
open Go Go.Shelf Go.RowKit Go.Lib Go.Sort Go.Proofs
set_option linter.unusedVariables false

/-- A row of truth values of the call's own. -/
def RowB (w : World) (g len : Nat) (f : Nat → Bool) : Prop := w.rowIs g 4 len (fun j => .bool (f j))
theorem RowB.below {w w' : World} {g len : Nat} {f : Nat → Bool} (h : RowB w g len f) (hb : Below w.heap.size w w') : RowB w' g len f := World.rowIs.of_block h (hb.block g (World.rowIs.lt h))
/-- One that lies is in the way. -/
def inWay (ls : List Lf) (out : List Int) (lies : Nat → Bool) (i : Nat) (p : Int) (k : Nat) : Bool := lies k && meetB (lifeAt ls i) (lifeAt ls k) && decide (p < numAt out k + (lifeAt ls k).wd) && decide (numAt out k < p + (lifeAt ls i).wd)
def freeB (ls : List Lf) (out : List Int) (lies : Nat → Bool) (i : Nat) (p : Int) : Bool := (List.range ls.length).all (fun k => !inWay ls out lies i p k)
theorem below_drewN2 (w : World) (n : Nat) : Below w.heap.size w (w.drewN n) := ⟨rfl, rfl, rfl, Nat.le_refl _, fun _ _ => rfl⟩
set_option maxHeartbeats 8000000 in
set_option maxRecDepth 100000 in
theorem rFree_any (a : Option Addr) (len cap : Nat) (ls : List Lf) (go gl : Nat) (out : List Int) (lies : Nat → Bool) (i : Nat) (p : Int) (w : World) (h : Lives w a len ls) (ho : RowI w go len out) (hl : RowB w gl len lies) (hi : i < len) (hp : 0 ≤ p ∧ p ≤ 8589934592) (hout : ∀ k, k < len → 0 ≤ numAt out k ∧ numAt out k ≤ 4294967296) (hok : ∀ x ∈ ls, LfOk x) :
    Calls Try.prog 30 #[.slice a len cap, .slice (some ⟨go, 0, none⟩) len len, .slice (some ⟨gl, 0, none⟩) len len, .int .i64 (i : Int), .int .i64 p] w fun e w' => e = .returned (.bool (freeB ls out lies i p)) ∧ Below w.heap.size w w' := by
  have HL := hide h.1
  have hm := h.2.1
  have H := hide h
  have HO := hide ho
  have HLI := hide hl
  have HOUT := hide hout
  have HOK := hide hok
  have zo := World.rowIs.lt ho
  have zl := World.rowIs.lt hl
  clear h ho hl hout hok
  go_enter Try.func30, Try.ntmps30
  go_wp2
  go_loopw [15] (fun v15 wr => ∃ k : Nat, k ≤ len ∧ v15 = .int .i64 k ∧ (∀ q, q < k → inWay ls out lies i p q = false) ∧ Below w.heap.size w wr) (fun v15 _ => len - (intOf v15).toNat)
  case atStart => exact ⟨0, Nat.zero_le _, rfl, fun q hq => by omega, Below.refl _ _⟩
  case round =>
    obtain ⟨k, hk, rfl, hn, hB⟩ := hrel
    have HN := hide hn
    have HB := hide hB
    clear hn hB
    by_cases hlt : k < len
    · have HLV := hide (H.out.below HB.out)
      obtain ⟨b, off, rfl, c1, c2, c3⟩ := HLV.out.at hlt
      obtain ⟨b9, off9, e9, i1, i2, i3⟩ := HLV.out.at hi
      cases e9
      have z1 := lt_of_cell c1
      simp only at z1
      have o1 := (HB.out.cell (p := ⟨go, k, none⟩) zo).trans (World.rowIs.cell HO.out hlt)
      have l1 := (HB.out.cell (p := ⟨gl, k, none⟩) zl).trans (World.rowIs.cell HLI.out hlt)
      have hoB := HOUT.out k hlt
      have hxo := HOK.out _ (mem_getLf ls i (by rw [HL.out]; exact hi))
      have hyo := HOK.out _ (mem_getLf ls k (by rw [HL.out]; exact hlt))
      obtain ⟨IW, hIW⟩ : ∃ IW, IW = inWay ls out lies i p k := ⟨_, rfl⟩
      simp only [numAt] at hoB
      obtain ⟨x, hx⟩ : ∃ x, x = ls[i]?.getD lfD := ⟨_, rfl⟩
      obtain ⟨y, hy⟩ : ∃ x, x = ls[k]?.getD lfD := ⟨_, rfl⟩
      obtain ⟨r, hr⟩ : ∃ r, r = out[k]?.getD 0 := ⟨_, rfl⟩
      obtain ⟨lb, hlb⟩ : ∃ lb, lb = lies k := ⟨_, rfl⟩
      have hIW2 : IW = (lb && meetB x y && decide (p < r + y.wd) && decide (r < p + x.wd)) := by rw [hIW, hx, hy, hr, hlb]; rfl
      rw [← hx] at i1 i2 i3 hxo
      rw [← hy] at c1 c2 c3 hyo
      rw [← hr] at o1 hoB
      rw [← hlb] at l1
      have HIW := hide hIW
      have HIW2 := hide hIW2
      have hx0 := hxo.w0
      have hx1 := hxo.w1
      have hy0 := hyo.w0
      have hy1 := hyo.w1
      have w1' : IntKind.i64.wrap (r + y.wd) = r + y.wd := by rw [IntKind.wrap_i64]; omega
      have w2' : IntKind.i64.wrap (p + x.wd) = p + x.wd := by rw [IntKind.wrap_i64]; omega
      have zz := HB.out.size
      have hbn := bl_new (w := wr) (.cells #[.int .i64 y.fr, .int .i64 y.to, .int .i64 y.wd] 37)
      have HB6 := hide (bl_on HB.out hbn)
      have g0 : (wr.alloc (.cells #[.int .i64 y.fr, .int .i64 y.to, .int .i64 y.wd] 37)).cell? ⟨wr.heap.size, 0, none⟩ = some (.int .i64 y.fr) := by simp
      have g1 : (wr.alloc (.cells #[.int .i64 y.fr, .int .i64 y.to, .int .i64 y.wd] 37)).cell? ⟨wr.heap.size, 1, none⟩ = some (.int .i64 y.to) := by simp
      have g2 : (wr.alloc (.cells #[.int .i64 y.fr, .int .i64 y.to, .int .i64 y.wd] 37)).cell? ⟨wr.heap.size, 2, none⟩ = some (.int .i64 y.wd) := by simp
      have a1 := alloc_cell (o := .cells #[.int .i64 y.fr, .int .i64 y.to, .int .i64 y.wd] 37) i1
      have a2 := alloc_cell (o := .cells #[.int .i64 y.fr, .int .i64 y.to, .int .i64 y.wd] 37) i2
      have a3 := alloc_cell (o := .cells #[.int .i64 y.fr, .int .i64 y.to, .int .i64 y.wd] 37) i3
      have a4 := alloc_cell (o := .cells #[.int .i64 y.fr, .int .i64 y.to, .int .i64 y.wd] 37) o1
      have a5 := alloc_cell (o := .cells #[.int .i64 y.fr, .int .i64 y.to, .int .i64 y.wd] 37) l1
      have zW : (wr.alloc (.cells #[.int .i64 y.fr, .int .i64 y.to, .int .i64 y.wd] 37)).heap.size = wr.heap.size + 1 := by simp
      clear hx hy hr hlb hxo hyo hIW hIW2 hbn
      go_wp2_with fail
      generalize wr.alloc (.cells #[.int .i64 y.fr, .int .i64 y.to, .int .i64 y.wd] 37) = W6 at g0 g1 g2 a1 a2 a3 a4 a5 zW HB6 ⊢
      clear c1 c2 c3 i1 i2 i3 o1 l1
      go_cut [56] (fun c wx => c = .bool IW ∧ Below W6.heap.size W6 wx)
      case first =>
        cases lb
        · have HIV : Hid (IW = false) := by rw [Hid, HIW2.out]; simp
          go_quiet (fail)
          go_wp2
          go_meet
          exact ⟨by rw [HIV.out], below_drewN2 _ _⟩
        · cases hmb : meetB x y
          · have HIV : Hid (IW = false) := by rw [Hid, HIW2.out]; rw [hmb]; simp
            refine region_madeG 37 38 [fIs (.slice (some ⟨gl, 0, none⟩) len len), fIs (.int .i64 (k : Int)), fIs (.pointer (some ⟨gl, k, none⟩)), fIs (.bool true), fIs (.bool true), fIs (.slice (some ⟨b, off, none⟩) len cap), fIs (.int .i64 (i : Int)), fIs (.pointer (some ⟨b, off + i * 3, none⟩)), fIs (.agg #[.int .i64 x.fr, .int .i64 x.to, .int .i64 x.wd]), fIs (.agg #[.int .i64 y.fr, .int .i64 y.to, .int .i64 y.wd]), fIs (.bool false), fIs (.bool false), fIs (.bool false), fIs undef, fIs undef, fIs undef, fIs undef, fIs undef, fIs undef, fIs undef, fIs undef, fIs undef, fIs (.bool false), fIs (.bool false), fIs undef, fIs undef, fIs undef, fIs undef, fIs undef, fIs undef, fIs undef, fIs undef, fIs undef, fIs undef, fIs undef, fIs undef, fIs (.bool false)] [none, none, none, none, some true, none, none, none, none, none, none, none, some false, none, none, none, none, none, none, none, none, none, none, some false, none, none, none, none, none, none, none, none, none, none, none, none, none] [true, true, true, true, true, true, true, true, true, true, true, true, true, false, false, false, false, false, false, false, false, false, true, true, false, false, false, false, false, false, false, false, false, false, false, false, true] (by kernel_rfl) (by kernel_rfl) (by kernel_rfl) (fun ch p q w3 e h => by obtain ⟨t1, d1⟩ := p; obtain ⟨t2, d2⟩ := q; cases e; exact h) ⟨fIs_good _, fIs_good _, fIs_good _, fIs_good _, fIs_good _, fIs_good _, fIs_good _, fIs_good _, fIs_good _, fIs_good _, fIs_good _, fIs_good _, fIs_good _, fIs_good _, fIs_good _, fIs_good _, fIs_good _, fIs_good _, fIs_good _, fIs_good _, fIs_good _, fIs_good _, fIs_good _, fIs_good _, fIs_good _, fIs_good _, fIs_good _, fIs_good _, fIs_good _, fIs_good _, fIs_good _, fIs_good _, fIs_good _, fIs_good _, fIs_good _, fIs_good _, fIs_good _, trivial⟩ ⟨fun _ _ h => h, fun _ _ h => h, fun _ _ h => h, rfl⟩ ?mkA ?restA
            case mkA =>
              refine ⟨fun u wz hb hd => ?_, fun u wz hb hd => ?_, fun u wz hb hd => ?_, fun u wz hb hd => ?_, fun u wz hb hd => ?_, fun u wz hb hd => ?_, fun u wz hb hd => ?_, fun u wz hb hd => ?_, fun u wz hb hd => ?_, fun u wz hb hd => ?_, fun u wz hb hd => ?_, fun u wz hb hd => ?_, fun u wz hb hd => ?_, ⟨fun _ => rfl, rfl⟩, ⟨fun _ => rfl, rfl⟩, ⟨fun _ => rfl, rfl⟩, ⟨fun _ => rfl, rfl⟩, ⟨fun _ => rfl, rfl⟩, ⟨fun _ => rfl, rfl⟩, ⟨fun _ => rfl, rfl⟩, ⟨fun _ => rfl, rfl⟩, ⟨fun _ => rfl, rfl⟩, fun u wz hb hd => ?_, fun u wz hb hd => ?_, ⟨fun _ => rfl, rfl⟩, ⟨fun _ => rfl, rfl⟩, ⟨fun _ => rfl, rfl⟩, ⟨fun _ => rfl, rfl⟩, ⟨fun _ => rfl, rfl⟩, ⟨fun _ => rfl, rfl⟩, ⟨fun _ => rfl, rfl⟩, ⟨fun _ => rfl, rfl⟩, ⟨fun _ => rfl, rfl⟩, ⟨fun _ => rfl, rfl⟩, ⟨fun _ => rfl, rfl⟩, ⟨fun _ => rfl, rfl⟩, fun u wz hb hd => ?_, trivial⟩
              all_goals simp only [Act.put, List.setIfInBounds_toArray, List.set_cons_zero, List.set_cons_succ]
              · go_simp
                exact ⟨rfl, Below.refl _ _, fun h => by cases h⟩
              · go_simp
                exact ⟨rfl, Below.refl _ _, fun h => by cases h⟩
              · have e0 : u 0 = .slice (some ⟨gl, 0, none⟩) len len := hd 0 (by omega) (by kernel_rfl)
                have e1 : u 1 = .int .i64 (k : Int) := hd 1 (by omega) (by kernel_rfl)
                rw [e0, e1]
                go_simp
                exact ⟨rfl, Below.refl _ _, fun h => by cases h⟩
              · have e2 : u 2 = .pointer (some ⟨gl, k, none⟩) := hd 2 (by omega) (by kernel_rfl)
                rw [e2]
                have a5' := (hb.cell (p := ⟨gl, k, none⟩) (lt_of_cell a5)).trans a5
                go_simp
                exact ⟨rfl, Below.refl _ _, fun h => by cases h⟩
              · have e3 : u 3 = .bool true := hd 3 (by omega) (by kernel_rfl)
                rw [e3]
                go_simp
                exact ⟨rfl, Below.refl _ _, fun h => by cases h⟩
              · go_simp
                exact ⟨rfl, Below.refl _ _, fun h => by cases h⟩
              · go_simp
                exact ⟨rfl, Below.refl _ _, fun h => by cases h⟩
              · have e5 : u 5 = .slice (some ⟨b, off, none⟩) len cap := hd 5 (by omega) (by kernel_rfl)
                have e6 : u 6 = .int .i64 (i : Int) := hd 6 (by omega) (by kernel_rfl)
                rw [e5, e6]
                go_simp
                exact ⟨rfl, Below.refl _ _, fun h => by cases h⟩
              · have e7 : u 7 = .pointer (some ⟨b, off + i * 3, none⟩) := hd 7 (by omega) (by kernel_rfl)
                rw [e7]
                have a1' := (hb.cell (p := ⟨b, off + i * 3, none⟩) (lt_of_cell a1)).trans a1
                have a2' := (hb.cell (p := ⟨b, off + i * 3 + 1, none⟩) (lt_of_cell a2)).trans a2
                have a3' := (hb.cell (p := ⟨b, off + i * 3 + 2, none⟩) (lt_of_cell a3)).trans a3
                go_simp
                exact ⟨rfl, Below.refl _ _, fun h => by cases h⟩
              · have g0' := (hb.cell (p := ⟨wr.heap.size, 0, none⟩) (lt_of_cell g0)).trans g0
                have g1' := (hb.cell (p := ⟨wr.heap.size, 1, none⟩) (lt_of_cell g1)).trans g1
                have g2' := (hb.cell (p := ⟨wr.heap.size, 2, none⟩) (lt_of_cell g2)).trans g2
                go_simp
                exact ⟨rfl, Below.refl _ _, fun h => by cases h⟩
              · have e8 : u 8 = .agg #[.int .i64 x.fr, .int .i64 x.to, .int .i64 x.wd] := hd 8 (by omega) (by kernel_rfl)
                have e9 : u 9 = .agg #[.int .i64 y.fr, .int .i64 y.to, .int .i64 y.wd] := hd 9 (by omega) (by kernel_rfl)
                rw [e8, e9]
                go_simp
                refine (rMeet_any x y wz).mono ?_
                rintro e w2 ⟨rfl, hb2⟩
                rw [hmb]
                exact ⟨rfl, hb2, fun h => by cases h⟩
              · have e4 : u 4 = .bool true := hd 4 (by omega) (by kernel_rfl)
                have e10 : u 10 = .bool false := hd 10 (by omega) (by kernel_rfl)
                rw [e4, e10]
                go_simp
                exact ⟨rfl, Below.refl _ _, fun h => by cases h⟩
              · have e11 : u 11 = .bool false := hd 11 (by omega) (by kernel_rfl)
                rw [e11]
                go_simp
                exact ⟨rfl, Below.refl _ _, fun h => by cases h⟩
              · have e12 : u 12 = .bool false := hd 12 (by omega) (by kernel_rfl)
                rw [e12]
                go_simp
                exact ⟨rfl, Below.refl _ _, fun h => by cases h⟩
              · have e22 : u 22 = .bool false := hd 22 (by omega) (by kernel_rfl)
                rw [e22]
                go_simp
                exact ⟨rfl, Below.refl _ _, fun h => by cases h⟩
              · have e23 : u 23 = .bool false := hd 23 (by omega) (by kernel_rfl)
                rw [e23]
                go_simp
                exact ⟨rfl, Below.refl _ _, fun h => by cases h⟩
            case restA =>
              intro u wz hb hf hp
              have f0 : u 0 = .slice (some ⟨gl, 0, none⟩) len len := hf 0 (by omega)
              have f1 : u 1 = .int .i64 (k : Int) := hf 1 (by omega)
              have f2 : u 2 = .pointer (some ⟨gl, k, none⟩) := hf 2 (by omega)
              have f3 : u 3 = .bool true := hf 3 (by omega)
              have f4 : u 4 = .bool true := hf 4 (by omega)
              have f5 : u 5 = .slice (some ⟨b, off, none⟩) len cap := hf 5 (by omega)
              have f6 : u 6 = .int .i64 (i : Int) := hf 6 (by omega)
              have f7 : u 7 = .pointer (some ⟨b, off + i * 3, none⟩) := hf 7 (by omega)
              have f8 : u 8 = .agg #[.int .i64 x.fr, .int .i64 x.to, .int .i64 x.wd] := hf 8 (by omega)
              have f9 : u 9 = .agg #[.int .i64 y.fr, .int .i64 y.to, .int .i64 y.wd] := hf 9 (by omega)
              have f10 : u 10 = .bool false := hf 10 (by omega)
              have f11 : u 11 = .bool false := hf 11 (by omega)
              have f12 : u 12 = .bool false := hf 12 (by omega)
              have f13 : u 13 = undef := hf 13 (by omega)
              have f14 : u 14 = undef := hf 14 (by omega)
              have f15 : u 15 = undef := hf 15 (by omega)
              have f16 : u 16 = undef := hf 16 (by omega)
              have f17 : u 17 = undef := hf 17 (by omega)
              have f18 : u 18 = undef := hf 18 (by omega)
              have f19 : u 19 = undef := hf 19 (by omega)
              have f20 : u 20 = undef := hf 20 (by omega)
              have f21 : u 21 = undef := hf 21 (by omega)
              have f22 : u 22 = .bool false := hf 22 (by omega)
              have f23 : u 23 = .bool false := hf 23 (by omega)
              have f24 : u 24 = undef := hf 24 (by omega)
              have f25 : u 25 = undef := hf 25 (by omega)
              have f26 : u 26 = undef := hf 26 (by omega)
              have f27 : u 27 = undef := hf 27 (by omega)
              have f28 : u 28 = undef := hf 28 (by omega)
              have f29 : u 29 = undef := hf 29 (by omega)
              have f30 : u 30 = undef := hf 30 (by omega)
              have f31 : u 31 = undef := hf 31 (by omega)
              have f32 : u 32 = undef := hf 32 (by omega)
              have f33 : u 33 = undef := hf 33 (by omega)
              have f34 : u 34 = undef := hf 34 (by omega)
              have f35 : u 35 = undef := hf 35 (by omega)
              have f36 : u 36 = .bool false := hf 36 (by omega)
              refine UptoW.rest 0 37 (by rfl) (by kernel_rfl) ?_
              simp only [List.take, List.drop, putOps, Act.put, List.setIfInBounds_toArray, List.set_cons_zero, List.set_cons_succ, Nat.reduceAdd, f0, f1, f2, f3, f4, f5, f6, f7, f8, f9, f10, f11, f12, f13, f14, f15, f16, f17, f18, f19, f20, f21, f22, f23, f24, f25, f26, f27, f28, f29, f30, f31, f32, f33, f34, f35, f36]
              clear f0 f1 f2 f3 f4 f5 f6 f7 f8 f9 f10 f11 f12 f13 f14 f15 f16 f17 f18 f19 f20 f21 f22 f23 f24 f25 f26 f27 f28 f29 f30 f31 f32 f33 f34 f35 f36 hf hp
              have HC3 := hide hb
              clear hb
              go_wp2_with fail
              go_meet
              exact ⟨by rw [HIV.out], HC3.out⟩
          · by_cases p3 : p < r + y.wd
            · by_cases p4 : r < p + x.wd
              · have HIV : Hid (IW = true) := by rw [Hid, HIW2.out]; simp [hmb, p3, p4]
                refine region_madeG 37 38 [fIs (.slice (some ⟨gl, 0, none⟩) len len), fIs (.int .i64 (k : Int)), fIs (.pointer (some ⟨gl, k, none⟩)), fIs (.bool true), fIs (.bool true), fIs (.slice (some ⟨b, off, none⟩) len cap), fIs (.int .i64 (i : Int)), fIs (.pointer (some ⟨b, off + i * 3, none⟩)), fIs (.agg #[.int .i64 x.fr, .int .i64 x.to, .int .i64 x.wd]), fIs (.agg #[.int .i64 y.fr, .int .i64 y.to, .int .i64 y.wd]), fIs (.bool true), fIs (.bool true), fIs (.bool true), fIs (.int .i64 p), fIs (.slice (some ⟨go, 0, none⟩) len len), fIs (.int .i64 (k : Int)), fIs (.pointer (some ⟨go, k, none⟩)), fIs (.int .i64 r), fIs (.pointer (some ⟨wr.heap.size, 2, none⟩)), fIs (.int .i64 y.wd), fIs (.int .i64 (r + y.wd)), fIs (.bool true), fIs (.bool true), fIs (.bool true), fIs (.slice (some ⟨go, 0, none⟩) len len), fIs (.int .i64 (k : Int)), fIs (.pointer (some ⟨go, k, none⟩)), fIs (.int .i64 r), fIs (.int .i64 p), fIs (.slice (some ⟨b, off, none⟩) len cap), fIs (.int .i64 (i : Int)), fIs (.pointer (some ⟨b, off + i * 3, none⟩)), fIs (.pointer (some ⟨b, off + i * 3 + 2, none⟩)), fIs (.int .i64 x.wd), fIs (.int .i64 (p + x.wd)), fIs (.bool true), fIs (.bool true)] [none, none, none, none, some true, none, none, none, none, none, none, none, some true, none, none, none, none, none, none, none, none, none, none, some true, none, none, none, none, none, none, none, none, none, none, none, none, none] [true, true, true, true, true, true, true, true, true, true, true, true, true, true, true, true, true, true, true, true, true, true, true, true, true, true, true, true, true, true, true, true, true, true, true, true, true] (by kernel_rfl) (by kernel_rfl) (by kernel_rfl) (fun ch p q w3 e h => by obtain ⟨t1, d1⟩ := p; obtain ⟨t2, d2⟩ := q; cases e; exact h) ⟨fIs_good _, fIs_good _, fIs_good _, fIs_good _, fIs_good _, fIs_good _, fIs_good _, fIs_good _, fIs_good _, fIs_good _, fIs_good _, fIs_good _, fIs_good _, fIs_good _, fIs_good _, fIs_good _, fIs_good _, fIs_good _, fIs_good _, fIs_good _, fIs_good _, fIs_good _, fIs_good _, fIs_good _, fIs_good _, fIs_good _, fIs_good _, fIs_good _, fIs_good _, fIs_good _, fIs_good _, fIs_good _, fIs_good _, fIs_good _, fIs_good _, fIs_good _, fIs_good _, trivial⟩ ⟨fun _ _ h => h, fun _ _ h => h, fun _ _ h => h, rfl⟩ ?mkB ?restB
                case mkB =>
                  refine ⟨fun u wz hb hd => ?_, fun u wz hb hd => ?_, fun u wz hb hd => ?_, fun u wz hb hd => ?_, fun u wz hb hd => ?_, fun u wz hb hd => ?_, fun u wz hb hd => ?_, fun u wz hb hd => ?_, fun u wz hb hd => ?_, fun u wz hb hd => ?_, fun u wz hb hd => ?_, fun u wz hb hd => ?_, fun u wz hb hd => ?_, fun u wz hb hd => ?_, fun u wz hb hd => ?_, fun u wz hb hd => ?_, fun u wz hb hd => ?_, fun u wz hb hd => ?_, fun u wz hb hd => ?_, fun u wz hb hd => ?_, fun u wz hb hd => ?_, fun u wz hb hd => ?_, fun u wz hb hd => ?_, fun u wz hb hd => ?_, fun u wz hb hd => ?_, fun u wz hb hd => ?_, fun u wz hb hd => ?_, fun u wz hb hd => ?_, fun u wz hb hd => ?_, fun u wz hb hd => ?_, fun u wz hb hd => ?_, fun u wz hb hd => ?_, fun u wz hb hd => ?_, fun u wz hb hd => ?_, fun u wz hb hd => ?_, fun u wz hb hd => ?_, fun u wz hb hd => ?_, trivial⟩
                  all_goals simp only [Act.put, List.setIfInBounds_toArray, List.set_cons_zero, List.set_cons_succ]
                  · go_simp
                    exact ⟨rfl, Below.refl _ _, fun h => by cases h⟩
                  · go_simp
                    exact ⟨rfl, Below.refl _ _, fun h => by cases h⟩
                  · have e0 : u 0 = .slice (some ⟨gl, 0, none⟩) len len := hd 0 (by omega) (by kernel_rfl)
                    have e1 : u 1 = .int .i64 (k : Int) := hd 1 (by omega) (by kernel_rfl)
                    rw [e0, e1]
                    go_simp
                    exact ⟨rfl, Below.refl _ _, fun h => by cases h⟩
                  · have e2 : u 2 = .pointer (some ⟨gl, k, none⟩) := hd 2 (by omega) (by kernel_rfl)
                    rw [e2]
                    have a5' := (hb.cell (p := ⟨gl, k, none⟩) (lt_of_cell a5)).trans a5
                    go_simp
                    exact ⟨rfl, Below.refl _ _, fun h => by cases h⟩
                  · have e3 : u 3 = .bool true := hd 3 (by omega) (by kernel_rfl)
                    rw [e3]
                    go_simp
                    exact ⟨rfl, Below.refl _ _, fun h => by cases h⟩
                  · go_simp
                    exact ⟨rfl, Below.refl _ _, fun h => by cases h⟩
                  · go_simp
                    exact ⟨rfl, Below.refl _ _, fun h => by cases h⟩
                  · have e5 : u 5 = .slice (some ⟨b, off, none⟩) len cap := hd 5 (by omega) (by kernel_rfl)
                    have e6 : u 6 = .int .i64 (i : Int) := hd 6 (by omega) (by kernel_rfl)
                    rw [e5, e6]
                    go_simp
                    exact ⟨rfl, Below.refl _ _, fun h => by cases h⟩
                  · have e7 : u 7 = .pointer (some ⟨b, off + i * 3, none⟩) := hd 7 (by omega) (by kernel_rfl)
                    rw [e7]
                    have a1' := (hb.cell (p := ⟨b, off + i * 3, none⟩) (lt_of_cell a1)).trans a1
                    have a2' := (hb.cell (p := ⟨b, off + i * 3 + 1, none⟩) (lt_of_cell a2)).trans a2
                    have a3' := (hb.cell (p := ⟨b, off + i * 3 + 2, none⟩) (lt_of_cell a3)).trans a3
                    go_simp
                    exact ⟨rfl, Below.refl _ _, fun h => by cases h⟩
                  · have g0' := (hb.cell (p := ⟨wr.heap.size, 0, none⟩) (lt_of_cell g0)).trans g0
                    have g1' := (hb.cell (p := ⟨wr.heap.size, 1, none⟩) (lt_of_cell g1)).trans g1
                    have g2' := (hb.cell (p := ⟨wr.heap.size, 2, none⟩) (lt_of_cell g2)).trans g2
                    go_simp
                    exact ⟨rfl, Below.refl _ _, fun h => by cases h⟩
                  · have e8 : u 8 = .agg #[.int .i64 x.fr, .int .i64 x.to, .int .i64 x.wd] := hd 8 (by omega) (by kernel_rfl)
                    have e9 : u 9 = .agg #[.int .i64 y.fr, .int .i64 y.to, .int .i64 y.wd] := hd 9 (by omega) (by kernel_rfl)
                    rw [e8, e9]
                    go_simp
                    refine (rMeet_any x y wz).mono ?_
                    rintro e w2 ⟨rfl, hb2⟩
                    rw [hmb]
                    exact ⟨rfl, hb2, fun h => by cases h⟩
                  · have e4 : u 4 = .bool true := hd 4 (by omega) (by kernel_rfl)
                    have e10 : u 10 = .bool true := hd 10 (by omega) (by kernel_rfl)
                    rw [e4, e10]
                    go_simp
                    exact ⟨rfl, Below.refl _ _, fun h => by cases h⟩
                  · have e11 : u 11 = .bool true := hd 11 (by omega) (by kernel_rfl)
                    rw [e11]
                    go_simp
                    exact ⟨rfl, Below.refl _ _, fun h => by cases h⟩
                  · go_simp
                    exact ⟨rfl, Below.refl _ _, fun h => by cases h⟩
                  · go_simp
                    exact ⟨rfl, Below.refl _ _, fun h => by cases h⟩
                  · go_simp
                    exact ⟨rfl, Below.refl _ _, fun h => by cases h⟩
                  · have e14 : u 14 = .slice (some ⟨go, 0, none⟩) len len := hd 14 (by omega) (by kernel_rfl)
                    have e15 : u 15 = .int .i64 (k : Int) := hd 15 (by omega) (by kernel_rfl)
                    rw [e14, e15]
                    go_simp
                    exact ⟨rfl, Below.refl _ _, fun h => by cases h⟩
                  · have e16 : u 16 = .pointer (some ⟨go, k, none⟩) := hd 16 (by omega) (by kernel_rfl)
                    rw [e16]
                    have a4' := (hb.cell (p := ⟨go, k, none⟩) (lt_of_cell a4)).trans a4
                    go_simp
                    exact ⟨rfl, Below.refl _ _, fun h => by cases h⟩
                  · go_simp
                    exact ⟨rfl, Below.refl _ _, fun h => by cases h⟩
                  · have e18 : u 18 = .pointer (some ⟨wr.heap.size, 2, none⟩) := hd 18 (by omega) (by kernel_rfl)
                    rw [e18]
                    have g2' := (hb.cell (p := ⟨wr.heap.size, 2, none⟩) (lt_of_cell g2)).trans g2
                    go_simp
                    exact ⟨rfl, Below.refl _ _, fun h => by cases h⟩
                  · have e17 : u 17 = .int .i64 r := hd 17 (by omega) (by kernel_rfl)
                    have e19 : u 19 = .int .i64 y.wd := hd 19 (by omega) (by kernel_rfl)
                    rw [e17, e19]
                    go_simp
                    exact ⟨rfl, Below.refl _ _, fun h => by cases h⟩
                  · have e13 : u 13 = .int .i64 p := hd 13 (by omega) (by kernel_rfl)
                    have e20 : u 20 = .int .i64 (r + y.wd) := hd 20 (by omega) (by kernel_rfl)
                    rw [e13, e20]
                    go_simp
                    exact ⟨rfl, Below.refl _ _, fun h => by cases h⟩
                  · have e12 : u 12 = .bool true := hd 12 (by omega) (by kernel_rfl)
                    have e21 : u 21 = .bool true := hd 21 (by omega) (by kernel_rfl)
                    rw [e12, e21]
                    go_simp
                    exact ⟨rfl, Below.refl _ _, fun h => by cases h⟩
                  · have e22 : u 22 = .bool true := hd 22 (by omega) (by kernel_rfl)
                    rw [e22]
                    go_simp
                    exact ⟨rfl, Below.refl _ _, fun h => by cases h⟩
                  · go_simp
                    exact ⟨rfl, Below.refl _ _, fun h => by cases h⟩
                  · go_simp
                    exact ⟨rfl, Below.refl _ _, fun h => by cases h⟩
                  · have e24 : u 24 = .slice (some ⟨go, 0, none⟩) len len := hd 24 (by omega) (by kernel_rfl)
                    have e25 : u 25 = .int .i64 (k : Int) := hd 25 (by omega) (by kernel_rfl)
                    rw [e24, e25]
                    go_simp
                    exact ⟨rfl, Below.refl _ _, fun h => by cases h⟩
                  · have e26 : u 26 = .pointer (some ⟨go, k, none⟩) := hd 26 (by omega) (by kernel_rfl)
                    rw [e26]
                    have a4' := (hb.cell (p := ⟨go, k, none⟩) (lt_of_cell a4)).trans a4
                    go_simp
                    exact ⟨rfl, Below.refl _ _, fun h => by cases h⟩
                  · go_simp
                    exact ⟨rfl, Below.refl _ _, fun h => by cases h⟩
                  · go_simp
                    exact ⟨rfl, Below.refl _ _, fun h => by cases h⟩
                  · go_simp
                    exact ⟨rfl, Below.refl _ _, fun h => by cases h⟩
                  · have e29 : u 29 = .slice (some ⟨b, off, none⟩) len cap := hd 29 (by omega) (by kernel_rfl)
                    have e30 : u 30 = .int .i64 (i : Int) := hd 30 (by omega) (by kernel_rfl)
                    rw [e29, e30]
                    go_simp
                    exact ⟨rfl, Below.refl _ _, fun h => by cases h⟩
                  · have e31 : u 31 = .pointer (some ⟨b, off + i * 3, none⟩) := hd 31 (by omega) (by kernel_rfl)
                    rw [e31]
                    go_simp
                    exact ⟨rfl, Below.refl _ _, fun h => by cases h⟩
                  · have e32 : u 32 = .pointer (some ⟨b, off + i * 3 + 2, none⟩) := hd 32 (by omega) (by kernel_rfl)
                    rw [e32]
                    have a3' := (hb.cell (p := ⟨b, off + i * 3 + 2, none⟩) (lt_of_cell a3)).trans a3
                    go_simp
                    exact ⟨rfl, Below.refl _ _, fun h => by cases h⟩
                  · have e28 : u 28 = .int .i64 p := hd 28 (by omega) (by kernel_rfl)
                    have e33 : u 33 = .int .i64 x.wd := hd 33 (by omega) (by kernel_rfl)
                    rw [e28, e33]
                    go_simp
                    exact ⟨rfl, Below.refl _ _, fun h => by cases h⟩
                  · have e27 : u 27 = .int .i64 r := hd 27 (by omega) (by kernel_rfl)
                    have e34 : u 34 = .int .i64 (p + x.wd) := hd 34 (by omega) (by kernel_rfl)
                    rw [e27, e34]
                    go_simp
                    exact ⟨rfl, Below.refl _ _, fun h => by cases h⟩
                  · have e23 : u 23 = .bool true := hd 23 (by omega) (by kernel_rfl)
                    have e35 : u 35 = .bool true := hd 35 (by omega) (by kernel_rfl)
                    rw [e23, e35]
                    go_simp
                    exact ⟨rfl, Below.refl _ _, fun h => by cases h⟩
                case restB =>
                  intro u wz hb hf hp
                  have f0 : u 0 = .slice (some ⟨gl, 0, none⟩) len len := hf 0 (by omega)
                  have f1 : u 1 = .int .i64 (k : Int) := hf 1 (by omega)
                  have f2 : u 2 = .pointer (some ⟨gl, k, none⟩) := hf 2 (by omega)
                  have f3 : u 3 = .bool true := hf 3 (by omega)
                  have f4 : u 4 = .bool true := hf 4 (by omega)
                  have f5 : u 5 = .slice (some ⟨b, off, none⟩) len cap := hf 5 (by omega)
                  have f6 : u 6 = .int .i64 (i : Int) := hf 6 (by omega)
                  have f7 : u 7 = .pointer (some ⟨b, off + i * 3, none⟩) := hf 7 (by omega)
                  have f8 : u 8 = .agg #[.int .i64 x.fr, .int .i64 x.to, .int .i64 x.wd] := hf 8 (by omega)
                  have f9 : u 9 = .agg #[.int .i64 y.fr, .int .i64 y.to, .int .i64 y.wd] := hf 9 (by omega)
                  have f10 : u 10 = .bool true := hf 10 (by omega)
                  have f11 : u 11 = .bool true := hf 11 (by omega)
                  have f12 : u 12 = .bool true := hf 12 (by omega)
                  have f13 : u 13 = .int .i64 p := hf 13 (by omega)
                  have f14 : u 14 = .slice (some ⟨go, 0, none⟩) len len := hf 14 (by omega)
                  have f15 : u 15 = .int .i64 (k : Int) := hf 15 (by omega)
                  have f16 : u 16 = .pointer (some ⟨go, k, none⟩) := hf 16 (by omega)
                  have f17 : u 17 = .int .i64 r := hf 17 (by omega)
                  have f18 : u 18 = .pointer (some ⟨wr.heap.size, 2, none⟩) := hf 18 (by omega)
                  have f19 : u 19 = .int .i64 y.wd := hf 19 (by omega)
                  have f20 : u 20 = .int .i64 (r + y.wd) := hf 20 (by omega)
                  have f21 : u 21 = .bool true := hf 21 (by omega)
                  have f22 : u 22 = .bool true := hf 22 (by omega)
                  have f23 : u 23 = .bool true := hf 23 (by omega)
                  have f24 : u 24 = .slice (some ⟨go, 0, none⟩) len len := hf 24 (by omega)
                  have f25 : u 25 = .int .i64 (k : Int) := hf 25 (by omega)
                  have f26 : u 26 = .pointer (some ⟨go, k, none⟩) := hf 26 (by omega)
                  have f27 : u 27 = .int .i64 r := hf 27 (by omega)
                  have f28 : u 28 = .int .i64 p := hf 28 (by omega)
                  have f29 : u 29 = .slice (some ⟨b, off, none⟩) len cap := hf 29 (by omega)
                  have f30 : u 30 = .int .i64 (i : Int) := hf 30 (by omega)
                  have f31 : u 31 = .pointer (some ⟨b, off + i * 3, none⟩) := hf 31 (by omega)
                  have f32 : u 32 = .pointer (some ⟨b, off + i * 3 + 2, none⟩) := hf 32 (by omega)
                  have f33 : u 33 = .int .i64 x.wd := hf 33 (by omega)
                  have f34 : u 34 = .int .i64 (p + x.wd) := hf 34 (by omega)
                  have f35 : u 35 = .bool true := hf 35 (by omega)
                  have f36 : u 36 = .bool true := hf 36 (by omega)
                  refine UptoW.rest 0 37 (by rfl) (by kernel_rfl) ?_
                  simp only [List.take, List.drop, putOps, Act.put, List.setIfInBounds_toArray, List.set_cons_zero, List.set_cons_succ, Nat.reduceAdd, f0, f1, f2, f3, f4, f5, f6, f7, f8, f9, f10, f11, f12, f13, f14, f15, f16, f17, f18, f19, f20, f21, f22, f23, f24, f25, f26, f27, f28, f29, f30, f31, f32, f33, f34, f35, f36]
                  clear f0 f1 f2 f3 f4 f5 f6 f7 f8 f9 f10 f11 f12 f13 f14 f15 f16 f17 f18 f19 f20 f21 f22 f23 f24 f25 f26 f27 f28 f29 f30 f31 f32 f33 f34 f35 f36 hf hp
                  have HC3 := hide hb
                  clear hb
                  go_wp2_with fail
                  go_meet
                  exact ⟨by rw [HIV.out], HC3.out⟩
              · have HIV : Hid (IW = false) := by rw [Hid, HIW2.out]; simp [p4]
                refine region_madeG 37 38 [fIs (.slice (some ⟨gl, 0, none⟩) len len), fIs (.int .i64 (k : Int)), fIs (.pointer (some ⟨gl, k, none⟩)), fIs (.bool true), fIs (.bool true), fIs (.slice (some ⟨b, off, none⟩) len cap), fIs (.int .i64 (i : Int)), fIs (.pointer (some ⟨b, off + i * 3, none⟩)), fIs (.agg #[.int .i64 x.fr, .int .i64 x.to, .int .i64 x.wd]), fIs (.agg #[.int .i64 y.fr, .int .i64 y.to, .int .i64 y.wd]), fIs (.bool true), fIs (.bool true), fIs (.bool true), fIs (.int .i64 p), fIs (.slice (some ⟨go, 0, none⟩) len len), fIs (.int .i64 (k : Int)), fIs (.pointer (some ⟨go, k, none⟩)), fIs (.int .i64 r), fIs (.pointer (some ⟨wr.heap.size, 2, none⟩)), fIs (.int .i64 y.wd), fIs (.int .i64 (r + y.wd)), fIs (.bool true), fIs (.bool true), fIs (.bool true), fIs (.slice (some ⟨go, 0, none⟩) len len), fIs (.int .i64 (k : Int)), fIs (.pointer (some ⟨go, k, none⟩)), fIs (.int .i64 r), fIs (.int .i64 p), fIs (.slice (some ⟨b, off, none⟩) len cap), fIs (.int .i64 (i : Int)), fIs (.pointer (some ⟨b, off + i * 3, none⟩)), fIs (.pointer (some ⟨b, off + i * 3 + 2, none⟩)), fIs (.int .i64 x.wd), fIs (.int .i64 (p + x.wd)), fIs (.bool false), fIs (.bool false)] [none, none, none, none, some true, none, none, none, none, none, none, none, some true, none, none, none, none, none, none, none, none, none, none, some true, none, none, none, none, none, none, none, none, none, none, none, none, none] [true, true, true, true, true, true, true, true, true, true, true, true, true, true, true, true, true, true, true, true, true, true, true, true, true, true, true, true, true, true, true, true, true, true, true, true, true] (by kernel_rfl) (by kernel_rfl) (by kernel_rfl) (fun ch p q w3 e h => by obtain ⟨t1, d1⟩ := p; obtain ⟨t2, d2⟩ := q; cases e; exact h) ⟨fIs_good _, fIs_good _, fIs_good _, fIs_good _, fIs_good _, fIs_good _, fIs_good _, fIs_good _, fIs_good _, fIs_good _, fIs_good _, fIs_good _, fIs_good _, fIs_good _, fIs_good _, fIs_good _, fIs_good _, fIs_good _, fIs_good _, fIs_good _, fIs_good _, fIs_good _, fIs_good _, fIs_good _, fIs_good _, fIs_good _, fIs_good _, fIs_good _, fIs_good _, fIs_good _, fIs_good _, fIs_good _, fIs_good _, fIs_good _, fIs_good _, fIs_good _, fIs_good _, trivial⟩ ⟨fun _ _ h => h, fun _ _ h => h, fun _ _ h => h, rfl⟩ ?mkC ?restC
                case mkC =>
                  refine ⟨fun u wz hb hd => ?_, fun u wz hb hd => ?_, fun u wz hb hd => ?_, fun u wz hb hd => ?_, fun u wz hb hd => ?_, fun u wz hb hd => ?_, fun u wz hb hd => ?_, fun u wz hb hd => ?_, fun u wz hb hd => ?_, fun u wz hb hd => ?_, fun u wz hb hd => ?_, fun u wz hb hd => ?_, fun u wz hb hd => ?_, fun u wz hb hd => ?_, fun u wz hb hd => ?_, fun u wz hb hd => ?_, fun u wz hb hd => ?_, fun u wz hb hd => ?_, fun u wz hb hd => ?_, fun u wz hb hd => ?_, fun u wz hb hd => ?_, fun u wz hb hd => ?_, fun u wz hb hd => ?_, fun u wz hb hd => ?_, fun u wz hb hd => ?_, fun u wz hb hd => ?_, fun u wz hb hd => ?_, fun u wz hb hd => ?_, fun u wz hb hd => ?_, fun u wz hb hd => ?_, fun u wz hb hd => ?_, fun u wz hb hd => ?_, fun u wz hb hd => ?_, fun u wz hb hd => ?_, fun u wz hb hd => ?_, fun u wz hb hd => ?_, fun u wz hb hd => ?_, trivial⟩
                  all_goals simp only [Act.put, List.setIfInBounds_toArray, List.set_cons_zero, List.set_cons_succ]
                  · go_simp
                    exact ⟨rfl, Below.refl _ _, fun h => by cases h⟩
                  · go_simp
                    exact ⟨rfl, Below.refl _ _, fun h => by cases h⟩
                  · have e0 : u 0 = .slice (some ⟨gl, 0, none⟩) len len := hd 0 (by omega) (by kernel_rfl)
                    have e1 : u 1 = .int .i64 (k : Int) := hd 1 (by omega) (by kernel_rfl)
                    rw [e0, e1]
                    go_simp
                    exact ⟨rfl, Below.refl _ _, fun h => by cases h⟩
                  · have e2 : u 2 = .pointer (some ⟨gl, k, none⟩) := hd 2 (by omega) (by kernel_rfl)
                    rw [e2]
                    have a5' := (hb.cell (p := ⟨gl, k, none⟩) (lt_of_cell a5)).trans a5
                    go_simp
                    exact ⟨rfl, Below.refl _ _, fun h => by cases h⟩
                  · have e3 : u 3 = .bool true := hd 3 (by omega) (by kernel_rfl)
                    rw [e3]
                    go_simp
                    exact ⟨rfl, Below.refl _ _, fun h => by cases h⟩
                  · go_simp
                    exact ⟨rfl, Below.refl _ _, fun h => by cases h⟩
                  · go_simp
                    exact ⟨rfl, Below.refl _ _, fun h => by cases h⟩
                  · have e5 : u 5 = .slice (some ⟨b, off, none⟩) len cap := hd 5 (by omega) (by kernel_rfl)
                    have e6 : u 6 = .int .i64 (i : Int) := hd 6 (by omega) (by kernel_rfl)
                    rw [e5, e6]
                    go_simp
                    exact ⟨rfl, Below.refl _ _, fun h => by cases h⟩
                  · have e7 : u 7 = .pointer (some ⟨b, off + i * 3, none⟩) := hd 7 (by omega) (by kernel_rfl)
                    rw [e7]
                    have a1' := (hb.cell (p := ⟨b, off + i * 3, none⟩) (lt_of_cell a1)).trans a1
                    have a2' := (hb.cell (p := ⟨b, off + i * 3 + 1, none⟩) (lt_of_cell a2)).trans a2
                    have a3' := (hb.cell (p := ⟨b, off + i * 3 + 2, none⟩) (lt_of_cell a3)).trans a3
                    go_simp
                    exact ⟨rfl, Below.refl _ _, fun h => by cases h⟩
                  · have g0' := (hb.cell (p := ⟨wr.heap.size, 0, none⟩) (lt_of_cell g0)).trans g0
                    have g1' := (hb.cell (p := ⟨wr.heap.size, 1, none⟩) (lt_of_cell g1)).trans g1
                    have g2' := (hb.cell (p := ⟨wr.heap.size, 2, none⟩) (lt_of_cell g2)).trans g2
                    go_simp
                    exact ⟨rfl, Below.refl _ _, fun h => by cases h⟩
                  · have e8 : u 8 = .agg #[.int .i64 x.fr, .int .i64 x.to, .int .i64 x.wd] := hd 8 (by omega) (by kernel_rfl)
                    have e9 : u 9 = .agg #[.int .i64 y.fr, .int .i64 y.to, .int .i64 y.wd] := hd 9 (by omega) (by kernel_rfl)
                    rw [e8, e9]
                    go_simp
                    refine (rMeet_any x y wz).mono ?_
                    rintro e w2 ⟨rfl, hb2⟩
                    rw [hmb]
                    exact ⟨rfl, hb2, fun h => by cases h⟩
                  · have e4 : u 4 = .bool true := hd 4 (by omega) (by kernel_rfl)
                    have e10 : u 10 = .bool true := hd 10 (by omega) (by kernel_rfl)
                    rw [e4, e10]
                    go_simp
                    exact ⟨rfl, Below.refl _ _, fun h => by cases h⟩
                  · have e11 : u 11 = .bool true := hd 11 (by omega) (by kernel_rfl)
                    rw [e11]
                    go_simp
                    exact ⟨rfl, Below.refl _ _, fun h => by cases h⟩
                  · go_simp
                    exact ⟨rfl, Below.refl _ _, fun h => by cases h⟩
                  · go_simp
                    exact ⟨rfl, Below.refl _ _, fun h => by cases h⟩
                  · go_simp
                    exact ⟨rfl, Below.refl _ _, fun h => by cases h⟩
                  · have e14 : u 14 = .slice (some ⟨go, 0, none⟩) len len := hd 14 (by omega) (by kernel_rfl)
                    have e15 : u 15 = .int .i64 (k : Int) := hd 15 (by omega) (by kernel_rfl)
                    rw [e14, e15]
                    go_simp
                    exact ⟨rfl, Below.refl _ _, fun h => by cases h⟩
                  · have e16 : u 16 = .pointer (some ⟨go, k, none⟩) := hd 16 (by omega) (by kernel_rfl)
                    rw [e16]
                    have a4' := (hb.cell (p := ⟨go, k, none⟩) (lt_of_cell a4)).trans a4
                    go_simp
                    exact ⟨rfl, Below.refl _ _, fun h => by cases h⟩
                  · go_simp
                    exact ⟨rfl, Below.refl _ _, fun h => by cases h⟩
                  · have e18 : u 18 = .pointer (some ⟨wr.heap.size, 2, none⟩) := hd 18 (by omega) (by kernel_rfl)
                    rw [e18]
                    have g2' := (hb.cell (p := ⟨wr.heap.size, 2, none⟩) (lt_of_cell g2)).trans g2
                    go_simp
                    exact ⟨rfl, Below.refl _ _, fun h => by cases h⟩
                  · have e17 : u 17 = .int .i64 r := hd 17 (by omega) (by kernel_rfl)
                    have e19 : u 19 = .int .i64 y.wd := hd 19 (by omega) (by kernel_rfl)
                    rw [e17, e19]
                    go_simp
                    exact ⟨rfl, Below.refl _ _, fun h => by cases h⟩
                  · have e13 : u 13 = .int .i64 p := hd 13 (by omega) (by kernel_rfl)
                    have e20 : u 20 = .int .i64 (r + y.wd) := hd 20 (by omega) (by kernel_rfl)
                    rw [e13, e20]
                    go_simp
                    exact ⟨rfl, Below.refl _ _, fun h => by cases h⟩
                  · have e12 : u 12 = .bool true := hd 12 (by omega) (by kernel_rfl)
                    have e21 : u 21 = .bool true := hd 21 (by omega) (by kernel_rfl)
                    rw [e12, e21]
                    go_simp
                    exact ⟨rfl, Below.refl _ _, fun h => by cases h⟩
                  · have e22 : u 22 = .bool true := hd 22 (by omega) (by kernel_rfl)
                    rw [e22]
                    go_simp
                    exact ⟨rfl, Below.refl _ _, fun h => by cases h⟩
                  · go_simp
                    exact ⟨rfl, Below.refl _ _, fun h => by cases h⟩
                  · go_simp
                    exact ⟨rfl, Below.refl _ _, fun h => by cases h⟩
                  · have e24 : u 24 = .slice (some ⟨go, 0, none⟩) len len := hd 24 (by omega) (by kernel_rfl)
                    have e25 : u 25 = .int .i64 (k : Int) := hd 25 (by omega) (by kernel_rfl)
                    rw [e24, e25]
                    go_simp
                    exact ⟨rfl, Below.refl _ _, fun h => by cases h⟩
                  · have e26 : u 26 = .pointer (some ⟨go, k, none⟩) := hd 26 (by omega) (by kernel_rfl)
                    rw [e26]
                    have a4' := (hb.cell (p := ⟨go, k, none⟩) (lt_of_cell a4)).trans a4
                    go_simp
                    exact ⟨rfl, Below.refl _ _, fun h => by cases h⟩
                  · go_simp
                    exact ⟨rfl, Below.refl _ _, fun h => by cases h⟩
                  · go_simp
                    exact ⟨rfl, Below.refl _ _, fun h => by cases h⟩
                  · go_simp
                    exact ⟨rfl, Below.refl _ _, fun h => by cases h⟩
                  · have e29 : u 29 = .slice (some ⟨b, off, none⟩) len cap := hd 29 (by omega) (by kernel_rfl)
                    have e30 : u 30 = .int .i64 (i : Int) := hd 30 (by omega) (by kernel_rfl)
                    rw [e29, e30]
                    go_simp
                    exact ⟨rfl, Below.refl _ _, fun h => by cases h⟩
                  · have e31 : u 31 = .pointer (some ⟨b, off + i * 3, none⟩) := hd 31 (by omega) (by kernel_rfl)
                    rw [e31]
                    go_simp
                    exact ⟨rfl, Below.refl _ _, fun h => by cases h⟩
                  · have e32 : u 32 = .pointer (some ⟨b, off + i * 3 + 2, none⟩) := hd 32 (by omega) (by kernel_rfl)
                    rw [e32]
                    have a3' := (hb.cell (p := ⟨b, off + i * 3 + 2, none⟩) (lt_of_cell a3)).trans a3
                    go_simp
                    exact ⟨rfl, Below.refl _ _, fun h => by cases h⟩
                  · have e28 : u 28 = .int .i64 p := hd 28 (by omega) (by kernel_rfl)
                    have e33 : u 33 = .int .i64 x.wd := hd 33 (by omega) (by kernel_rfl)
                    rw [e28, e33]
                    go_simp
                    exact ⟨rfl, Below.refl _ _, fun h => by cases h⟩
                  · have e27 : u 27 = .int .i64 r := hd 27 (by omega) (by kernel_rfl)
                    have e34 : u 34 = .int .i64 (p + x.wd) := hd 34 (by omega) (by kernel_rfl)
                    rw [e27, e34]
                    go_simp
                    exact ⟨rfl, Below.refl _ _, fun h => by cases h⟩
                  · have e23 : u 23 = .bool true := hd 23 (by omega) (by kernel_rfl)
                    have e35 : u 35 = .bool false := hd 35 (by omega) (by kernel_rfl)
                    rw [e23, e35]
                    go_simp
                    exact ⟨rfl, Below.refl _ _, fun h => by cases h⟩
                case restC =>
                  intro u wz hb hf hp
                  have f0 : u 0 = .slice (some ⟨gl, 0, none⟩) len len := hf 0 (by omega)
                  have f1 : u 1 = .int .i64 (k : Int) := hf 1 (by omega)
                  have f2 : u 2 = .pointer (some ⟨gl, k, none⟩) := hf 2 (by omega)
                  have f3 : u 3 = .bool true := hf 3 (by omega)
                  have f4 : u 4 = .bool true := hf 4 (by omega)
                  have f5 : u 5 = .slice (some ⟨b, off, none⟩) len cap := hf 5 (by omega)
                  have f6 : u 6 = .int .i64 (i : Int) := hf 6 (by omega)
                  have f7 : u 7 = .pointer (some ⟨b, off + i * 3, none⟩) := hf 7 (by omega)
                  have f8 : u 8 = .agg #[.int .i64 x.fr, .int .i64 x.to, .int .i64 x.wd] := hf 8 (by omega)
                  have f9 : u 9 = .agg #[.int .i64 y.fr, .int .i64 y.to, .int .i64 y.wd] := hf 9 (by omega)
                  have f10 : u 10 = .bool true := hf 10 (by omega)
                  have f11 : u 11 = .bool true := hf 11 (by omega)
                  have f12 : u 12 = .bool true := hf 12 (by omega)
                  have f13 : u 13 = .int .i64 p := hf 13 (by omega)
                  have f14 : u 14 = .slice (some ⟨go, 0, none⟩) len len := hf 14 (by omega)
                  have f15 : u 15 = .int .i64 (k : Int) := hf 15 (by omega)
                  have f16 : u 16 = .pointer (some ⟨go, k, none⟩) := hf 16 (by omega)
                  have f17 : u 17 = .int .i64 r := hf 17 (by omega)
                  have f18 : u 18 = .pointer (some ⟨wr.heap.size, 2, none⟩) := hf 18 (by omega)
                  have f19 : u 19 = .int .i64 y.wd := hf 19 (by omega)
                  have f20 : u 20 = .int .i64 (r + y.wd) := hf 20 (by omega)
                  have f21 : u 21 = .bool true := hf 21 (by omega)
                  have f22 : u 22 = .bool true := hf 22 (by omega)
                  have f23 : u 23 = .bool true := hf 23 (by omega)
                  have f24 : u 24 = .slice (some ⟨go, 0, none⟩) len len := hf 24 (by omega)
                  have f25 : u 25 = .int .i64 (k : Int) := hf 25 (by omega)
                  have f26 : u 26 = .pointer (some ⟨go, k, none⟩) := hf 26 (by omega)
                  have f27 : u 27 = .int .i64 r := hf 27 (by omega)
                  have f28 : u 28 = .int .i64 p := hf 28 (by omega)
                  have f29 : u 29 = .slice (some ⟨b, off, none⟩) len cap := hf 29 (by omega)
                  have f30 : u 30 = .int .i64 (i : Int) := hf 30 (by omega)
                  have f31 : u 31 = .pointer (some ⟨b, off + i * 3, none⟩) := hf 31 (by omega)
                  have f32 : u 32 = .pointer (some ⟨b, off + i * 3 + 2, none⟩) := hf 32 (by omega)
                  have f33 : u 33 = .int .i64 x.wd := hf 33 (by omega)
                  have f34 : u 34 = .int .i64 (p + x.wd) := hf 34 (by omega)
                  have f35 : u 35 = .bool false := hf 35 (by omega)
                  have f36 : u 36 = .bool false := hf 36 (by omega)
                  refine UptoW.rest 0 37 (by rfl) (by kernel_rfl) ?_
                  simp only [List.take, List.drop, putOps, Act.put, List.setIfInBounds_toArray, List.set_cons_zero, List.set_cons_succ, Nat.reduceAdd, f0, f1, f2, f3, f4, f5, f6, f7, f8, f9, f10, f11, f12, f13, f14, f15, f16, f17, f18, f19, f20, f21, f22, f23, f24, f25, f26, f27, f28, f29, f30, f31, f32, f33, f34, f35, f36]
                  clear f0 f1 f2 f3 f4 f5 f6 f7 f8 f9 f10 f11 f12 f13 f14 f15 f16 f17 f18 f19 f20 f21 f22 f23 f24 f25 f26 f27 f28 f29 f30 f31 f32 f33 f34 f35 f36 hf hp
                  have HC3 := hide hb
                  clear hb
                  go_wp2_with fail
                  go_meet
                  exact ⟨by rw [HIV.out], HC3.out⟩
            · have HIV : Hid (IW = false) := by rw [Hid, HIW2.out]; simp [p3]
              refine region_madeG 37 38 [fIs (.slice (some ⟨gl, 0, none⟩) len len), fIs (.int .i64 (k : Int)), fIs (.pointer (some ⟨gl, k, none⟩)), fIs (.bool true), fIs (.bool true), fIs (.slice (some ⟨b, off, none⟩) len cap), fIs (.int .i64 (i : Int)), fIs (.pointer (some ⟨b, off + i * 3, none⟩)), fIs (.agg #[.int .i64 x.fr, .int .i64 x.to, .int .i64 x.wd]), fIs (.agg #[.int .i64 y.fr, .int .i64 y.to, .int .i64 y.wd]), fIs (.bool true), fIs (.bool true), fIs (.bool true), fIs (.int .i64 p), fIs (.slice (some ⟨go, 0, none⟩) len len), fIs (.int .i64 (k : Int)), fIs (.pointer (some ⟨go, k, none⟩)), fIs (.int .i64 r), fIs (.pointer (some ⟨wr.heap.size, 2, none⟩)), fIs (.int .i64 y.wd), fIs (.int .i64 (r + y.wd)), fIs (.bool false), fIs (.bool false), fIs (.bool false), fIs undef, fIs undef, fIs undef, fIs undef, fIs undef, fIs undef, fIs undef, fIs undef, fIs undef, fIs undef, fIs undef, fIs undef, fIs (.bool false)] [none, none, none, none, some true, none, none, none, none, none, none, none, some true, none, none, none, none, none, none, none, none, none, none, some false, none, none, none, none, none, none, none, none, none, none, none, none, none] [true, true, true, true, true, true, true, true, true, true, true, true, true, true, true, true, true, true, true, true, true, true, true, true, false, false, false, false, false, false, false, false, false, false, false, false, true] (by kernel_rfl) (by kernel_rfl) (by kernel_rfl) (fun ch p q w3 e h => by obtain ⟨t1, d1⟩ := p; obtain ⟨t2, d2⟩ := q; cases e; exact h) ⟨fIs_good _, fIs_good _, fIs_good _, fIs_good _, fIs_good _, fIs_good _, fIs_good _, fIs_good _, fIs_good _, fIs_good _, fIs_good _, fIs_good _, fIs_good _, fIs_good _, fIs_good _, fIs_good _, fIs_good _, fIs_good _, fIs_good _, fIs_good _, fIs_good _, fIs_good _, fIs_good _, fIs_good _, fIs_good _, fIs_good _, fIs_good _, fIs_good _, fIs_good _, fIs_good _, fIs_good _, fIs_good _, fIs_good _, fIs_good _, fIs_good _, fIs_good _, fIs_good _, trivial⟩ ⟨fun _ _ h => h, fun _ _ h => h, fun _ _ h => h, rfl⟩ ?mkD ?restD
              case mkD =>
                refine ⟨fun u wz hb hd => ?_, fun u wz hb hd => ?_, fun u wz hb hd => ?_, fun u wz hb hd => ?_, fun u wz hb hd => ?_, fun u wz hb hd => ?_, fun u wz hb hd => ?_, fun u wz hb hd => ?_, fun u wz hb hd => ?_, fun u wz hb hd => ?_, fun u wz hb hd => ?_, fun u wz hb hd => ?_, fun u wz hb hd => ?_, fun u wz hb hd => ?_, fun u wz hb hd => ?_, fun u wz hb hd => ?_, fun u wz hb hd => ?_, fun u wz hb hd => ?_, fun u wz hb hd => ?_, fun u wz hb hd => ?_, fun u wz hb hd => ?_, fun u wz hb hd => ?_, fun u wz hb hd => ?_, fun u wz hb hd => ?_, ⟨fun _ => rfl, rfl⟩, ⟨fun _ => rfl, rfl⟩, ⟨fun _ => rfl, rfl⟩, ⟨fun _ => rfl, rfl⟩, ⟨fun _ => rfl, rfl⟩, ⟨fun _ => rfl, rfl⟩, ⟨fun _ => rfl, rfl⟩, ⟨fun _ => rfl, rfl⟩, ⟨fun _ => rfl, rfl⟩, ⟨fun _ => rfl, rfl⟩, ⟨fun _ => rfl, rfl⟩, ⟨fun _ => rfl, rfl⟩, fun u wz hb hd => ?_, trivial⟩
                all_goals simp only [Act.put, List.setIfInBounds_toArray, List.set_cons_zero, List.set_cons_succ]
                · go_simp
                  exact ⟨rfl, Below.refl _ _, fun h => by cases h⟩
                · go_simp
                  exact ⟨rfl, Below.refl _ _, fun h => by cases h⟩
                · have e0 : u 0 = .slice (some ⟨gl, 0, none⟩) len len := hd 0 (by omega) (by kernel_rfl)
                  have e1 : u 1 = .int .i64 (k : Int) := hd 1 (by omega) (by kernel_rfl)
                  rw [e0, e1]
                  go_simp
                  exact ⟨rfl, Below.refl _ _, fun h => by cases h⟩
                · have e2 : u 2 = .pointer (some ⟨gl, k, none⟩) := hd 2 (by omega) (by kernel_rfl)
                  rw [e2]
                  have a5' := (hb.cell (p := ⟨gl, k, none⟩) (lt_of_cell a5)).trans a5
                  go_simp
                  exact ⟨rfl, Below.refl _ _, fun h => by cases h⟩
                · have e3 : u 3 = .bool true := hd 3 (by omega) (by kernel_rfl)
                  rw [e3]
                  go_simp
                  exact ⟨rfl, Below.refl _ _, fun h => by cases h⟩
                · go_simp
                  exact ⟨rfl, Below.refl _ _, fun h => by cases h⟩
                · go_simp
                  exact ⟨rfl, Below.refl _ _, fun h => by cases h⟩
                · have e5 : u 5 = .slice (some ⟨b, off, none⟩) len cap := hd 5 (by omega) (by kernel_rfl)
                  have e6 : u 6 = .int .i64 (i : Int) := hd 6 (by omega) (by kernel_rfl)
                  rw [e5, e6]
                  go_simp
                  exact ⟨rfl, Below.refl _ _, fun h => by cases h⟩
                · have e7 : u 7 = .pointer (some ⟨b, off + i * 3, none⟩) := hd 7 (by omega) (by kernel_rfl)
                  rw [e7]
                  have a1' := (hb.cell (p := ⟨b, off + i * 3, none⟩) (lt_of_cell a1)).trans a1
                  have a2' := (hb.cell (p := ⟨b, off + i * 3 + 1, none⟩) (lt_of_cell a2)).trans a2
                  have a3' := (hb.cell (p := ⟨b, off + i * 3 + 2, none⟩) (lt_of_cell a3)).trans a3
                  go_simp
                  exact ⟨rfl, Below.refl _ _, fun h => by cases h⟩
                · have g0' := (hb.cell (p := ⟨wr.heap.size, 0, none⟩) (lt_of_cell g0)).trans g0
                  have g1' := (hb.cell (p := ⟨wr.heap.size, 1, none⟩) (lt_of_cell g1)).trans g1
                  have g2' := (hb.cell (p := ⟨wr.heap.size, 2, none⟩) (lt_of_cell g2)).trans g2
                  go_simp
                  exact ⟨rfl, Below.refl _ _, fun h => by cases h⟩
                · have e8 : u 8 = .agg #[.int .i64 x.fr, .int .i64 x.to, .int .i64 x.wd] := hd 8 (by omega) (by kernel_rfl)
                  have e9 : u 9 = .agg #[.int .i64 y.fr, .int .i64 y.to, .int .i64 y.wd] := hd 9 (by omega) (by kernel_rfl)
                  rw [e8, e9]
                  go_simp
                  refine (rMeet_any x y wz).mono ?_
                  rintro e w2 ⟨rfl, hb2⟩
                  rw [hmb]
                  exact ⟨rfl, hb2, fun h => by cases h⟩
                · have e4 : u 4 = .bool true := hd 4 (by omega) (by kernel_rfl)
                  have e10 : u 10 = .bool true := hd 10 (by omega) (by kernel_rfl)
                  rw [e4, e10]
                  go_simp
                  exact ⟨rfl, Below.refl _ _, fun h => by cases h⟩
                · have e11 : u 11 = .bool true := hd 11 (by omega) (by kernel_rfl)
                  rw [e11]
                  go_simp
                  exact ⟨rfl, Below.refl _ _, fun h => by cases h⟩
                · go_simp
                  exact ⟨rfl, Below.refl _ _, fun h => by cases h⟩
                · go_simp
                  exact ⟨rfl, Below.refl _ _, fun h => by cases h⟩
                · go_simp
                  exact ⟨rfl, Below.refl _ _, fun h => by cases h⟩
                · have e14 : u 14 = .slice (some ⟨go, 0, none⟩) len len := hd 14 (by omega) (by kernel_rfl)
                  have e15 : u 15 = .int .i64 (k : Int) := hd 15 (by omega) (by kernel_rfl)
                  rw [e14, e15]
                  go_simp
                  exact ⟨rfl, Below.refl _ _, fun h => by cases h⟩
                · have e16 : u 16 = .pointer (some ⟨go, k, none⟩) := hd 16 (by omega) (by kernel_rfl)
                  rw [e16]
                  have a4' := (hb.cell (p := ⟨go, k, none⟩) (lt_of_cell a4)).trans a4
                  go_simp
                  exact ⟨rfl, Below.refl _ _, fun h => by cases h⟩
                · go_simp
                  exact ⟨rfl, Below.refl _ _, fun h => by cases h⟩
                · have e18 : u 18 = .pointer (some ⟨wr.heap.size, 2, none⟩) := hd 18 (by omega) (by kernel_rfl)
                  rw [e18]
                  have g2' := (hb.cell (p := ⟨wr.heap.size, 2, none⟩) (lt_of_cell g2)).trans g2
                  go_simp
                  exact ⟨rfl, Below.refl _ _, fun h => by cases h⟩
                · have e17 : u 17 = .int .i64 r := hd 17 (by omega) (by kernel_rfl)
                  have e19 : u 19 = .int .i64 y.wd := hd 19 (by omega) (by kernel_rfl)
                  rw [e17, e19]
                  go_simp
                  exact ⟨rfl, Below.refl _ _, fun h => by cases h⟩
                · have e13 : u 13 = .int .i64 p := hd 13 (by omega) (by kernel_rfl)
                  have e20 : u 20 = .int .i64 (r + y.wd) := hd 20 (by omega) (by kernel_rfl)
                  rw [e13, e20]
                  go_simp
                  exact ⟨rfl, Below.refl _ _, fun h => by cases h⟩
                · have e12 : u 12 = .bool true := hd 12 (by omega) (by kernel_rfl)
                  have e21 : u 21 = .bool false := hd 21 (by omega) (by kernel_rfl)
                  rw [e12, e21]
                  go_simp
                  exact ⟨rfl, Below.refl _ _, fun h => by cases h⟩
                · have e22 : u 22 = .bool false := hd 22 (by omega) (by kernel_rfl)
                  rw [e22]
                  go_simp
                  exact ⟨rfl, Below.refl _ _, fun h => by cases h⟩
                · have e23 : u 23 = .bool false := hd 23 (by omega) (by kernel_rfl)
                  rw [e23]
                  go_simp
                  exact ⟨rfl, Below.refl _ _, fun h => by cases h⟩
              case restD =>
                intro u wz hb hf hp
                have f0 : u 0 = .slice (some ⟨gl, 0, none⟩) len len := hf 0 (by omega)
                have f1 : u 1 = .int .i64 (k : Int) := hf 1 (by omega)
                have f2 : u 2 = .pointer (some ⟨gl, k, none⟩) := hf 2 (by omega)
                have f3 : u 3 = .bool true := hf 3 (by omega)
                have f4 : u 4 = .bool true := hf 4 (by omega)
                have f5 : u 5 = .slice (some ⟨b, off, none⟩) len cap := hf 5 (by omega)
                have f6 : u 6 = .int .i64 (i : Int) := hf 6 (by omega)
                have f7 : u 7 = .pointer (some ⟨b, off + i * 3, none⟩) := hf 7 (by omega)
                have f8 : u 8 = .agg #[.int .i64 x.fr, .int .i64 x.to, .int .i64 x.wd] := hf 8 (by omega)
                have f9 : u 9 = .agg #[.int .i64 y.fr, .int .i64 y.to, .int .i64 y.wd] := hf 9 (by omega)
                have f10 : u 10 = .bool true := hf 10 (by omega)
                have f11 : u 11 = .bool true := hf 11 (by omega)
                have f12 : u 12 = .bool true := hf 12 (by omega)
                have f13 : u 13 = .int .i64 p := hf 13 (by omega)
                have f14 : u 14 = .slice (some ⟨go, 0, none⟩) len len := hf 14 (by omega)
                have f15 : u 15 = .int .i64 (k : Int) := hf 15 (by omega)
                have f16 : u 16 = .pointer (some ⟨go, k, none⟩) := hf 16 (by omega)
                have f17 : u 17 = .int .i64 r := hf 17 (by omega)
                have f18 : u 18 = .pointer (some ⟨wr.heap.size, 2, none⟩) := hf 18 (by omega)
                have f19 : u 19 = .int .i64 y.wd := hf 19 (by omega)
                have f20 : u 20 = .int .i64 (r + y.wd) := hf 20 (by omega)
                have f21 : u 21 = .bool false := hf 21 (by omega)
                have f22 : u 22 = .bool false := hf 22 (by omega)
                have f23 : u 23 = .bool false := hf 23 (by omega)
                have f24 : u 24 = undef := hf 24 (by omega)
                have f25 : u 25 = undef := hf 25 (by omega)
                have f26 : u 26 = undef := hf 26 (by omega)
                have f27 : u 27 = undef := hf 27 (by omega)
                have f28 : u 28 = undef := hf 28 (by omega)
                have f29 : u 29 = undef := hf 29 (by omega)
                have f30 : u 30 = undef := hf 30 (by omega)
                have f31 : u 31 = undef := hf 31 (by omega)
                have f32 : u 32 = undef := hf 32 (by omega)
                have f33 : u 33 = undef := hf 33 (by omega)
                have f34 : u 34 = undef := hf 34 (by omega)
                have f35 : u 35 = undef := hf 35 (by omega)
                have f36 : u 36 = .bool false := hf 36 (by omega)
                refine UptoW.rest 0 37 (by rfl) (by kernel_rfl) ?_
                simp only [List.take, List.drop, putOps, Act.put, List.setIfInBounds_toArray, List.set_cons_zero, List.set_cons_succ, Nat.reduceAdd, f0, f1, f2, f3, f4, f5, f6, f7, f8, f9, f10, f11, f12, f13, f14, f15, f16, f17, f18, f19, f20, f21, f22, f23, f24, f25, f26, f27, f28, f29, f30, f31, f32, f33, f34, f35, f36]
                clear f0 f1 f2 f3 f4 f5 f6 f7 f8 f9 f10 f11 f12 f13 f14 f15 f16 f17 f18 f19 f20 f21 f22 f23 f24 f25 f26 f27 f28 f29 f30 f31 f32 f33 f34 f35 f36 hf hp
                have HC3 := hide hb
                clear hb
                go_wp2_with fail
                go_meet
                exact ⟨by rw [HIV.out], HC3.out⟩
      case rest =>
        obtain ⟨rfl, hb8⟩ := hcut
        have HB8 := hide (bl_on HB6.out hb8)
        clear hb8
        cases hiw : IW
        · go_wp2
          go_roundw
          case rel => exact ⟨k + 1, by omega, by go_num, fun q hq => by
            by_cases e : q = k
            · rw [e, ← HIW.out]; exact hiw
            · exact HN.out q (by omega), HB8.out⟩
          case measure => simp [intOf]; omega
        · have hf : freeB ls out lies i p = false := by
            unfold freeB
            rw [Bool.eq_false_iff]
            intro hall
            rw [List.all_eq_true] at hall
            have := hall k (by rw [List.mem_range, HL.out]; exact hlt)
            rw [← HIW.out, hiw] at this
            simp at this
          have HF := hide hf
          clear hf
          go_wp2
          go_ret
          exact ⟨by rw [HF.out]; rfl, HB8.out⟩
    · obtain rfl : k = len := by omega
      have hf : freeB ls out lies i p = true := by
        unfold freeB
        rw [List.all_eq_true]
        intro q hq
        rw [HN.out q (by rw [← HL.out]; simpa using hq)]
        rfl
      have HF := hide hf
      clear hf
      go_wp2
      go_ret
      exact ⟨by rw [HF.out]; rfl, HB.out⟩
end Go.Proofs.Ytcnnghhaohehoaa.V
