/-
  Contracts: array.work of Take and Put, over what takeRows and putRows do. What goes with sums and with products by a number. Contracts: array.Do of a Dot of two matrices, and of a Turn of one. What Do makes of one array, in what it makes go with sums. Dimensions of what goes with sums: what may be asked, and where entries lie. Contracts: adjointlaw2.times, adjointlaw2.one of a Turn, adjointlaw2.alive. Contract: adjointlaw2.alive.
-/
import Derived.Test.YteoobeldmicjhaaGreatPRKArrayRows40
import Derived.Test.YteoobeldmicjhaaGreatPRKArrayRows30
import Derived.Test.YteoobeldmicjhaaGreatPRKArrayRows28
namespace Go.Proofs.YteoobeldmicjhaaGreat.V
set_option maxRecDepth 20000
open Go.RowKit

set_option maxRecDepth 100000 in
set_option maxHeartbeats 4000000 in
theorem work_take (x : Int) (vd va vl vh vs : Value) (Z : Option Addr) (nz cz g n : Nat) (b off cap : Nat) (c0 c1 c2 c3 : Value) (f : List Int) (w : World)
    (h0 : w.cell? ⟨b, off, none⟩ = some c0) (h1 : w.cell? ⟨b, off + 1, none⟩ = some c1) (h2 : w.cell? ⟨b, off + 2, none⟩ = some c2) (h3 : w.cell? ⟨b, off + 3, none⟩ = some c3) (hrow : w.rowIs g 2 n (fun _ => .int .i64 0))
    (hcall : ∀ W, Below w.heap.size w W → W.rowIs g 2 n (fun _ => .int .i64 0) → Calls Tryz.prog 46 #[.slice (some ⟨g, 0, none⟩) n n, .agg #[c0, c1], c3] W fun e W' => e = .returned (.tuple #[]) ∧ W'.rowIs g 2 n (fun j => .int .i64 (f[j]?.getD 0)) ∧ Save g W W') :
    Calls Tryz.prog 24 #[.agg #[.slice Z nz cz, .slice (some ⟨g, 0, none⟩) n n], .agg #[.int .i64 18, vd, va, vl, vh, vs, .int .i64 x], .slice (some ⟨b, off, none⟩) 2 cap] w fun e w' => e = .returned (.tuple #[]) ∧ w'.rowIs g 2 n (fun j => .int .i64 (f[j]?.getD 0)) ∧ Save g w w' := by
  have hgl : g < w.heap.size := hrow.lt
  have HB1 := hide ((Below.refl w.heap.size w).alloc (Nat.le_refl _) (.cells #[.slice Z nz cz, .slice (some ⟨g, 0, none⟩) n n] 25))
  have HB2 := hide (HB1.out.alloc HB1.out.size (.cells #[.int .i64 18, vd, va, vl, vh, vs, .int .i64 x] 31))
  have HAR := hide ((ArrAt.new w (.slice Z nz cz) (.slice (some ⟨g, 0, none⟩) n n)).alloc (.cells #[.int .i64 18, vd, va, vl, vh, vs, .int .i64 x] 31))
  have hop := OpAt.new (w.alloc (.cells #[.slice Z nz cz, .slice (some ⟨g, 0, none⟩) n n] 25)) 18 vd va vl vh vs x
  simp only [World.size_alloc] at hop
  have HOP := hide hop
  obtain ⟨⟨r0, r1⟩, _⟩ := HAR.out.cells
  obtain ⟨o0, o1, o2, o3, o4, o5, o6⟩ := HOP.out.cells
  have k0 := (HB2.out.cell (p := ⟨b, off, none⟩) (lt_of_cell h0)).trans h0
  have k1 := (HB2.out.cell (p := ⟨b, off + 1, none⟩) (lt_of_cell h1)).trans h1
  have k2 := (HB2.out.cell (p := ⟨b, off + 2, none⟩) (lt_of_cell h2)).trans h2
  have k3 := (HB2.out.cell (p := ⟨b, off + 3, none⟩) (lt_of_cell h3)).trans h3
  have HR := hide hrow
  have HCL := hide hcall
  clear h0 h1 h2 h3 hrow hop hcall
  go_enter Tryz.func24, Tryz.ntmps24
  go_wp2_with fail
  refine region_made 9 12 [fIs (.pointer (some ⟨w.heap.size, 1, none⟩)), fIs (.slice (some ⟨g, 0, none⟩) n n), fIs (.slice (some ⟨b, off, none⟩) 2 cap), fIs (.pointer (some ⟨b, off, none⟩)), fIs (.agg #[c0, c1]), fIs (.slice (some ⟨b, off, none⟩) 2 cap), fIs (.pointer (some ⟨b, off + 2, none⟩)), fIs (.pointer (some ⟨b, off + 3, none⟩)), fIs (c3)] (by kernel_rfl) (by kernel_rfl) (by kernel_rfl) (fun _ ⟨_, _⟩ ⟨_, _⟩ _ e h => by cases e; exact h) ⟨fIs_good _, fIs_good _, fIs_good _, fIs_good _, fIs_good _, fIs_good _, fIs_good _, fIs_good _, fIs_good _, trivial⟩ ?mk ?rest
  case mk =>
    refine ⟨fun u wz hb hd => ?_, fun u wz hb hd => ?_, fun u wz hb hd => ?_, fun u wz hb hd => ?_, fun u wz hb hd => ?_, fun u wz hb hd => ?_, fun u wz hb hd => ?_, fun u wz hb hd => ?_, fun u wz hb hd => ?_, trivial⟩
    all_goals simp only [Act.put, List.setIfInBounds_toArray, List.set_cons_zero, List.set_cons_succ]
    · go_simp
      exact ⟨rfl, Below.refl _ _, fun h => by cases h⟩
    · have e0 : u 0 = .pointer (some ⟨w.heap.size, 1, none⟩) := hd 0 (by omega) (by kernel_rfl)
      rw [e0]
      have r1' := (hb.cell (p := ⟨w.heap.size, 1, none⟩) (lt_of_cell r1)).trans r1
      go_simp
      exact ⟨rfl, Below.refl _ _, fun h => by cases h⟩
    · go_simp
      exact ⟨rfl, Below.refl _ _, fun h => by cases h⟩
    · have e2 : u 2 = .slice (some ⟨b, off, none⟩) 2 cap := hd 2 (by omega) (by kernel_rfl)
      rw [e2]
      go_simp
      exact ⟨rfl, Below.refl _ _, fun h => by cases h⟩
    · have e3 : u 3 = .pointer (some ⟨b, off, none⟩) := hd 3 (by omega) (by kernel_rfl)
      rw [e3]
      have k0' := (hb.cell (p := ⟨b, off, none⟩) (lt_of_cell k0)).trans k0
      have k1' := (hb.cell (p := ⟨b, off + 1, none⟩) (lt_of_cell k1)).trans k1
      go_simp
      exact ⟨rfl, Below.refl _ _, fun h => by cases h⟩
    · go_simp
      exact ⟨rfl, Below.refl _ _, fun h => by cases h⟩
    · have e5 : u 5 = .slice (some ⟨b, off, none⟩) 2 cap := hd 5 (by omega) (by kernel_rfl)
      rw [e5]
      go_simp
      exact ⟨rfl, Below.refl _ _, fun h => by cases h⟩
    · have e6 : u 6 = .pointer (some ⟨b, off + 2, none⟩) := hd 6 (by omega) (by kernel_rfl)
      rw [e6]
      go_simp
      exact ⟨rfl, Below.refl _ _, fun h => by cases h⟩
    · have e7 : u 7 = .pointer (some ⟨b, off + 3, none⟩) := hd 7 (by omega) (by kernel_rfl)
      rw [e7]
      have k3' := (hb.cell (p := ⟨b, off + 3, none⟩) (lt_of_cell k3)).trans k3
      go_simp
      exact ⟨rfl, Below.refl _ _, fun h => by cases h⟩
  case rest =>
    intro u wz hb hf hp
    have f0 : u 0 = .pointer (some ⟨w.heap.size, 1, none⟩) := hf 0 (by omega)
    have f1 : u 1 = .slice (some ⟨g, 0, none⟩) n n := hf 1 (by omega)
    have f2 : u 2 = .slice (some ⟨b, off, none⟩) 2 cap := hf 2 (by omega)
    have f3 : u 3 = .pointer (some ⟨b, off, none⟩) := hf 3 (by omega)
    have f4 : u 4 = .agg #[c0, c1] := hf 4 (by omega)
    have f5 : u 5 = .slice (some ⟨b, off, none⟩) 2 cap := hf 5 (by omega)
    have f6 : u 6 = .pointer (some ⟨b, off + 2, none⟩) := hf 6 (by omega)
    have f7 : u 7 = .pointer (some ⟨b, off + 3, none⟩) := hf 7 (by omega)
    have f8 : u 8 = c3 := hf 8 (by omega)
    refine UptoW.rest 1 9 (by rfl) (by kernel_rfl) ?_
    simp only [List.take, List.drop, putOps, Act.put, List.setIfInBounds_toArray, List.set_cons_zero, List.set_cons_succ, Nat.reduceAdd, f0, f1, f2, f3, f4, f5, f6, f7, f8]
    clear f0 f1 f2 f3 f4 f5 f6 f7 f8 hf hp
    have HBz := hide (Below.on HB2.out hb)
    refine wpList_plain rfl (fun K hK => ?_)
    go_simp
    refine (HCL.out wz HBz.out (HR.out.of_block (HBz.out.block g hgl))).mono ?_
    rintro e w4 ⟨rfl, hr4, hsv⟩
    refine hK _ _ (wpList_nil ?_)
    have HR4 := hide hr4
    have HSV := hide hsv
    clear hK K hr4 hsv
    go_wp2
    exact bodyPost_end (v := .tuple #[]) (by simp [results, Tryz.results24, go_sem]) rfl ⟨rfl, HR4.out, ⟨fun c hc hne => (HSV.out.1 c (Nat.lt_of_lt_of_le hc HBz.out.size) hne).trans (HBz.out.block c hc), (HBz.out.mono (Nat.zero_le _)).trans HSV.out.2⟩⟩

set_option maxRecDepth 100000 in
set_option maxHeartbeats 4000000 in
theorem work_put (x : Int) (vd va vl vh vs : Value) (Z : Option Addr) (nz cz g n : Nat) (b off cap : Nat) (c0 c1 c2 c3 : Value) (f : List Int) (w : World)
    (h0 : w.cell? ⟨b, off, none⟩ = some c0) (h1 : w.cell? ⟨b, off + 1, none⟩ = some c1) (h2 : w.cell? ⟨b, off + 2, none⟩ = some c2) (h3 : w.cell? ⟨b, off + 3, none⟩ = some c3) (hrow : w.rowIs g 2 n (fun _ => .int .i64 0))
    (hcall : ∀ W, Below w.heap.size w W → W.rowIs g 2 n (fun _ => .int .i64 0) → Calls Tryz.prog 47 #[.agg #[.slice Z nz cz, .slice (some ⟨g, 0, none⟩) n n], c1, c3] W fun e W' => e = .returned (.tuple #[]) ∧ W'.rowIs g 2 n (fun j => .int .i64 (f[j]?.getD 0)) ∧ Save g W W') :
    Calls Tryz.prog 24 #[.agg #[.slice Z nz cz, .slice (some ⟨g, 0, none⟩) n n], .agg #[.int .i64 19, vd, va, vl, vh, vs, .int .i64 x], .slice (some ⟨b, off, none⟩) 2 cap] w fun e w' => e = .returned (.tuple #[]) ∧ w'.rowIs g 2 n (fun j => .int .i64 (f[j]?.getD 0)) ∧ Save g w w' := by
  have hgl : g < w.heap.size := hrow.lt
  have HB1 := hide ((Below.refl w.heap.size w).alloc (Nat.le_refl _) (.cells #[.slice Z nz cz, .slice (some ⟨g, 0, none⟩) n n] 25))
  have HB2 := hide (HB1.out.alloc HB1.out.size (.cells #[.int .i64 19, vd, va, vl, vh, vs, .int .i64 x] 31))
  have HAR := hide ((ArrAt.new w (.slice Z nz cz) (.slice (some ⟨g, 0, none⟩) n n)).alloc (.cells #[.int .i64 19, vd, va, vl, vh, vs, .int .i64 x] 31))
  have hop := OpAt.new (w.alloc (.cells #[.slice Z nz cz, .slice (some ⟨g, 0, none⟩) n n] 25)) 19 vd va vl vh vs x
  simp only [World.size_alloc] at hop
  have HOP := hide hop
  obtain ⟨⟨r0, r1⟩, _⟩ := HAR.out.cells
  obtain ⟨o0, o1, o2, o3, o4, o5, o6⟩ := HOP.out.cells
  have k0 := (HB2.out.cell (p := ⟨b, off, none⟩) (lt_of_cell h0)).trans h0
  have k1 := (HB2.out.cell (p := ⟨b, off + 1, none⟩) (lt_of_cell h1)).trans h1
  have k2 := (HB2.out.cell (p := ⟨b, off + 2, none⟩) (lt_of_cell h2)).trans h2
  have k3 := (HB2.out.cell (p := ⟨b, off + 3, none⟩) (lt_of_cell h3)).trans h3
  have HR := hide hrow
  have HCL := hide hcall
  clear h0 h1 h2 h3 hrow hop hcall
  go_enter Tryz.func24, Tryz.ntmps24
  go_wp2_with fail
  refine region_made 9 12 [fIs (.agg #[.slice Z nz cz, .slice (some ⟨g, 0, none⟩) n n]), fIs (.slice (some ⟨b, off, none⟩) 2 cap), fIs (.pointer (some ⟨b, off, none⟩)), fIs (.pointer (some ⟨b, off + 1, none⟩)), fIs (c1), fIs (.slice (some ⟨b, off, none⟩) 2 cap), fIs (.pointer (some ⟨b, off + 2, none⟩)), fIs (.pointer (some ⟨b, off + 3, none⟩)), fIs (c3)] (by kernel_rfl) (by kernel_rfl) (by kernel_rfl) (fun _ ⟨_, _⟩ ⟨_, _⟩ _ e h => by cases e; exact h) ⟨fIs_good _, fIs_good _, fIs_good _, fIs_good _, fIs_good _, fIs_good _, fIs_good _, fIs_good _, fIs_good _, trivial⟩ ?mk ?rest
  case mk =>
    refine ⟨fun u wz hb hd => ?_, fun u wz hb hd => ?_, fun u wz hb hd => ?_, fun u wz hb hd => ?_, fun u wz hb hd => ?_, fun u wz hb hd => ?_, fun u wz hb hd => ?_, fun u wz hb hd => ?_, fun u wz hb hd => ?_, trivial⟩
    all_goals simp only [Act.put, List.setIfInBounds_toArray, List.set_cons_zero, List.set_cons_succ]
    · have r0' := (hb.cell (p := ⟨w.heap.size, 0, none⟩) (lt_of_cell r0)).trans r0
      have r1' := (hb.cell (p := ⟨w.heap.size, 1, none⟩) (lt_of_cell r1)).trans r1
      go_simp
      exact ⟨rfl, Below.refl _ _, fun h => by cases h⟩
    · go_simp
      exact ⟨rfl, Below.refl _ _, fun h => by cases h⟩
    · have e1 : u 1 = .slice (some ⟨b, off, none⟩) 2 cap := hd 1 (by omega) (by kernel_rfl)
      rw [e1]
      go_simp
      exact ⟨rfl, Below.refl _ _, fun h => by cases h⟩
    · have e2 : u 2 = .pointer (some ⟨b, off, none⟩) := hd 2 (by omega) (by kernel_rfl)
      rw [e2]
      go_simp
      exact ⟨rfl, Below.refl _ _, fun h => by cases h⟩
    · have e3 : u 3 = .pointer (some ⟨b, off + 1, none⟩) := hd 3 (by omega) (by kernel_rfl)
      rw [e3]
      have k1' := (hb.cell (p := ⟨b, off + 1, none⟩) (lt_of_cell k1)).trans k1
      go_simp
      exact ⟨rfl, Below.refl _ _, fun h => by cases h⟩
    · go_simp
      exact ⟨rfl, Below.refl _ _, fun h => by cases h⟩
    · have e5 : u 5 = .slice (some ⟨b, off, none⟩) 2 cap := hd 5 (by omega) (by kernel_rfl)
      rw [e5]
      go_simp
      exact ⟨rfl, Below.refl _ _, fun h => by cases h⟩
    · have e6 : u 6 = .pointer (some ⟨b, off + 2, none⟩) := hd 6 (by omega) (by kernel_rfl)
      rw [e6]
      go_simp
      exact ⟨rfl, Below.refl _ _, fun h => by cases h⟩
    · have e7 : u 7 = .pointer (some ⟨b, off + 3, none⟩) := hd 7 (by omega) (by kernel_rfl)
      rw [e7]
      have k3' := (hb.cell (p := ⟨b, off + 3, none⟩) (lt_of_cell k3)).trans k3
      go_simp
      exact ⟨rfl, Below.refl _ _, fun h => by cases h⟩
  case rest =>
    intro u wz hb hf hp
    have f0 : u 0 = .agg #[.slice Z nz cz, .slice (some ⟨g, 0, none⟩) n n] := hf 0 (by omega)
    have f1 : u 1 = .slice (some ⟨b, off, none⟩) 2 cap := hf 1 (by omega)
    have f2 : u 2 = .pointer (some ⟨b, off, none⟩) := hf 2 (by omega)
    have f3 : u 3 = .pointer (some ⟨b, off + 1, none⟩) := hf 3 (by omega)
    have f4 : u 4 = c1 := hf 4 (by omega)
    have f5 : u 5 = .slice (some ⟨b, off, none⟩) 2 cap := hf 5 (by omega)
    have f6 : u 6 = .pointer (some ⟨b, off + 2, none⟩) := hf 6 (by omega)
    have f7 : u 7 = .pointer (some ⟨b, off + 3, none⟩) := hf 7 (by omega)
    have f8 : u 8 = c3 := hf 8 (by omega)
    refine UptoW.rest 1 9 (by rfl) (by kernel_rfl) ?_
    simp only [List.take, List.drop, putOps, Act.put, List.setIfInBounds_toArray, List.set_cons_zero, List.set_cons_succ, Nat.reduceAdd, f0, f1, f2, f3, f4, f5, f6, f7, f8]
    clear f0 f1 f2 f3 f4 f5 f6 f7 f8 hf hp
    have HBz := hide (Below.on HB2.out hb)
    refine wpList_plain rfl (fun K hK => ?_)
    go_simp
    refine (HCL.out wz HBz.out (HR.out.of_block (HBz.out.block g hgl))).mono ?_
    rintro e w4 ⟨rfl, hr4, hsv⟩
    refine hK _ _ (wpList_nil ?_)
    have HR4 := hide hr4
    have HSV := hide hsv
    clear hK K hr4 hsv
    go_wp2
    exact bodyPost_end (v := .tuple #[]) (by simp [results, Tryz.results24, go_sem]) rfl ⟨rfl, HR4.out, ⟨fun c hc hne => (HSV.out.1 c (Nat.lt_of_lt_of_le hc HBz.out.size) hne).trans (HBz.out.block c hc), (HBz.out.mono (Nat.zero_le _)).trans HSV.out.2⟩⟩

end Go.Proofs.YteoobeldmicjhaaGreat.V
namespace Go.Proofs.YteoobeldmicjhaaGreat.V
set_option maxRecDepth 20000
open Go.RowKit

def Bnd (xs : List Int) : Prop := ∀ x ∈ xs, -9223372036854775808 ≤ x ∧ x ≤ 9223372036854775807
theorem bnd_at {xs : List Int} (h : Bnd xs) (i : Nat) : -9223372036854775808 ≤ xs[i]?.getD 0 ∧ xs[i]?.getD 0 ≤ 9223372036854775807 := by
  by_cases hi : i < xs.length
  · exact h _ (mem_getD xs i hi)
  · rw [List.getElem?_eq_none (by omega)]; simp
end Go.Proofs.YteoobeldmicjhaaGreat.V
namespace Go.Proofs.YteoobeldmicjhaaGreat.V
set_option maxRecDepth 20000
open Go.RowKit

theorem lst_none (w : World) : Lst w none 0 0 [] := ⟨ints_nil w, Nat.le_refl _, fun _ => rfl⟩
/-- The arrays of a product. -/
def twoV2 (da : Option Addr) (dl dc : Nat) (ds : List Int) (xa : Option Addr) (n xc : Nat) (ea : Option Addr) (el ec : Nat) (es : List Int) (ya : Option Addr) (m yc : Nat) (j : Nat) : ArrV := if j = 0 then ⟨da, dl, dc, ds, xa, n, xc⟩ else ⟨ea, el, ec, es, ya, m, yc⟩
theorem arrs_two {w : World} {b off : Nat} {da : Option Addr} {dl dc : Nat} {ds : List Int} {xa : Option Addr} {n xc : Nat} {ea : Option Addr} {el ec : Nat} {es : List Int} {ya : Option Addr} {m yc : Nat} (c0 : w.cell? ⟨b, off, none⟩ = some (.slice da dl dc)) (c1 : w.cell? ⟨b, off + 1, none⟩ = some (.slice xa n xc)) (c2 : w.cell? ⟨b, off + 2, none⟩ = some (.slice ea el ec)) (c3 : w.cell? ⟨b, off + 3, none⟩ = some (.slice ya m yc)) (hd : Lst w da dl dc ds) (he : Lst w ea el ec es) :
    Arrs w (some ⟨b, off, none⟩) 2 (twoV2 da dl dc ds xa n xc ea el ec es ya m yc) := .inr ⟨b, off, rfl, fun j hj => by
  have : j = 0 ∨ j = 1 := by omega
  rcases this with rfl | rfl
  · exact ⟨c0, c1, hd⟩
  · exact ⟨c2, c3, he⟩⟩

end Go.Proofs.YteoobeldmicjhaaGreat.V
namespace Go.Proofs.YteoobeldmicjhaaGreat.V
set_option maxRecDepth 20000
open Go.RowKit

theorem dimsP_parts {k : Int} {es ps lo hi st : List Int} {xss : List (List Int)} (h : (dimsP k es ps lo hi st xss).2 = 0) : (shapeP k es ps lo hi st xss).2 = 0 ∧ sizeE (shapeP k es ps lo hi st xss).1 = 0 ∧ (dimsP k es ps lo hi st xss).1 = (shapeP k es ps lo hi st xss).1 := by
  unfold dimsP at h ⊢
  by_cases c1 : takesE k xss.length ≠ 0
  · rw [if_pos c1] at h; exact absurd h c1
  rw [if_neg c1] at h ⊢
  by_cases c2 : sizesE xss ≠ 0
  · rw [if_pos c2] at h; exact absurd h c2
  rw [if_neg c2] at h ⊢
  by_cases c3 : (shapeP k es ps lo hi st xss).2 ≠ 0
  · rw [if_pos c3] at h; exact absurd h c3
  rw [if_neg c3] at h ⊢
  by_cases c4 : sizeE (shapeP k es ps lo hi st xss).1 ≠ 0
  · rw [if_pos c4] at h; exact absurd h c4
  rw [if_neg c4]
  exact ⟨Decidable.not_not.1 c3, Decidable.not_not.1 c4, rfl⟩
theorem arrsE_congr {v v' : Nat → ArrV} : ∀ m, (∀ j, j < m → (v j).ds = (v' j).ds ∧ (v j).xl = (v' j).xl) → arrsE v m = arrsE v' m
  | 0, _ => rfl
  | m + 1, h => by rw [arrsE, arrsE, arrsE_congr m (fun j hj => h j (by omega)), (h m (by omega)).1, (h m (by omega)).2]
theorem doE_congr {k : Int} {es ps lo hi st : List Int} {m : Nat} {v v' : Nat → ArrV} (h : ∀ j, j < m → (v j).ds = (v' j).ds ∧ (v j).xl = (v' j).xl) : doE k es ps lo hi st m v = doE k es ps lo hi st m v' := by
  have hd : dimsOf m v = dimsOf m v' := by
    unfold dimsOf
    exact List.map_congr_left (fun j hj => (h j (by simpa using hj)).1)
  unfold doE
  rw [arrsE_congr m h, hd]
/-- What Do answers, where it tells no error. -/
def DoesTo (W : World) (L f : List Int) (N : Nat) (e : Ending) (W' : World) : Prop :=
  ∃ (Z : Option Addr) (nz cz G : Nat), e = .returned (.tuple #[.agg #[.slice Z nz cz, .slice (some ⟨G, 0, none⟩) N N], .int .i64 0]) ∧ (Ints W' Z nz L ∧ nz ≤ cz) ∧ Ints W' (some ⟨G, 0, none⟩) N f ∧ W.heap.size ≤ G
theorem arrE_of {L : List Int} (h : sizeE L = 0) : arrE L (prod L).toNat = 0 ∧ ((prod L).toNat : Int) = prod L := by
  have hp : 0 ≤ prod L := by
    rcases dims_cases h with ⟨_, _, h3⟩ | ⟨_, _, _, h4⟩ <;> omega
  have he : ((prod L).toNat : Int) = prod L := by omega
  refine ⟨?_, he⟩
  unfold arrE
  rw [if_neg (by rw [h]; simp), if_neg (by rw [size_prod h, he]; simp)]
theorem off_new {w W : World} {X : Option Addr} {n g : Nat} {xs : List Int} (h : Ints w X n xs) (hn : 0 < n) (hg : w.heap.size ≤ g) : OffG g X := fun b o e => by
  obtain ⟨b', o', e', hb', _⟩ := h.at hn
  rw [e] at e'; cases e'
  have := W.heap.size
  omega

end Go.Proofs.YteoobeldmicjhaaGreat.V
namespace Go.Proofs.YteoobeldmicjhaaGreat.V
set_option maxRecDepth 20000
open Go.RowKit

end Go.Proofs.YteoobeldmicjhaaGreat.V
namespace Go.Proofs.YteoobeldmicjhaaGreat.V
set_option maxRecDepth 20000
open Go.RowKit

/-- One number in a block. -/
theorem ints_one {w : World} {B : Nat} (x : Int) (hx : -9223372036854775808 ≤ x ∧ x ≤ 9223372036854775807) (t : TypeId) (h : w.heap.size = B) : Ints (w.alloc (.cells #[.int .i64 x] t)) (some ⟨B, 0, none⟩) 1 [x] := by
  subst h
  refine ⟨rfl, by omega, by simpa using hx, .inr ⟨_, _, rfl, fun j hj => ?_⟩⟩
  obtain rfl : j = 0 := by omega
  simp

end Go.Proofs.YteoobeldmicjhaaGreat.V
namespace Go.Proofs.YteoobeldmicjhaaGreat.V
set_option maxRecDepth 20000
open Go.RowKit

set_option maxRecDepth 100000 in
set_option maxHeartbeats 2000000 in
theorem alive2_any (w : World) : Calls Tryz.prog 7 #[] w fun e w' => e = .returned (.bool true) ∧ Below w.heap.size w w' := by
  have HB1 := (Below.refl w.heap.size w).alloc (Nat.le_refl _) (.cells #[.int .i64 2] 2)
  have HB2 := HB1.alloc HB1.size (.cells #[.int .i64 3] 2)
  have HB3 := HB2.alloc HB2.size (.cells #[.slice none 0 0, .slice (some ⟨w.heap.size, 0, none⟩) 1 1, .slice none 0 0, .slice (some ⟨w.heap.size + 1, 0, none⟩) 1 1] 25)
  have HB := hide HB3
  have i2 := ((ints_one 2 (by omega) 2 (w := w) (B := w.heap.size) rfl).below ((Below.refl _ _).alloc (Nat.le_refl _) (.cells #[.int .i64 3] 2))).below ((Below.refl _ _).alloc (Nat.le_refl _) (.cells #[.slice none 0 0, .slice (some ⟨w.heap.size, 0, none⟩) 1 1, .slice none 0 0, .slice (some ⟨w.heap.size + 1, 0, none⟩) 1 1] 25))
  have i3 := (ints_one 3 (by omega) 2 (w := (w.alloc (.cells #[.int .i64 2] 2))) (B := w.heap.size + 1) (by simp)).below ((Below.refl _ _).alloc (Nat.le_refl _) (.cells #[.slice none 0 0, .slice (some ⟨w.heap.size, 0, none⟩) 1 1, .slice none 0 0, .slice (some ⟨w.heap.size + 1, 0, none⟩) 1 1] 25))
  have f4 := FourAt.new (w := ((w.alloc (.cells #[.int .i64 2] 2)).alloc (.cells #[.int .i64 3] 2))) (B := w.heap.size + 1 + 1) (.slice none 0 0) (.slice (some ⟨w.heap.size, 0, none⟩) 1 1) (.slice none 0 0) (.slice (some ⟨w.heap.size + 1, 0, none⟩) 1 1) (by simp)
  obtain ⟨c0, c1, c2, c3⟩ := f4.cells
  have hS := Do_two 3 (.inl rfl) (w.heap.size + 1 + 1) 0 2 none 0 0 none 0 0 [] 1 (some ⟨w.heap.size, 0, none⟩) 1 [2] (some ⟨w.heap.size + 1, 0, none⟩) 1 [3] _ c0 c1 c2 c3 (ints_nil _) (ints_nil _) i2 i3 (by decide)
  have ht : twoL 3 [2] [3] 1 = [5] := by simp [twoL, twoV, List.range_succ, w64, wrap_in 5 (by omega) (by omega)]
  rw [ht] at hS
  have HS := hide hS
  clear i2 i3 f4 c0 c1 c2 c3 HB1 HB2 HB3 hS ht
  go_enter Tryz.func7, Tryz.ntmps7
  go_wp2_with (go_at_call 9; refine HS.out.mono ?_; rintro e w1 ⟨⟨g, G, rfl, hi1, hi2, hg1, hg2⟩, hb⟩; obtain ⟨b5, o5, e5, _, hc5⟩ := hi2.at (by omega); cases e5; have c5 := alloc_cell (o := .cells #[.slice (some ⟨g, 0, none⟩) 0 0, .slice (some ⟨G, 0, none⟩) 1 1] 25) (hc5 0 (by omega)); simp only [Nat.add_zero, List.getElem?_cons_zero, Option.getD_some] at c5; have HB5 := hide (Below.on HB.out hb); obtain ⟨⟨a0, a1⟩, _⟩ := (ArrAt.new w1 (.slice (some ⟨g, 0, none⟩) 0 0) (.slice (some ⟨G, 0, none⟩) 1 1)).cells; clear hi1 hi2 hb hc5 hg1 hg2)
  all_goals go_ret
  all_goals exact ⟨rfl, HB5.out.alloc HB5.out.size _⟩
end Go.Proofs.YteoobeldmicjhaaGreat.V
