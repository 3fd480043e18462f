/-
  Contract: array.work of Sum and Pad, over where entries land. Copying numbers into a row. Contract: array.work of Reform.
-/
import Derived.Test.YtcidhbkdaleomaaLK39L
import Derived.Test.YtcidhbkdaleomaaLK41L
import Derived.Laws.CopyOwn
namespace Go.Proofs.Ytcidhbkdaleomaa.V
set_option maxRecDepth 20000
open Go.RowKit

/-- A view, and what it reads. -/
def fLand (Q : List Int) : Fact := ⟨fun v w => ∃ (s : Int) (da : Option Addr) (dl dc : Nat) (sa : Option Addr) (sl sc : Nat) (ds ss : List Int), v = .agg #[.int .i64 s, .slice da dl dc, .slice sa sl sc] ∧ Ints w da dl ds ∧ Ints w sa sl ss ∧ wrongE s ds ss = 0 ∧ readsV s ds ss = Q, false⟩
theorem fLand_good (Q : List Int) : (fLand Q).Good := ⟨fun _ _ _ ⟨s, da, dl, dc, sa, sl, sc, ds, ss, h1, h2, h3, h4⟩ hb => ⟨s, da, dl, dc, sa, sl, sc, ds, ss, h1, h2.below hb, h3.below hb, h4⟩, fun h => by cases h⟩
theorem Save.on {g : Nat} {w w1 w2 : World} (h : Below w.heap.size w w1) (h2 : Save g w1 w2) : Save g w w2 :=
  ⟨fun c hc hne => (h2.1 c (by have := h.size; omega) hne).trans (h.block c hc), (h.mono (Nat.zero_le _)).trans h2.2⟩
theorem replicate_zero_at (n j : Nat) : (List.replicate n (0 : Int))[j]?.getD 0 = 0 := by
  by_cases h : j < n <;> simp [h]

set_option maxRecDepth 100000 in
set_option maxHeartbeats 4000000 in
theorem work_land (k x : Int) (hk : k = 10 ∨ k = 14) (vd va vl vh vs : Value) (Z : Option Addr) (nz cz g n : Nat) (b off m cap : Nat) (da : Option Addr) (dl dc : Nat) (xa : Option Addr) (xl xc : Nat) (xs Q : List Int) (w : World) (hm : 0 < m)
    (h0 : w.cell? ⟨b, off, none⟩ = some (.slice da dl dc)) (h1 : w.cell? ⟨b, off + 1, none⟩ = some (.slice xa xl xc)) (ix : Ints w xa xl xs) (ox : 0 < xl → OffG g xa) (hrow : w.rowIs g 2 n (fun _ => .int .i64 0)) (hQ : xl ≤ Q.length) (hq : ∀ i, i < xl → 0 ≤ Q[i]?.getD 0 ∧ Q[i]?.getD 0 < n)
    (hland : ∀ W, Below w.heap.size w W → Calls Try.prog 61 #[.agg #[.int .i64 k, vd, va, vl, vh, vs, .int .i64 x], .slice da dl dc, .slice Z nz cz] W fun e W' => Landed W Q e W' ∧ Below W.heap.size W W') :
    Calls Try.prog 37 #[.agg #[.slice Z nz cz, .slice (some ⟨g, 0, none⟩) n n], .agg #[.int .i64 k, vd, va, vl, vh, vs, .int .i64 x], .slice (some ⟨b, off, none⟩) m cap] w fun e w' => e = .returned (.tuple #[]) ∧ w'.rowIs g 2 n (fun j => .int .i64 ((addS (List.replicate n 0) Q xs xl)[j]?.getD 0)) ∧ Save g w w' := by
  have hgl : g < w.heap.size := hrow.lt
  have HB1 := hide ((Below.refl w.heap.size w).alloc (Nat.le_refl _) (.cells #[.slice Z nz cz, .slice (some ⟨g, 0, none⟩) n n] 28))
  have HB2 := hide (HB1.out.alloc HB1.out.size (.cells #[.int .i64 k, vd, va, vl, vh, vs, .int .i64 x] 24))
  have HAR := hide ((ArrAt.new w (.slice Z nz cz) (.slice (some ⟨g, 0, none⟩) n n)).alloc (.cells #[.int .i64 k, vd, va, vl, vh, vs, .int .i64 x] 24))
  have hop := OpAt.new (w.alloc (.cells #[.slice Z nz cz, .slice (some ⟨g, 0, none⟩) n n] 28)) k vd va vl vh vs x
  simp only [World.size_alloc] at hop
  have HOP := hide hop
  obtain ⟨⟨r0, r1⟩, _⟩ := HAR.out.cells
  obtain ⟨o0, o1, o2, o3, o4, o5, o6⟩ := HOP.out.cells
  have k0 := (HB2.out.cell (p := ⟨b, off, none⟩) (lt_of_cell h0)).trans h0
  have k1 := (HB2.out.cell (p := ⟨b, off + 1, none⟩) (lt_of_cell h1)).trans h1
  have i0 : (0 : Int) < (m : Int) := by omega
  have HR := hide hrow
  have HLN := hide hland
  have HX := hide ix
  have HOX := hide ox
  have HQ := hide hQ
  have HQB := hide hq
  clear h0 h1 hrow hop hland ix ox hQ hq
  obtain ⟨q12, q1014⟩ : (k == 12) = false ∧ ((k == 10) = true ∨ ((k == 10) = false ∧ (k == 14) = true)) := by
    rcases hk with rfl | rfl <;> decide
  clear hk
  rcases q1014 with q10 | ⟨q10, q14⟩
  all_goals go_enter Try.func37, Try.ntmps37
  all_goals go_wp2_with fail
  all_goals (
    refine region_made 14 16 [fIs (.pointer (some ⟨w.heap.size, 1, none⟩)), fIs (.slice (some ⟨g, 0, none⟩) n n), fIs (.agg #[.int .i64 k, vd, va, vl, vh, vs, .int .i64 x]), fIs (.slice (some ⟨b, off, none⟩) m cap), fIs (.pointer (some ⟨b, off, none⟩)), fIs (.pointer (some ⟨b, off, none⟩)), fIs (.slice da dl dc), fIs (.pointer (some ⟨w.heap.size, 0, none⟩)), fIs (.slice Z nz cz), fLand Q, fIs (.slice (some ⟨b, off, none⟩) m cap), fIs (.pointer (some ⟨b, off, none⟩)), fIs (.pointer (some ⟨b, off + 1, none⟩)), fIs (.slice xa xl xc)] (by kernel_rfl) (by kernel_rfl) (by kernel_rfl) (fun _ ⟨_, _⟩ ⟨_, _⟩ _ e h => by cases e; exact h) ⟨fIs_good _, fIs_good _, fIs_good _, fIs_good _, fIs_good _, fIs_good _, fIs_good _, fIs_good _, fIs_good _, fLand_good _, fIs_good _, fIs_good _, fIs_good _, fIs_good _, trivial⟩ ?mk ?rest
    case mk =>
      refine ⟨fun u wz hb hd => ?_, fun u wz hb hd => ?_, fun u wz hb hd => ?_, fun u wz hb hd => ?_, fun u wz hb hd => ?_, fun u wz hb hd => ?_, fun u wz hb hd => ?_, fun u wz hb hd => ?_, fun u wz hb hd => ?_, fun u wz hb hd => ?_, fun u wz hb hd => ?_, fun u wz hb hd => ?_, fun u wz hb hd => ?_, fun u wz hb hd => ?_, trivial⟩
      all_goals simp only [Act.put, List.setIfInBounds_toArray, List.set_cons_zero, List.set_cons_succ]
      · go_simp
        exact ⟨rfl, Below.refl _ _, fun h => by cases h⟩
      · have e0 : u 0 = .pointer (some ⟨w.heap.size, 1, none⟩) := hd 0 (by omega) (by kernel_rfl)
        rw [e0]
        have r1' := (hb.cell (p := ⟨w.heap.size, 1, none⟩) (lt_of_cell r1)).trans r1
        go_simp
        exact ⟨rfl, Below.refl _ _, fun h => by cases h⟩
      · have o0' := (hb.cell (p := ⟨w.heap.size + 1, 0, none⟩) (lt_of_cell o0)).trans o0
        have o1' := (hb.cell (p := ⟨w.heap.size + 1, 1, none⟩) (lt_of_cell o1)).trans o1
        have o2' := (hb.cell (p := ⟨w.heap.size + 1, 2, none⟩) (lt_of_cell o2)).trans o2
        have o3' := (hb.cell (p := ⟨w.heap.size + 1, 3, none⟩) (lt_of_cell o3)).trans o3
        have o4' := (hb.cell (p := ⟨w.heap.size + 1, 4, none⟩) (lt_of_cell o4)).trans o4
        have o5' := (hb.cell (p := ⟨w.heap.size + 1, 5, none⟩) (lt_of_cell o5)).trans o5
        have o6' := (hb.cell (p := ⟨w.heap.size + 1, 6, none⟩) (lt_of_cell o6)).trans o6
        go_simp
        exact ⟨rfl, Below.refl _ _, fun h => by cases h⟩
      · go_simp
        exact ⟨rfl, Below.refl _ _, fun h => by cases h⟩
      · have e3 : u 3 = .slice (some ⟨b, off, none⟩) m cap := hd 3 (by omega) (by kernel_rfl)
        rw [e3]
        go_simp
        exact ⟨rfl, Below.refl _ _, fun h => by cases h⟩
      · have e4 : u 4 = .pointer (some ⟨b, off, none⟩) := hd 4 (by omega) (by kernel_rfl)
        rw [e4]
        go_simp
        exact ⟨rfl, Below.refl _ _, fun h => by cases h⟩
      · have e5 : u 5 = .pointer (some ⟨b, off, none⟩) := hd 5 (by omega) (by kernel_rfl)
        rw [e5]
        have k0' := (hb.cell (p := ⟨b, off, none⟩) (lt_of_cell k0)).trans k0
        go_simp
        exact ⟨rfl, Below.refl _ _, fun h => by cases h⟩
      · go_simp
        exact ⟨rfl, Below.refl _ _, fun h => by cases h⟩
      · have e7 : u 7 = .pointer (some ⟨w.heap.size, 0, none⟩) := hd 7 (by omega) (by kernel_rfl)
        rw [e7]
        have r0' := (hb.cell (p := ⟨w.heap.size, 0, none⟩) (lt_of_cell r0)).trans r0
        go_simp
        exact ⟨rfl, Below.refl _ _, fun h => by cases h⟩
      · have e2 : u 2 = .agg #[.int .i64 k, vd, va, vl, vh, vs, .int .i64 x] := hd 2 (by omega) (by kernel_rfl)
        have e6 : u 6 = .slice da dl dc := hd 6 (by omega) (by kernel_rfl)
        have e8 : u 8 = .slice Z nz cz := hd 8 (by omega) (by kernel_rfl)
        rw [e2, e6, e8]
        go_simp
        refine (HLN.out wz (Below.on HB2.out hb)).mono ?_
        rintro e w2 ⟨⟨s2, a2, l2, c2, b2, m2, d2, D2, S2, rfl, hi2, hj2, hk2, hq2⟩, hb2⟩
        exact ⟨⟨s2, a2, l2, c2, b2, m2, d2, D2, S2, rfl, hi2, hj2, hk2, hq2⟩, hb2, fun h => by cases h⟩
      · go_simp
        exact ⟨rfl, Below.refl _ _, fun h => by cases h⟩
      · have e10 : u 10 = .slice (some ⟨b, off, none⟩) m cap := hd 10 (by omega) (by kernel_rfl)
        rw [e10]
        go_simp
        exact ⟨rfl, Below.refl _ _, fun h => by cases h⟩
      · have e11 : u 11 = .pointer (some ⟨b, off, none⟩) := hd 11 (by omega) (by kernel_rfl)
        rw [e11]
        go_simp
        exact ⟨rfl, Below.refl _ _, fun h => by cases h⟩
      · have e12 : u 12 = .pointer (some ⟨b, off + 1, none⟩) := hd 12 (by omega) (by kernel_rfl)
        rw [e12]
        have k1' := (hb.cell (p := ⟨b, off + 1, none⟩) (lt_of_cell k1)).trans k1
        go_simp
        exact ⟨rfl, Below.refl _ _, fun h => by cases h⟩
    case rest =>
      intro u wz hb hf hp
      have f0 : u 0 = .pointer (some ⟨w.heap.size, 1, none⟩) := hf 0 (by omega)
      have f1 : u 1 = .slice (some ⟨g, 0, none⟩) n n := hf 1 (by omega)
      have f2 : u 2 = .agg #[.int .i64 k, vd, va, vl, vh, vs, .int .i64 x] := hf 2 (by omega)
      have f3 : u 3 = .slice (some ⟨b, off, none⟩) m cap := hf 3 (by omega)
      have f4 : u 4 = .pointer (some ⟨b, off, none⟩) := hf 4 (by omega)
      have f5 : u 5 = .pointer (some ⟨b, off, none⟩) := hf 5 (by omega)
      have f6 : u 6 = .slice da dl dc := hf 6 (by omega)
      have f7 : u 7 = .pointer (some ⟨w.heap.size, 0, none⟩) := hf 7 (by omega)
      have f8 : u 8 = .slice Z nz cz := hf 8 (by omega)
      obtain ⟨s9, a9, l9, c9, b9, m9, d9, D9, S9, f9, i9, j9, k9, q9⟩ := hf 9 (by omega)
      have f10 : u 10 = .slice (some ⟨b, off, none⟩) m cap := hf 10 (by omega)
      have f11 : u 11 = .pointer (some ⟨b, off, none⟩) := hf 11 (by omega)
      have f12 : u 12 = .pointer (some ⟨b, off + 1, none⟩) := hf 12 (by omega)
      have f13 : u 13 = .slice xa xl xc := hf 13 (by omega)
      refine UptoW.rest 1 14 (by rfl) (by kernel_rfl) ?_
      simp only [List.take, List.drop, putOps, Act.put, List.setIfInBounds_toArray, List.set_cons_zero, List.set_cons_succ, Nat.reduceAdd, f0, f1, f2, f3, f4, f5, f6, f7, f8, f9, f10, f11, f12, f13]
      clear f0 f1 f2 f3 f4 f5 f6 f7 f8 f9 f10 f11 f12 f13 hf hp
      refine wpList_plain rfl (fun K hK => ?_)
      go_simp
      have HBz := hide (Below.on HB2.out hb)
      refine (add_any g n (List.replicate n 0) s9 a9 l9 c9 D9 b9 m9 d9 S9 Q xa xl xc xs wz (by simp) ((HR.out.of_block (HBz.out.block g hgl)).congr (fun j _ => by rw [replicate_zero_at])) i9 j9 k9 q9 (HX.out.below HBz.out) HOX.out HQ.out HQB.out).mono ?_
      rintro e w4 ⟨rfl, hr4, hsv4⟩
      refine hK _ _ (wpList_nil ?_)
      clear hK K
      go_wp2
      exact bodyPost_end (v := .tuple #[]) (by simp [results, Try.results37, go_sem]) rfl ⟨rfl, hr4, Save.on HBz.out hsv4⟩)
end Go.Proofs.Ytcidhbkdaleomaa.V
namespace Go.Proofs.Ytcidhbkdaleomaa.V
set_option maxRecDepth 20000
open Go Go.RowKit

/-- Some numbers of a list are put in the place of others. -/
def copyL (zs : List Int) (off : Nat) (ys : List Int) : List Int := zs.take off ++ (ys ++ zs.drop (off + ys.length))
theorem copyL_at (zs : List Int) (off : Nat) (ys : List Int) (h : off + ys.length ≤ zs.length) (j : Nat) : (copyL zs off ys)[j]?.getD 0 = if off ≤ j ∧ j < off + ys.length then ys[j - off]?.getD 0 else zs[j]?.getD 0 := by
  unfold copyL
  have ht : (zs.take off).length = off := by simp; omega
  by_cases h1 : j < off
  · rw [if_neg (by omega), List.getElem?_append_left (by omega), List.getElem?_take_of_lt h1]
  · rw [List.getElem?_append_right (by omega), ht]
    by_cases h2 : j < off + ys.length
    · rw [if_pos ⟨by omega, h2⟩, List.getElem?_append_left (by omega)]
    · rw [if_neg (by omega), List.getElem?_append_right (by omega), List.getElem?_drop]
      congr 2; omega

theorem wpList_copy_row {P : Program} {w : World} {ops : Array Oper} {rest : List Oper} {o : Oper} {a : Act} {Q : Exit → Act → World → Prop} (hgd : o.guard = none) (d s : Operand) (dT sT : TypeId)
    (ho : o.op = .call { callee := .builtin .copy, args := #[d, s], argTypes := #[dT, sT] }) (elem : TypeId) (hu : P.underlying dT = some (.slice elem)) (hsz : (P.info? elem).map (·.size) = some 1)
    (dp sp : Option Addr) (dLen dCap sLen sCap : Nat) (hd : a.eval d = .slice dp dLen dCap) (hs : a.eval s = .slice sp sLen sCap) (g n t off : Nat) (zs xs ys : List Int)
    (hrow : w.rowIs g t n (fun j => .int .i64 (zs[j]?.getD 0))) (hzl : zs.length = n) (hx : Ints w sp sLen xs) (hys : ys = xs.take (Nat.min sLen dLen)) (hdp : 0 < ys.length → dp = some ⟨g, off, none⟩) (hfit : off + ys.length ≤ n)
    (h : ∀ w', w'.rowIs g t n (fun j => .int .i64 ((copyL zs off ys)[j]?.getD 0)) → But g w w' → Below 0 w w' → wpList P ops Q rest (a.put o.dst (goInt ys.length)) w') : wpList P ops Q (o :: rest) a w := by
  have hyl : ys.length = Nat.min sLen dLen := by
    rw [hys, List.length_take, hx.1]
    exact Nat.min_eq_left (Nat.min_le_left _ _)
  by_cases h0 : ys.length = 0
  · refine wpList_copy_nothing hgd d s dT sT ho elem hu hsz dp sp dLen dCap sLen sCap hd hs (by rw [← hyl]; exact h0) ?_
    have h' := h w (hrow.congr (fun j hj => ?_)) (But.refl _ _) (Below.refl _ _)
    · rw [h0] at h'; exact h'
    · rw [copyL_at zs off ys (by omega), if_neg (by omega)]
  · have hdp' := hdp (by omega)
    subst hdp'
    have hle : ys.length ≤ sLen := by rw [hyl]; exact Nat.min_le_left _ _
    obtain ⟨b, o', rfl, hb, hc⟩ := hx.at (by omega)
    obtain ⟨cur, hg, hcs, hcv⟩ := hrow
    refine wpList_copy_own hgd d s dT sT ho elem hu hsz g off dLen dCap ⟨b, o', none⟩ sLen sCap hd hs cur t hg (ys.map (Value.int .i64)) (by rw [List.length_map]; exact hyl) (fun j v hj => ?_) (by rw [List.length_map, hcs]; exact hfit) (fun v hv => ?_) ?_
    · have hjl : j < ys.length := by
        have := (List.getElem?_eq_some_iff.1 hj).1
        simpa using this
      rw [List.getElem?_map] at hj
      have hy : ys[j]? = some (xs[j]?.getD 0) := by
        rw [hys, List.getElem?_take_of_lt (by rw [← hyl]; exact hjl)]
        have : j < xs.length := by rw [hx.1]; omega
        simp [this]
      rw [hy] at hj
      simp only [Option.map_some, Option.some.injEq] at hj
      rw [← hj, Go.WideShapes.add_plain]
      exact hc j (by omega)
    · simp only [List.mem_map] at hv
      obtain ⟨x, _, rfl⟩ := hv
      rfl
    · have h' := h (w.setRow g (cur.toList.take off ++ (ys.map (Value.int .i64) ++ cur.toList.drop (off + (ys.map (Value.int .i64)).length))).toArray) ?_ ⟨fun x hx => setRow_other _ _ _ _ hx, by simp⟩ ⟨rfl, rfl, rfl, by simp, fun k hk => by omega⟩
      · rw [List.length_map] at h' ⊢; exact h'
      · refine ⟨_, setRow_heap _ _ _ _ _ _ hg, ?_, fun i hi => ?_⟩
        · simp [hcs]; omega
        · show _ = some (Value.int .i64 ((copyL zs off ys)[i]?.getD 0))
          rw [copyL_at zs off ys (by omega)]
          have hct : (cur.toList.take off).length = off := by simp [hcs]; omega
          have hcl : ∀ i, i < n → cur.toList[i]? = some (.int .i64 (zs[i]?.getD 0)) := fun i hi => by rw [Array.getElem?_toList]; exact hcv i hi
          rw [List.getElem?_toArray]
          by_cases c1 : i < off
          · rw [if_neg (by omega), List.getElem?_append_left (by omega), List.getElem?_take_of_lt c1, hcl i hi]
          · rw [List.getElem?_append_right (by omega), hct]
            by_cases c2 : i < off + ys.length
            · rw [if_pos ⟨by omega, c2⟩, List.getElem?_append_left (by simp; omega), List.getElem?_map]
              have : i - off < ys.length := by omega
              simp [this]
            · rw [if_neg (by omega), List.getElem?_append_right (by simp; omega), List.getElem?_drop, List.length_map]
              rw [show off + ys.length + (i - off - ys.length) = i by omega, hcl i hi]
end Go.Proofs.Ytcidhbkdaleomaa.V
namespace Go.Proofs.Ytcidhbkdaleomaa.V
set_option maxRecDepth 20000
open Go.RowKit

theorem size_int64 : (Try.prog.info? 2).map (·.size) = some 1 := by kernel_rfl

set_option maxRecDepth 100000 in
set_option maxHeartbeats 4000000 in
theorem work_reform (x : Int) (vd va vl vh vs : Value) (Z : Option Addr) (nz cz g n : Nat) (b off m cap : Nat) (xa : Option Addr) (xc : Nat) (xs : List Int) (w : World) (hm : 0 < m)
    (h1 : w.cell? ⟨b, off + 1, none⟩ = some (.slice xa n xc)) (ix : Ints w xa n xs) (hrow : w.rowIs g 2 n (fun _ => .int .i64 0)) :
    Calls Try.prog 37 #[.agg #[.slice Z nz cz, .slice (some ⟨g, 0, none⟩) n n], .agg #[.int .i64 12, vd, va, vl, vh, vs, .int .i64 x], .slice (some ⟨b, off, none⟩) m cap] w fun e w' => e = .returned (.tuple #[]) ∧ w'.rowIs g 2 n (fun j => .int .i64 (xs[j]?.getD 0)) ∧ Save g w w' := by
  have hgl : g < w.heap.size := hrow.lt
  have HB1 := hide ((Below.refl w.heap.size w).alloc (Nat.le_refl _) (.cells #[.slice Z nz cz, .slice (some ⟨g, 0, none⟩) n n] 28))
  have HB2 := hide (HB1.out.alloc HB1.out.size (.cells #[.int .i64 12, vd, va, vl, vh, vs, .int .i64 x] 24))
  have HAR := hide ((ArrAt.new w (.slice Z nz cz) (.slice (some ⟨g, 0, none⟩) n n)).alloc (.cells #[.int .i64 12, vd, va, vl, vh, vs, .int .i64 x] 24))
  have hop := OpAt.new (w.alloc (.cells #[.slice Z nz cz, .slice (some ⟨g, 0, none⟩) n n] 28)) 12 vd va vl vh vs x
  simp only [World.size_alloc] at hop
  have HOP := hide hop
  obtain ⟨⟨r0, r1⟩, _⟩ := HAR.out.cells
  obtain ⟨o0, o1, o2, o3, o4, o5, o6⟩ := HOP.out.cells
  have k1 := (HB2.out.cell (p := ⟨b, off + 1, none⟩) (lt_of_cell h1)).trans h1
  have i0 : (0 : Int) < (m : Int) := by omega
  have HR := hide hrow
  have HX := hide ix
  clear h1 hrow hop ix
  go_enter Try.func37, Try.ntmps37
  go_wp2_with fail
  refine region_made 6 8 [fIs (.pointer (some ⟨w.heap.size, 1, none⟩)), fIs (.slice (some ⟨g, 0, none⟩) n n), fIs (.slice (some ⟨b, off, none⟩) m cap), fIs (.pointer (some ⟨b, off, none⟩)), fIs (.pointer (some ⟨b, off + 1, none⟩)), fIs (.slice xa n xc)] (by kernel_rfl) (by kernel_rfl) (by kernel_rfl) (fun _ ⟨_, _⟩ ⟨_, _⟩ _ e h => by cases e; exact h) ⟨fIs_good _, fIs_good _, fIs_good _, fIs_good _, fIs_good _, fIs_good _, trivial⟩ ?mk ?rest
  case mk =>
    refine ⟨fun u wz hb hd => ?_, fun u wz hb hd => ?_, fun u wz hb hd => ?_, fun u wz hb hd => ?_, fun u wz hb hd => ?_, fun u wz hb hd => ?_, trivial⟩
    all_goals simp only [Act.put, List.setIfInBounds_toArray, List.set_cons_zero, List.set_cons_succ]
    · go_simp
      exact ⟨rfl, Below.refl _ _, fun h => by cases h⟩
    · have e0 : u 0 = .pointer (some ⟨w.heap.size, 1, none⟩) := hd 0 (by omega) (by kernel_rfl)
      rw [e0]
      have r1' := (hb.cell (p := ⟨w.heap.size, 1, none⟩) (lt_of_cell r1)).trans r1
      go_simp
      exact ⟨rfl, Below.refl _ _, fun h => by cases h⟩
    · go_simp
      exact ⟨rfl, Below.refl _ _, fun h => by cases h⟩
    · have e2 : u 2 = .slice (some ⟨b, off, none⟩) m cap := hd 2 (by omega) (by kernel_rfl)
      rw [e2]
      go_simp
      exact ⟨rfl, Below.refl _ _, fun h => by cases h⟩
    · have e3 : u 3 = .pointer (some ⟨b, off, none⟩) := hd 3 (by omega) (by kernel_rfl)
      rw [e3]
      go_simp
      exact ⟨rfl, Below.refl _ _, fun h => by cases h⟩
    · have e4 : u 4 = .pointer (some ⟨b, off + 1, none⟩) := hd 4 (by omega) (by kernel_rfl)
      rw [e4]
      have k1' := (hb.cell (p := ⟨b, off + 1, none⟩) (lt_of_cell k1)).trans k1
      go_simp
      exact ⟨rfl, Below.refl _ _, fun h => by cases h⟩
  case rest =>
    intro u wz hb hf hp
    have f0 : u 0 = .pointer (some ⟨w.heap.size, 1, none⟩) := hf 0 (by omega)
    have f1 : u 1 = .slice (some ⟨g, 0, none⟩) n n := hf 1 (by omega)
    have f2 : u 2 = .slice (some ⟨b, off, none⟩) m cap := hf 2 (by omega)
    have f3 : u 3 = .pointer (some ⟨b, off, none⟩) := hf 3 (by omega)
    have f4 : u 4 = .pointer (some ⟨b, off + 1, none⟩) := hf 4 (by omega)
    have f5 : u 5 = .slice xa n xc := hf 5 (by omega)
    refine UptoW.rest 1 6 (by rfl) (by kernel_rfl) ?_
    simp only [List.take, List.drop, putOps, Act.put, List.setIfInBounds_toArray, List.set_cons_zero, List.set_cons_succ, Nat.reduceAdd, f0, f1, f2, f3, f4, f5]
    clear f0 f1 f2 f3 f4 f5 hf hp
    have HBz := hide (Below.on HB2.out hb)
    have hxz := HX.out.below HBz.out
    have hrz : wz.rowIs g 2 n (fun j => .int .i64 ((List.replicate n 0)[j]?.getD 0)) := (HR.out.of_block (HBz.out.block g hgl)).congr (fun j _ => by rw [replicate_zero_at])
    refine wpList_copy_row rfl (.tmp 17) (.tmp 21) 26 26 rfl 2 Try.underlying26 size_int64 (some ⟨g, 0, none⟩) xa n n n xc rfl rfl g n 2 0 (List.replicate n 0) xs xs hrz (by simp) hxz (by rw [show Nat.min n n = n from Nat.min_self n, List.take_of_length_le (by rw [hxz.1]; exact Nat.le_refl _)]) (fun _ => rfl) (by rw [hxz.1]; omega) (fun w4 hr4 hbut h04 => wpList_nil ?_)
    have hrf : w4.rowIs g 2 n (fun j => .int .i64 (xs[j]?.getD 0)) := hr4.congr (fun j hj => by rw [copyL_at _ _ _ (by rw [hxz.1]; simp), if_pos ⟨by omega, by rw [hxz.1]; omega⟩, Nat.sub_zero])
    have HRF := hide hrf
    have HSV := hide (Save.of_below HBz.out hbut h04)
    clear hr4 hbut h04 hrf hxz hrz
    go_wp2
    exact bodyPost_end (v := .tuple #[]) (by simp [results, Try.results37, go_sem]) rfl ⟨rfl, HRF.out, HSV.out⟩
end Go.Proofs.Ytcidhbkdaleomaa.V
