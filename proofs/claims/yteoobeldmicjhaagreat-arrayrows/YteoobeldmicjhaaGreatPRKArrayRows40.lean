/-
  Copying numbers into a row. Contract: array.work of Reform. Two dimensions: what may be asked, and what is read. Contract: array.takeRows. Contract: array.putRows.
-/
import Derived.Test.YteoobeldmicjhaaGreatPRKArrayRows39
import Derived.Laws.CopyOwn
import Derived.Test.YteoobeldmicjhaaGreatPRKArrayRows30
namespace Go.Proofs.YteoobeldmicjhaaGreat.V
set_option maxRecDepth 20000
open Go Go.RowKit

/-- Some numbers of a list are put in the place of others. -/
def copyL (zs : List Int) (off : Nat) (ys : List Int) : List Int := zs.take off ++ (ys ++ zs.drop (off + ys.length))
theorem copyL_length (zs : List Int) (off : Nat) (ys : List Int) (h : off + ys.length ≤ zs.length) : (copyL zs off ys).length = zs.length := by
  simp [copyL]; omega
theorem copyL_at (zs : List Int) (off : Nat) (ys : List Int) (h : off + ys.length ≤ zs.length) (j : Nat) : (copyL zs off ys)[j]?.getD 0 = if off ≤ j ∧ j < off + ys.length then ys[j - off]?.getD 0 else zs[j]?.getD 0 := by
  unfold copyL
  have ht : (zs.take off).length = off := by simp; omega
  by_cases h1 : j < off
  · rw [if_neg (by omega), List.getElem?_append_left (by omega), List.getElem?_take_of_lt h1]
  · rw [List.getElem?_append_right (by omega), ht]
    by_cases h2 : j < off + ys.length
    · rw [if_pos ⟨by omega, h2⟩, List.getElem?_append_left (by omega)]
    · rw [if_neg (by omega), List.getElem?_append_right (by omega), List.getElem?_drop]
      congr 2; omega

theorem wpList_copy_row {P : Program} {w : World} {ops : Array Oper} {rest : List Oper} {o : Oper} {a : Act} {Q : Exit → Act → World → Prop} (hgd : o.guard = none) (d s : Operand) (dT sT : TypeId)
    (ho : o.op = .call { callee := .builtin .copy, args := #[d, s], argTypes := #[dT, sT] }) (elem : TypeId) (hu : P.underlying dT = some (.slice elem)) (hsz : (P.info? elem).map (·.size) = some 1)
    (dp sp : Option Addr) (dLen dCap sLen sCap : Nat) (hd : a.eval d = .slice dp dLen dCap) (hs : a.eval s = .slice sp sLen sCap) (g n t off : Nat) (zs xs ys : List Int)
    (hrow : w.rowIs g t n (fun j => .int .i64 (zs[j]?.getD 0))) (hzl : zs.length = n) (hx : Ints w sp sLen xs) (hys : ys = xs.take (Nat.min sLen dLen)) (hdp : 0 < ys.length → dp = some ⟨g, off, none⟩) (hfit : off + ys.length ≤ n)
    (h : ∀ w', w'.rowIs g t n (fun j => .int .i64 ((copyL zs off ys)[j]?.getD 0)) → But g w w' → Below 0 w w' → wpList P ops Q rest (a.put o.dst (goInt ys.length)) w') : wpList P ops Q (o :: rest) a w := by
  have hyl : ys.length = Nat.min sLen dLen := by
    rw [hys, List.length_take, hx.1]
    exact Nat.min_eq_left (Nat.min_le_left _ _)
  by_cases h0 : ys.length = 0
  · refine wpList_copy_nothing hgd d s dT sT ho elem hu hsz dp sp dLen dCap sLen sCap hd hs (by rw [← hyl]; exact h0) ?_
    have h' := h w (hrow.congr (fun j hj => ?_)) (But.refl _ _) (Below.refl _ _)
    · rw [h0] at h'; exact h'
    · rw [copyL_at zs off ys (by omega), if_neg (by omega)]
  · have hdp' := hdp (by omega)
    subst hdp'
    have hle : ys.length ≤ sLen := by rw [hyl]; exact Nat.min_le_left _ _
    obtain ⟨b, o', rfl, hb, hc⟩ := hx.at (by omega)
    obtain ⟨cur, hg, hcs, hcv⟩ := hrow
    refine wpList_copy_own hgd d s dT sT ho elem hu hsz g off dLen dCap ⟨b, o', none⟩ sLen sCap hd hs cur t hg (ys.map (Value.int .i64)) (by rw [List.length_map]; exact hyl) (fun j v hj => ?_) (by rw [List.length_map, hcs]; exact hfit) (fun v hv => ?_) ?_
    · have hjl : j < ys.length := by
        have := (List.getElem?_eq_some_iff.1 hj).1
        simpa using this
      rw [List.getElem?_map] at hj
      have hy : ys[j]? = some (xs[j]?.getD 0) := by
        rw [hys, List.getElem?_take_of_lt (by rw [← hyl]; exact hjl)]
        have : j < xs.length := by rw [hx.1]; omega
        simp [this]
      rw [hy] at hj
      simp only [Option.map_some, Option.some.injEq] at hj
      rw [← hj, Go.WideShapes.add_plain]
      exact hc j (by omega)
    · simp only [List.mem_map] at hv
      obtain ⟨x, _, rfl⟩ := hv
      rfl
    · have h' := h (w.setRow g (cur.toList.take off ++ (ys.map (Value.int .i64) ++ cur.toList.drop (off + (ys.map (Value.int .i64)).length))).toArray) ?_ ⟨fun x hx => setRow_other _ _ _ _ hx, by simp⟩ ⟨rfl, rfl, rfl, by simp, fun k hk => by omega⟩
      · rw [List.length_map] at h' ⊢; exact h'
      · refine ⟨_, setRow_heap _ _ _ _ _ _ hg, ?_, fun i hi => ?_⟩
        · simp [hcs]; omega
        · show _ = some (Value.int .i64 ((copyL zs off ys)[i]?.getD 0))
          rw [copyL_at zs off ys (by omega)]
          have hct : (cur.toList.take off).length = off := by simp [hcs]; omega
          have hcl : ∀ i, i < n → cur.toList[i]? = some (.int .i64 (zs[i]?.getD 0)) := fun i hi => by rw [Array.getElem?_toList]; exact hcv i hi
          rw [List.getElem?_toArray]
          by_cases c1 : i < off
          · rw [if_neg (by omega), List.getElem?_append_left (by omega), List.getElem?_take_of_lt c1, hcl i hi]
          · rw [List.getElem?_append_right (by omega), hct]
            by_cases c2 : i < off + ys.length
            · rw [if_pos ⟨by omega, c2⟩, List.getElem?_append_left (by simp; omega), List.getElem?_map]
              have : i - off < ys.length := by omega
              simp [this]
            · rw [if_neg (by omega), List.getElem?_append_right (by simp; omega), List.getElem?_drop, List.length_map]
              rw [show off + ys.length + (i - off - ys.length) = i by omega, hcl i hi]
end Go.Proofs.YteoobeldmicjhaaGreat.V
namespace Go.Proofs.YteoobeldmicjhaaGreat.V
set_option maxRecDepth 20000
open Go.RowKit

theorem size_int64 : (Tryz.prog.info? 2).map (·.size) = some 1 := by kernel_rfl

end Go.Proofs.YteoobeldmicjhaaGreat.V
namespace Go.Proofs.YteoobeldmicjhaaGreat.V
set_option maxRecDepth 20000
open Go.RowKit

theorem sub_at (xs : List Int) (f l k : Nat) (h : k < l) : (sub xs f l)[k]?.getD 0 = xs[f + k]?.getD 0 := by
  simp [sub, List.getElem?_take_of_lt h]
end Go.Proofs.YteoobeldmicjhaaGreat.V
namespace Go.Proofs.YteoobeldmicjhaaGreat.V
set_option maxRecDepth 20000
open Go.RowKit

/-- Rows of a list, by their numbers. -/
def takeL (xs ys : List Int) (long D n : Nat) : List Int := (List.range n).map fun j => if 0 ≤ ys[j / long]?.getD 0 ∧ ys[j / long]?.getD 0 < (D : Int) then xs[(ys[j / long]?.getD 0).toNat * long + j % long]?.getD 0 else 0
theorem takeL_at (xs ys : List Int) (long D n j : Nat) (h : j < n) : (takeL xs ys long D n)[j]?.getD 0 = if 0 ≤ ys[j / long]?.getD 0 ∧ ys[j / long]?.getD 0 < (D : Int) then xs[(ys[j / long]?.getD 0).toNat * long + j % long]?.getD 0 else 0 := by simp [takeL, h]
theorem takeL_length (xs ys : List Int) (long D n : Nat) : (takeL xs ys long D n).length = n := by simp [takeL]
/-- The rows that have come. -/
def rowsL (xs ys : List Int) (long D n t : Nat) : List Int := (List.range n).map fun j => if j < t * long then (takeL xs ys long D n)[j]?.getD 0 else 0
theorem rowsL_at (xs ys : List Int) (long D n t j : Nat) (h : j < n) : (rowsL xs ys long D n t)[j]?.getD 0 = if j < t * long then (takeL xs ys long D n)[j]?.getD 0 else 0 := by simp [rowsL, h]
theorem rowsL_length (xs ys : List Int) (long D n t : Nat) : (rowsL xs ys long D n t).length = n := by simp [rowsL]
theorem row_of {j t long : Nat} (h1 : t * long ≤ j) (h2 : j < t * long + long) : j / long = t ∧ j % long = j - t * long := by
  have e : j = t * long + (j - t * long) := by omega
  constructor
  · rw [e, row_div _ _ _ (by omega)]
  · rw [e, row_mod _ _ _ (by omega)]; omega
theorem rowsL_skip {xs ys : List Int} {long D n t : Nat} (hy : ¬ (0 ≤ ys[t]?.getD 0 ∧ ys[t]?.getD 0 < (D : Int))) (j : Nat) (hj : j < n) : (rowsL xs ys long D n t)[j]?.getD 0 = (rowsL xs ys long D n (t + 1))[j]?.getD 0 := by
  rw [rowsL_at _ _ _ _ _ _ _ hj, rowsL_at _ _ _ _ _ _ _ hj, Nat.add_mul, Nat.one_mul]
  by_cases h1 : j < t * long
  · rw [if_pos h1, if_pos (by omega)]
  · rw [if_neg h1]
    by_cases h2 : j < t * long + long
    · rw [if_pos h2, takeL_at _ _ _ _ _ _ hj, (row_of (by omega) h2).1, if_neg hy]
    · rw [if_neg h2]
theorem rowsL_copy {xs ys : List Int} {long D n t p : Nat} (hy : ys[t]?.getD 0 = (p : Int)) (hp : p < D) (ht : t * long + long ≤ n) (hl : p * long + long ≤ xs.length) (j : Nat) (hj : j < n) : (copyL (rowsL xs ys long D n t) (t * long) (sub xs (p * long) long))[j]?.getD 0 = (rowsL xs ys long D n (t + 1))[j]?.getD 0 := by
  have hsl : (sub xs (p * long) long).length = long := by simp [sub]; omega
  rw [copyL_at _ _ _ (by rw [hsl, rowsL_length]; exact ht), hsl, rowsL_at _ _ _ _ _ _ _ hj, rowsL_at _ _ _ _ _ _ _ hj, Nat.add_mul, Nat.one_mul]
  by_cases h1 : t * long ≤ j ∧ j < t * long + long
  · obtain ⟨e1, e2⟩ := row_of h1.1 h1.2
    rw [if_pos h1, if_pos h1.2, takeL_at _ _ _ _ _ _ hj, e1, e2, hy, if_pos ⟨by omega, by omega⟩, Int.toNat_natCast, sub_at _ _ _ _ (by omega)]
  · rw [if_neg h1]
    by_cases h2 : j < t * long
    · rw [if_pos h2, if_pos (by omega)]
    · rw [if_neg h2, if_neg (by omega)]

theorem nat_of' {a : Int} (h : 0 ≤ a) : ∃ p : Nat, a = (p : Int) := ⟨a.toNat, by omega⟩
theorem ints_off {w W W' : World} {g n : Nat} {a : Option Addr} {xs : List Int} (h : Ints w a n xs) (hb : Below w.heap.size w W) (hs : Save g W W') (ho : 0 < n → OffG g a) : Ints W' a n xs := by
  obtain ⟨h1, h2, h3, h4⟩ := h
  refine ⟨h1, h2, h3, ?_⟩
  by_cases h0 : n = 0
  · exact .inl h0
  · rcases h4 with h4 | ⟨b, off, e, hc⟩
    · exact .inl h4
    · have hl := lt_of_cell (hc 0 (by omega))
      simp only at hl
      exact .inr ⟨b, off, e, fun j hj => (World.cell?_of_block (w := W) (hs.1 b (by have := hb.size; omega) (ho (by omega) b off e))).trans ((hb.cell (p := ⟨b, off + j, none⟩) hl).trans (hc j hj))⟩

set_option maxRecDepth 100000 in
set_option maxHeartbeats 4000000 in
theorem takeRows_any (g n m long D : Nat) (da : Option Addr) (dl dc : Nat) (ds : List Int) (xa : Option Addr) (n1 xc : Nat) (xs : List Int) (ya : Option Addr) (yc : Nat) (ys : List Int) (w : World)
    (hd : Ints w da dl ds) (hdl : 0 < dl) (hD : ds[0]?.getD 0 = (D : Int)) (hx : Ints w xa n1 xs) (hy : Ints w ya m ys) (hxc : n1 ≤ xc) (hn : n = m * long) (hpos : 0 < n) (hn1 : n1 = D * long) (h6 : n ≤ 65536) (h61 : n1 ≤ 65536) (od : OffG g da) (ox : 0 < n1 → OffG g xa) (oy : OffG g ya) (hrow : w.rowIs g 2 n (fun _ => .int .i64 0)) :
    Calls Tryz.prog 46 #[.slice (some ⟨g, 0, none⟩) n n, .agg #[.slice da dl dc, .slice xa n1 xc], .slice ya m yc] w fun e w' => e = .returned (.tuple #[]) ∧ w'.rowIs g 2 n (fun j => .int .i64 ((takeL xs ys long D n)[j]?.getD 0)) ∧ Save g w w' := by
  have hgl : g < w.heap.size := hrow.lt
  have hm0 : 0 < m := Nat.pos_of_ne_zero (fun e => by rw [hn, e, Nat.zero_mul] at hpos; omega)
  have hl0 : 0 < long := Nat.pos_of_ne_zero (fun e => by rw [hn, e, Nat.mul_zero] at hpos; omega)
  have hlq : n / m = long := by rw [hn]; exact Nat.mul_div_cancel_left _ hm0
  have HQ : Hid (wrap64 ((n : Int) / (m : Int)) = (long : Int)) := by rw [Hid, wr_div n m h6, hlq]
  have hm6 : m ≤ 65536 := Nat.le_trans (by rw [hn]; exact Nat.le_mul_of_pos_right _ hl0) h6
  have HB1 := hide ((Below.refl w.heap.size w).alloc (Nat.le_refl _) (.cells #[.slice da dl dc, .slice xa n1 xc] 25))
  have HAR := hide (ArrAt.new w (.slice da dl dc) (.slice xa n1 xc))
  have HD := hide hd
  have HX := hide hx
  have HY := hide hy
  have HN := hide hn
  have HN1 := hide hn1
  have HDD := hide hD
  have HR := hide hrow
  have HOD := hide od
  have HOX := hide ox
  have HOY := hide oy
  have hn0 : ((m : Int) == 0) = false := by simp; omega
  have hmi : (m : Int) ≠ 0 := by omega
  clear hd hx hy hn hn1 hD hrow od ox oy hlq
  go_enter Tryz.func46, Tryz.ntmps46
  go_wp2_with fail
  simp only [HQ.out]
  have hl6 : long ≤ 65536 := Nat.le_trans (by rw [HN.out]; exact Nat.le_mul_of_pos_left _ hm0) h6
  go_loopw [17] (fun i wr => ∃ t : Nat, t ≤ m ∧ i = .int .i64 t ∧ wr.rowIs g 2 n (fun j => .int .i64 ((rowsL xs ys long D n t)[j]?.getD 0)) ∧ Save g (w.alloc (.cells #[.slice da dl dc, .slice xa n1 xc] 25)) wr) (fun i _ => m - (intOf i).toNat)
  case atStart => exact ⟨0, Nat.zero_le _, rfl, (HR.out.of_block (HB1.out.block g hgl)).congr (fun j hj => by rw [rowsL_at _ _ _ _ _ _ _ hj, if_neg (by omega)]), ⟨fun _ _ _ => rfl, Below.refl _ _⟩⟩
  case round =>
    obtain ⟨t, ht, rfl, hrow, hsv⟩ := hrel
    have HRW := hide hrow
    have HSV := hide hsv
    have HAR2 : Hid (ArrAt wr w.heap.size _ _) := (hsv.1 w.heap.size (by simp) (by omega)).trans HAR.out
    have HX2 := hide (ints_off HX.out HB1.out HSV.out HOX.out)
    have HY2 := hide (ints_off HY.out HB1.out HSV.out (fun _ => HOY.out))
    have HD2 := hide (ints_off HD.out HB1.out HSV.out (fun _ => HOD.out))
    obtain ⟨⟨a0, a1⟩, _⟩ := HAR2.out.cells
    clear hrow hsv
    by_cases hlt : t < m
    · obtain ⟨bd, od, rfl, _, hcd⟩ := HD2.out.at hdl
      have hc0 := hcd 0 hdl
      rw [HDD.out, Nat.add_zero] at hc0
      obtain ⟨by', oy', rfl, _, hcy⟩ := HY2.out.at hm0
      have hcy' := hcy t hlt
      obtain ⟨Y, hY⟩ : ∃ Y, Y = ys[t]?.getD 0 := ⟨_, rfl⟩
      rw [← hY] at hcy'
      have HYY := hide hY
      clear hcd hcy hY
      have i1 : (0 : Int) ≤ (t : Int) := Int.natCast_nonneg _
      have i2 : (t : Int) < (m : Int) := by omega
      have i3 : (0 : Int) < (dl : Int) := by omega
      by_cases hg0 : 0 ≤ Y
      case neg =>
        have d0 : decide (0 ≤ Y) = false := decide_eq_false hg0
        have HSK := hide (rowsL_skip (xs := xs) (long := long) (n := n) (D := D) (t := t) (ys := ys) (by rw [← HYY.out]; omega))
        go_wp2
        go_roundw
        case rel => exact ⟨t + 1, by omega, by go_num, HRW.out.congr (fun j hj => by rw [HSK.out j hj]), HSV.out⟩
        case measure => simp [intOf]; omega
      by_cases hg1 : Y < (D : Int)
      case neg =>
        have d0 : decide (0 ≤ Y) = true := decide_eq_true hg0
        have d1 : decide (Y < (D : Int)) = false := decide_eq_false hg1
        have HSK := hide (rowsL_skip (xs := xs) (long := long) (n := n) (D := D) (t := t) (ys := ys) (by rw [← HYY.out]; omega))
        go_wp2
        go_roundw
        case rel => exact ⟨t + 1, by omega, by go_num, HRW.out.congr (fun j hj => by rw [HSK.out j hj]), HSV.out⟩
        case measure => simp [intOf]; omega
      obtain ⟨p, rfl⟩ := nat_of' hg0
      have hpD : p < D := by omega
      obtain ⟨tl, htl⟩ : ∃ tl, tl = t * long := ⟨_, rfl⟩
      obtain ⟨pl, hpl⟩ : ∃ pl, pl = p * long := ⟨_, rfl⟩
      have htn : tl + long ≤ n := by
        rw [htl, HN.out]
        have : (t + 1) * long ≤ m * long := Nat.mul_le_mul_right _ hlt
        rw [Nat.add_mul, Nat.one_mul] at this
        exact this
      have hpn : pl + long ≤ n1 := by
        rw [hpl, HN1.out]
        have : (p + 1) * long ≤ D * long := Nat.mul_le_mul_right _ hpD
        rw [Nat.add_mul, Nat.one_mul] at this
        exact this
      have HTL := hide htl
      have HPL := hide hpl
      have w1 : IntKind.i64.wrap ((t : Int) * (long : Int)) = (tl : Int) := by rw [htl, ← Int.natCast_mul, wrap_in _ (by omega) (by omega)]
      have w2 : IntKind.i64.wrap ((p : Int) * (long : Int)) = (pl : Int) := by rw [hpl, ← Int.natCast_mul, wrap_in _ (by omega) (by omega)]
      have w2' : wrap64 ((p : Int) * (long : Int)) = (pl : Int) := by rw [w64]; exact w2
      have W2 := hide w2'
      clear htl hpl w2'
      obtain ⟨b, off, rfl, _, hcx⟩ := HX2.out.at (by omega)
      have d0 : decide ((0 : Int) ≤ (p : Int)) = true := decide_eq_true hg0
      have d1 : decide ((p : Int) < (D : Int)) = true := decide_eq_true hg1
      clear hcx
      go_wp2_with fail
      try simp only [W2.out]
      have j1 : (tl : Int) ≤ (n : Int) := by omega
      have j2 : (pl : Int) ≤ (pl : Int) + (long : Int) := by omega
      have j3 : (pl : Int) + (long : Int) ≤ (xc : Int) := by omega
      have j4 : (0 : Int) ≤ (tl : Int) := Int.natCast_nonneg _
      have j5 : (0 : Int) ≤ (pl : Int) := Int.natCast_nonneg _
      have j8 : IntKind.i64.wrap ((pl : Int) + (long : Int)) = (pl : Int) + (long : Int) := by rw [wrap_in _ (by omega) (by omega)]
      have j9 : ((pl : Int) + (long : Int)).toNat - pl = long := by omega
      have j6 : ¬ n = tl := by omega
      have j7 : ¬ xc = pl := by omega
      have hwa : wr.cell? ⟨w.heap.size, 1, none⟩ = some (.slice (some ⟨b, off, none⟩) n1 xc) := a1
      refine region_made 12 14 [fIs (.slice (some ⟨g, 0, none⟩) n n), fIs (.int .i64 (t : Int)), fIs (.int .i64 (long : Int)), fIs (.int .i64 (tl : Int)), fIs (.slice (some ⟨g, tl, none⟩) (n - tl) (n - tl)), fIs (.pointer (some ⟨w.heap.size, 1, none⟩)), fIs (.slice (some ⟨b, off, none⟩) n1 xc), fIs (.int .i64 (pl : Int)), fIs (.int .i64 (pl : Int)), fIs (.int .i64 (long : Int)), fIs (.int .i64 ((pl : Int) + (long : Int))), fIs (.slice (some ⟨b, off + pl, none⟩) long (xc - pl))] (by kernel_rfl) (by kernel_rfl) (by kernel_rfl) (fun _ ⟨_, _⟩ ⟨_, _⟩ _ e h => by cases e; exact h) ⟨fIs_good _, fIs_good _, fIs_good _, fIs_good _, fIs_good _, fIs_good _, fIs_good _, fIs_good _, fIs_good _, fIs_good _, fIs_good _, fIs_good _, trivial⟩ ?mk ?rest
      case mk =>
        refine ⟨fun u wz hb hd => ?_, fun u wz hb hd => ?_, fun u wz hb hd => ?_, fun u wz hb hd => ?_, fun u wz hb hd => ?_, fun u wz hb hd => ?_, fun u wz hb hd => ?_, fun u wz hb hd => ?_, fun u wz hb hd => ?_, fun u wz hb hd => ?_, fun u wz hb hd => ?_, fun u wz hb hd => ?_, trivial⟩
        all_goals simp only [Act.put, List.setIfInBounds_toArray, List.set_cons_zero, List.set_cons_succ]
        · go_simp
          exact ⟨rfl, Below.refl _ _, fun h => by cases h⟩
        · go_simp
          exact ⟨rfl, Below.refl _ _, fun h => by cases h⟩
        · go_simp
          exact ⟨rfl, Below.refl _ _, fun h => by cases h⟩
        · have e1 : u 1 = .int .i64 (t : Int) := hd 1 (by omega) (by kernel_rfl)
          have e2 : u 2 = .int .i64 (long : Int) := hd 2 (by omega) (by kernel_rfl)
          rw [e1, e2]
          go_simp
          exact ⟨rfl, Below.refl _ _, fun h => by cases h⟩
        · have e0 : u 0 = .slice (some ⟨g, 0, none⟩) n n := hd 0 (by omega) (by kernel_rfl)
          have e3 : u 3 = .int .i64 (tl : Int) := hd 3 (by omega) (by kernel_rfl)
          rw [e0, e3]
          go_simp
          exact ⟨rfl, Below.refl _ _, fun h => by cases h⟩
        · go_simp
          exact ⟨rfl, Below.refl _ _, fun h => by cases h⟩
        · have e5 : u 5 = .pointer (some ⟨w.heap.size, 1, none⟩) := hd 5 (by omega) (by kernel_rfl)
          rw [e5]
          have a1' := (hb.cell (p := ⟨w.heap.size, 1, none⟩) (lt_of_cell a1)).trans a1
          go_simp
          exact ⟨rfl, Below.refl _ _, fun h => by cases h⟩
        · go_simp
          exact ⟨rfl, Below.refl _ _, fun h => by cases h⟩
        · go_simp
          exact ⟨rfl, Below.refl _ _, fun h => by cases h⟩
        · go_simp
          exact ⟨rfl, Below.refl _ _, fun h => by cases h⟩
        · have e8 : u 8 = .int .i64 (pl : Int) := hd 8 (by omega) (by kernel_rfl)
          have e9 : u 9 = .int .i64 (long : Int) := hd 9 (by omega) (by kernel_rfl)
          rw [e8, e9]
          go_simp
          exact ⟨rfl, Below.refl _ _, fun h => by cases h⟩
        · have e6 : u 6 = .slice (some ⟨b, off, none⟩) n1 xc := hd 6 (by omega) (by kernel_rfl)
          have e7 : u 7 = .int .i64 (pl : Int) := hd 7 (by omega) (by kernel_rfl)
          have e10 : u 10 = .int .i64 ((pl : Int) + (long : Int)) := hd 10 (by omega) (by kernel_rfl)
          rw [e6, e7, e10]
          go_simp
          exact ⟨rfl, Below.refl _ _, fun h => by cases h⟩
      case rest =>
        intro u wz hb hf hp
        have f0 : u 0 = .slice (some ⟨g, 0, none⟩) n n := hf 0 (by omega)
        have f1 : u 1 = .int .i64 (t : Int) := hf 1 (by omega)
        have f2 : u 2 = .int .i64 (long : Int) := hf 2 (by omega)
        have f3 : u 3 = .int .i64 (tl : Int) := hf 3 (by omega)
        have f4 : u 4 = .slice (some ⟨g, tl, none⟩) (n - tl) (n - tl) := hf 4 (by omega)
        have f5 : u 5 = .pointer (some ⟨w.heap.size, 1, none⟩) := hf 5 (by omega)
        have f6 : u 6 = .slice (some ⟨b, off, none⟩) n1 xc := hf 6 (by omega)
        have f7 : u 7 = .int .i64 (pl : Int) := hf 7 (by omega)
        have f8 : u 8 = .int .i64 (pl : Int) := hf 8 (by omega)
        have f9 : u 9 = .int .i64 (long : Int) := hf 9 (by omega)
        have f10 : u 10 = .int .i64 ((pl : Int) + (long : Int)) := hf 10 (by omega)
        have f11 : u 11 = .slice (some ⟨b, off + pl, none⟩) long (xc - pl) := hf 11 (by omega)
        refine UptoW.rest 1 12 (by rfl) (by kernel_rfl) ?_
        simp only [List.take, List.drop, putOps, Act.put, List.setIfInBounds_toArray, List.set_cons_zero, List.set_cons_succ, Nat.reduceAdd, f0, f1, f2, f3, f4, f5, f6, f7, f8, f9, f10, f11]
        clear f0 f1 f2 f3 f4 f5 f6 f7 f8 f9 f10 f11 hf hp
        have HXS := hide (ints_sub (HX2.out.below hb) pl long hpn)
        have hsl : (sub xs pl long).length = long := HXS.out.1
        have hrz : wz.rowIs g 2 n (fun j => .int .i64 ((rowsL xs ys long D n t)[j]?.getD 0)) := HRW.out.of_block (hb.block g HRW.out.lt)
        have hmin : Nat.min long (n - tl) = long := Nat.min_eq_left (by omega)
        refine wpList_copy_row rfl (.tmp 39) (.tmp 46) 23 23 rfl 2 Tryz.underlying23 size_int64 (some ⟨g, tl, none⟩) (some ⟨b, off + pl, none⟩) (n - tl) (n - tl) long (xc - pl) rfl rfl g n 2 tl (rowsL xs ys long D n t) (sub xs pl long) (sub xs pl long) hrz (rowsL_length _ _ _ _ _ _) HXS.out (by rw [hmin, List.take_of_length_le (by omega)]) (fun _ => rfl) (by omega) (fun w4 hr4 hbut h04 => wpList_nil ?_)
        have hrf : w4.rowIs g 2 n (fun j => .int .i64 ((rowsL xs ys long D n (t + 1))[j]?.getD 0)) := hr4.congr (fun j hj => by rw [HTL.out, HPL.out, rowsL_copy HYY.out.symm hpD (by rw [← HTL.out]; exact htn) (by rw [← HPL.out, HX.out.1]; exact hpn) j hj])
        have HRF := hide hrf
        have HS4 : Hid (Save g (w.alloc (.cells #[.slice (some ⟨bd, od, none⟩) dl dc, .slice (some ⟨b, off, none⟩) n1 xc] 25)) w4) := ⟨fun c h1 h2 => ((hbut.1 c h2).trans (hb.block c (Nat.lt_of_lt_of_le h1 HSV.out.2.size))).trans (HSV.out.1 c h1 h2), (HSV.out.2.trans (hb.mono (Nat.zero_le _))).trans h04⟩
        clear hr4 hbut h04 hrf hrz hmin hsl
        go_wp2
        go_roundw
        case rel => exact ⟨t + 1, by omega, by go_num, HRF.out, HS4.out⟩
        case measure => simp [intOf]; omega
    · obtain rfl : t = m := by omega
      go_wp2
      exact bodyPost_end (v := .tuple #[]) (by simp [results, Tryz.results46, go_sem]) rfl ⟨rfl, HRW.out.congr (fun j hj => by rw [rowsL_at _ _ _ _ _ _ _ hj, if_pos (by rw [← HN.out]; exact hj)]), ⟨fun c h1 h2 => (HSV.out.1 c (by simp; omega) h2).trans (HB1.out.block c h1), (HB1.out.mono (Nat.zero_le _)).trans HSV.out.2⟩⟩
end Go.Proofs.YteoobeldmicjhaaGreat.V
namespace Go.Proofs.YteoobeldmicjhaaGreat.V
set_option maxRecDepth 20000
open Go.RowKit

/-- The sums of rows that have one number, of the first m rows. -/
def putL (xs ys : List Int) (long n m : Nat) : List Int := (List.range n).map fun j => IntKind.i64.wrap (sumN (fun t => if ys[t]?.getD 0 = ((j / long : Nat) : Int) then xs[t * long + j % long]?.getD 0 else 0) m)
theorem putL_at (xs ys : List Int) (long n m j : Nat) (h : j < n) : (putL xs ys long n m)[j]?.getD 0 = IntKind.i64.wrap (sumN (fun t => if ys[t]?.getD 0 = ((j / long : Nat) : Int) then xs[t * long + j % long]?.getD 0 else 0) m) := by simp [putL, h]
theorem putL_length (xs ys : List Int) (long n m : Nat) : (putL xs ys long n m).length = n := by simp [putL]
theorem putL_zero (xs ys : List Int) (long n j : Nat) : (putL xs ys long n 0)[j]?.getD 0 = 0 := by
  by_cases h : j < n
  · rw [putL_at _ _ _ _ _ _ h, sumN, wrap_in _ (by omega) (by omega)]
  · rw [List.getElem?_eq_none (by rw [putL_length]; omega)]; rfl
theorem putL_succ {xs ys : List Int} {long n t j : Nat} (h : j < n) : (putL xs ys long n (t + 1))[j]?.getD 0 = if ys[t]?.getD 0 = ((j / long : Nat) : Int) then IntKind.i64.wrap ((putL xs ys long n t)[j]?.getD 0 + xs[t * long + j % long]?.getD 0) else (putL xs ys long n t)[j]?.getD 0 := by
  rw [putL_at _ _ _ _ _ _ h, putL_at _ _ _ _ _ _ h, sumN]
  by_cases c : ys[t]?.getD 0 = ((j / long : Nat) : Int)
  · rw [if_pos c, if_pos c, wrap_addl]
  · rw [if_neg c, if_neg c, Int.add_zero]
/-- A row on the way. -/
def putM (xs ys : List Int) (long n t p k : Nat) (j : Nat) : Int := if p * long ≤ j ∧ j < p * long + k then (putL xs ys long n (t + 1))[j]?.getD 0 else (putL xs ys long n t)[j]?.getD 0
theorem putM_zero (xs ys : List Int) (long n t p j : Nat) : putM xs ys long n t p 0 j = (putL xs ys long n t)[j]?.getD 0 := by
  unfold putM; rw [if_neg (by omega)]
theorem putM_all {xs ys : List Int} {long n t p j : Nat} (hy : ys[t]?.getD 0 = (p : Int)) (h : j < n) (hl : 0 < long) : putM xs ys long n t p long j = (putL xs ys long n (t + 1))[j]?.getD 0 := by
  unfold putM
  by_cases c : p * long ≤ j ∧ j < p * long + long
  · rw [if_pos c]
  · rw [if_neg c, putL_succ h, if_neg]
    rw [hy]
    intro e
    have e' : j / long = p := by omega
    have h1 := Nat.div_add_mod j long
    have h2 := Nat.mod_lt j hl
    rw [e', Nat.mul_comm] at h1
    omega
theorem putM_at {xs ys : List Int} {long n t p k : Nat} : putM xs ys long n t p k (p * long + k) = (putL xs ys long n t)[p * long + k]?.getD 0 := by
  unfold putM; rw [if_neg (by omega)]
theorem putM_succ {xs ys : List Int} {long n t p k j : Nat} (hy : ys[t]?.getD 0 = (p : Int)) (hk : k < long) (hn : p * long + k < n) : (if j = p * long + k then IntKind.i64.wrap ((putL xs ys long n t)[p * long + k]?.getD 0 + xs[t * long + k]?.getD 0) else putM xs ys long n t p k j) = putM xs ys long n t p (k + 1) j := by
  by_cases e : j = p * long + k
  · rw [if_pos e, e, putM, if_pos (by omega), putL_succ hn, row_div _ _ _ hk, row_mod _ _ _ hk, if_pos hy]
  · rw [if_neg e, putM, putM]
    by_cases c : p * long ≤ j ∧ j < p * long + k
    · rw [if_pos c, if_pos (by omega)]
    · rw [if_neg c, if_neg (by omega)]

set_option maxRecDepth 100000 in
set_option maxHeartbeats 4000000 in
theorem putRows_any (g n m long D : Nat) (Z : Option Addr) (nz cz : Nat) (L : List Int) (xa : Option Addr) (n1 xc : Nat) (xs : List Int) (ya : Option Addr) (yc : Nat) (ys : List Int) (w : World)
    (hz : Ints w Z nz L) (hnz : 0 < nz) (hD : L[0]?.getD 0 = (D : Int)) (hx : Ints w xa n1 xs) (hy : Ints w ya m ys) (hxc : n1 ≤ xc) (hn : n = D * long) (hpos : 0 < n) (hn1 : n1 = m * long) (h6 : n ≤ 65536) (h61 : n1 ≤ 65536) (ox : 0 < n1 → OffG g xa) (oy : 0 < m → OffG g ya) (hrow : w.rowIs g 2 n (fun _ => .int .i64 0)) :
    Calls Tryz.prog 47 #[.agg #[.slice Z nz cz, .slice (some ⟨g, 0, none⟩) n n], .slice xa n1 xc, .slice ya m yc] w fun e w' => e = .returned (.tuple #[]) ∧ w'.rowIs g 2 n (fun j => .int .i64 ((putL xs ys long n m)[j]?.getD 0)) ∧ Save g w w' := by
  have hgl : g < w.heap.size := hrow.lt
  have hD0 : 0 < D := Nat.pos_of_ne_zero (fun e => by rw [hn, e, Nat.zero_mul] at hpos; omega)
  have hl0 : 0 < long := Nat.pos_of_ne_zero (fun e => by rw [hn, e, Nat.mul_zero] at hpos; omega)
  have hlq : n / D = long := by rw [hn]; exact Nat.mul_div_cancel_left _ hD0
  have HQ : Hid (wrap64 ((n : Int) / (D : Int)) = (long : Int)) := by rw [Hid, wr_div n D h6, hlq]
  have hD6 : D ≤ 65536 := Nat.le_trans (by rw [hn]; exact Nat.le_mul_of_pos_right _ hl0) h6
  have hl6 : long ≤ 65536 := Nat.le_trans (by rw [hn]; exact Nat.le_mul_of_pos_left _ hD0) h6
  have hm6 : m ≤ 65536 := Nat.le_trans (by rw [hn1]; exact Nat.le_mul_of_pos_right _ hl0) h61
  have HB1 := hide ((Below.refl w.heap.size w).alloc (Nat.le_refl _) (.cells #[.slice Z nz cz, .slice (some ⟨g, 0, none⟩) n n] 25))
  have HAR := hide (ArrAt.new w (.slice Z nz cz) (.slice (some ⟨g, 0, none⟩) n n))
  obtain ⟨bz, oz', rfl, _, hcz⟩ := hz.at hnz
  have hc0 := hcz 0 hnz
  rw [hD, Nat.add_zero] at hc0
  have hc0' := (HB1.out.cell (p := ⟨bz, oz', none⟩) (lt_of_cell hc0)).trans hc0
  have HX := hide hx
  have HY := hide hy
  have HN := hide hn
  have HN1 := hide hn1
  have HR := hide hrow
  have HOX := hide ox
  have HOY := hide oy
  have i3 : (0 : Int) < (nz : Int) := by omega
  have hDi : (D : Int) ≠ 0 := by omega
  obtain ⟨⟨a0, a1⟩, _⟩ := HAR.out.cells
  clear hz hx hy hn hn1 hD hrow ox oy hlq hcz hc0
  go_enter Tryz.func47, Tryz.ntmps47
  go_wp2_with fail
  simp only [HQ.out]
  clear a0 a1 hc0'
  go_loopw [24] (fun i wr => ∃ t : Nat, t ≤ m ∧ i = .int .i64 t ∧ wr.rowIs g 2 n (fun j => .int .i64 ((putL xs ys long n t)[j]?.getD 0)) ∧ Save g (w.alloc (.cells #[.slice (some ⟨bz, oz', none⟩) nz cz, .slice (some ⟨g, 0, none⟩) n n] 25)) wr) (fun i _ => m - (intOf i).toNat)
  case atStart => exact ⟨0, Nat.zero_le _, rfl, (HR.out.of_block (HB1.out.block g hgl)).congr (fun j hj => by rw [putL_zero]), ⟨fun _ _ _ => rfl, Below.refl _ _⟩⟩
  case round =>
    obtain ⟨t, ht, rfl, hrow, hsv⟩ := hrel
    have HRW := hide hrow
    have HSV := hide hsv
    have HAR2 : Hid (ArrAt wr w.heap.size _ _) := (hsv.1 w.heap.size (by simp) (by omega)).trans HAR.out
    have HX2 := hide (ints_off HX.out HB1.out HSV.out HOX.out)
    have HY2 := hide (ints_off HY.out HB1.out HSV.out HOY.out)
    obtain ⟨⟨a0, a1⟩, _⟩ := HAR2.out.cells
    clear hrow hsv
    by_cases hlt : t < m
    · obtain ⟨by', oy', rfl, _, hcy⟩ := HY2.out.at (by omega)
      have hcy' := hcy t hlt
      obtain ⟨Y, hY⟩ : ∃ Y, Y = ys[t]?.getD 0 := ⟨_, rfl⟩
      rw [← hY] at hcy'
      have HYY := hide hY
      clear hcy hY
      have i1 : (0 : Int) ≤ (t : Int) := Int.natCast_nonneg _
      have i2 : (t : Int) < (m : Int) := by omega
      have HSK : Hid (¬ (0 ≤ Y ∧ Y < (D : Int)) → ∀ j, j < n → (putL xs ys long n t)[j]?.getD 0 = (putL xs ys long n (t + 1))[j]?.getD 0) := fun hb j hj => by
        rw [putL_succ hj, if_neg]
        rw [← HYY.out]
        intro e
        have : j / long < D := by rw [HN.out] at hj; exact div_row hj
        rw [e] at hb
        exact hb ⟨Int.natCast_nonneg _, Int.ofNat_lt.2 this⟩
      by_cases hg0 : Y < 0
      case pos =>
        have d0 : decide (Y < 0) = true := decide_eq_true hg0
        go_wp2
        go_roundw
        case rel => exact ⟨t + 1, by omega, by go_num, HRW.out.congr (fun j hj => by rw [HSK.out (by omega) j hj]), HSV.out⟩
        case measure => simp [intOf]; omega
      by_cases hg1 : (D : Int) ≤ Y
      case pos =>
        have d0 : decide (Y < 0) = false := decide_eq_false hg0
        have d1 : decide ((D : Int) ≤ Y) = true := decide_eq_true hg1
        go_wp2
        go_roundw
        case rel => exact ⟨t + 1, by omega, by go_num, HRW.out.congr (fun j hj => by rw [HSK.out (by omega) j hj]), HSV.out⟩
        case measure => simp [intOf]; omega
      obtain ⟨p, rfl⟩ := nat_of' (show 0 ≤ Y by omega)
      have hpD : p < D := by omega
      obtain ⟨tl, htl⟩ : ∃ tl, tl = t * long := ⟨_, rfl⟩
      obtain ⟨pl, hpl⟩ : ∃ pl, pl = p * long := ⟨_, rfl⟩
      have htn : tl + long ≤ n1 := by
        rw [htl, HN1.out]
        have : (t + 1) * long ≤ m * long := Nat.mul_le_mul_right _ hlt
        rw [Nat.add_mul, Nat.one_mul] at this
        exact this
      have hpn : pl + long ≤ n := by
        rw [hpl, HN.out]
        have : (p + 1) * long ≤ D * long := Nat.mul_le_mul_right _ hpD
        rw [Nat.add_mul, Nat.one_mul] at this
        exact this
      have HTL := hide htl
      have HPL := hide hpl
      have w1 : IntKind.i64.wrap ((t : Int) * (long : Int)) = (tl : Int) := by rw [htl, ← Int.natCast_mul, wrap_in _ (by omega) (by omega)]
      have w2 : IntKind.i64.wrap ((p : Int) * (long : Int)) = (pl : Int) := by rw [hpl, ← Int.natCast_mul, wrap_in _ (by omega) (by omega)]
      have w3 : IntKind.i64.wrap (((t : Int) + 1) * (long : Int)) = (tl : Int) + (long : Int) := by rw [Int.add_mul, Int.one_mul, ← Int.natCast_mul, ← htl, wrap_in _ (by omega) (by omega)]
      have W1 : Hid (wrap64 ((t : Int) * (long : Int)) = (tl : Int)) := by rw [Hid, w64]; exact w1
      have W2 : Hid (wrap64 ((p : Int) * (long : Int)) = (pl : Int)) := by rw [Hid, w64]; exact w2
      have W3 : Hid (wrap64 (((t : Int) + 1) * (long : Int)) = (tl : Int) + (long : Int)) := by rw [Hid, w64]; exact w3
      clear htl hpl
      obtain ⟨b, off, rfl, _, _⟩ := HX2.out.at (by omega)
      have d0 : decide ((p : Int) < 0) = false := decide_eq_false hg0
      have d1 : decide ((D : Int) ≤ (p : Int)) = false := decide_eq_false hg1
      have j1 : (pl : Int) ≤ (n : Int) := by omega
      have j2 : (tl : Int) ≤ (tl : Int) + (long : Int) := by omega
      have j3 : (tl : Int) + (long : Int) ≤ (xc : Int) := by omega
      have j4 : (0 : Int) ≤ (tl : Int) := Int.natCast_nonneg _
      have j5 : (0 : Int) ≤ (pl : Int) := Int.natCast_nonneg _
      have j6 : ¬ n = pl := by omega
      have j7 : ¬ xc = tl := by omega
      have j9 : ((tl : Int) + (long : Int)).toNat - tl = long := by omega
      go_wp2_with fail
      clear a0 a1
      go_loopw [52] (fun i wq => ∃ k : Nat, k ≤ long ∧ i = .int .i64 k ∧ wq.rowIs g 2 n (fun j => .int .i64 (putM xs ys long n t p k j)) ∧ Save g (w.alloc (.cells #[.slice (some ⟨bz, oz', none⟩) nz cz, .slice (some ⟨g, 0, none⟩) n n] 25)) wq) (fun i _ => long - (intOf i).toNat)
      case atStart => exact ⟨0, Nat.zero_le _, rfl, HRW.out.congr (fun j hj => by rw [putM_zero]), HSV.out⟩
      case round =>
        obtain ⟨k, hk, rfl, hrow, hsv⟩ := hrel
        have HRK := hide hrow
        have HSK2 := hide hsv
        have HX3 := hide (ints_off HX.out HB1.out HSK2.out HOX.out)
        clear hrow hsv
        by_cases hkl : k < long
        · obtain ⟨b2, off2, e2, _, hcx⟩ := HX3.out.at (by omega)
          cases e2
          have cx := hcx (tl + k) (by omega)
          rw [← Nat.add_assoc] at cx
          have cr := HRK.out.cell (show pl + k < n by omega)
          have cf := HRK.out.frozen (pl + k)
          rw [HPL.out, putM_at, ← HPL.out] at cr
          obtain ⟨X, hX⟩ : ∃ X, X = xs[tl + k]?.getD 0 := ⟨_, rfl⟩
          obtain ⟨R, hR⟩ : ∃ R, R = (putL xs ys long n t)[pl + k]?.getD 0 := ⟨_, rfl⟩
          rw [← hX] at cx
          rw [← hR] at cr
          have HXX := hide hX
          have HRR := hide hR
          have k1 : (0 : Int) ≤ (k : Int) := Int.natCast_nonneg _
          have k2 : (k : Int) < (long : Int) := by omega
          have k3 : (k : Int) < ((n - pl : Nat) : Int) := by omega
          have k4 : k < n - pl := by omega
          clear hcx hX hR
          go_wp2
          go_roundw
          case rel =>
            refine ⟨k + 1, by omega, by go_num, (HRK.out.set (pl + k) (.int .i64 (wrap64 (R + X)))).congr (fun j _ => ?_), ⟨fun c h1 h2 => (Below.heap_setCell _ ⟨g, pl + k, none⟩ _ c (by simpa using h2)).trans (HSK2.out.1 c h1 h2), HSK2.out.2.setCell (p := ⟨g, pl + k, none⟩) (Nat.zero_le _) _⟩⟩
            rw [← putM_succ HYY.out.symm hkl (by rw [← HPL.out]; omega), ← HPL.out, ← HTL.out, ← HXX.out, ← HRR.out, w64]
            by_cases e : j = pl + k
            · rw [if_pos e, if_pos e]
            · rw [if_neg e, if_neg e]
          case measure => simp [intOf]; omega
        · obtain rfl : k = long := by omega
          go_wp2
          go_roundw
          case rel => exact ⟨t + 1, by omega, by go_num, HRK.out.congr (fun j hj => by rw [putM_all HYY.out.symm hj hl0]), HSK2.out⟩
          case measure => simp [intOf]; omega
    · obtain rfl : t = m := by omega
      go_wp2
      exact bodyPost_end (v := .tuple #[]) (by simp [results, Tryz.results47, go_sem]) rfl ⟨rfl, HRW.out, ⟨fun c h1 h2 => (HSV.out.1 c (by simp; omega) h2).trans (HB1.out.block c h1), (HB1.out.mono (Nat.zero_le _)).trans HSV.out.2⟩⟩
end Go.Proofs.YteoobeldmicjhaaGreat.V
