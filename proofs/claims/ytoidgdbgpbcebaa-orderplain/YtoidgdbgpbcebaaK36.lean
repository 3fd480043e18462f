/-
  slices.Delete at the program's spots: one is taken out of a part of a row. Who is next: order.picker and what it hands back. order.inTurn: what stands while spots are taken out one by one. order.inTurn: the spots in the order in which they are done. slices.Chunk of the program's spots.
-/
import Derived.Test.YtoidgdbgpbcebaaK34
import Derived.Deep.AppendSrc
import Derived.Test.YtoidgdbgpbcebaaK35
import Derived.OwnWalk
import Derived.Test.YtoidgdbgpbcebaaK22
import Derived.Test.YtoidgdbgpbcebaaK15
namespace Go.Proofs.Ytoidgdbgpbcebaa.V
open Go Go.Shelf Go.RowKit Go.Lib Go.Sort Go.Proofs Go.Proofs.Ytoidgdbgpbcebaa.S
set_option linter.unusedVariables false

theorem tw_one (u : TW) : ∀ v ∈ twCs u, v.oneCell' = true := fun v hv => by
  unfold twCs TW.cs at hv
  simp only [List.mem_cons, List.not_mem_nil, or_false] at hv
  rcases hv with rfl | rfl | rfl | rfl | rfl | rfl | rfl | rfl | rfl | rfl | rfl | rfl | rfl | rfl | rfl <;> rfl
theorem tws_one (l : List TW) : ∀ v ∈ l.flatMap twCs, v.oneCell' = true := fun v hv => by
  rw [List.mem_flatMap] at hv
  obtain ⟨u, _, h⟩ := hv
  exact tw_one u v h
/-- The words of a part of a row. -/
theorem RowS.read {W : World} {g n : Nat} {us : Nat → TW} (h : RowS W g n us) (o : Nat) (l : List TW) (hl : o + l.length ≤ n) (e : ∀ j, j < l.length → l[j]?.getD twD = us (o + j)) : ∀ j v, (l.flatMap twCs)[j]? = some v → W.cell? ((⟨g, o * 15, none⟩ : Addr).add j) = some v := fun j v hv => by
  have hj : j < l.length * 15 := by rw [← flat_len]; exact (List.getElem?_eq_some_iff.1 hv).1
  rw [Go.WideShapes.add_plain]
  have h1 := flat_get l (j / 15) (j % 15) (by omega) (by omega)
  rw [show j / 15 * 15 + j % 15 = j by omega, hv, e _ (by omega)] at h1
  have h2 := h.at_ (o + j / 15) (by omega) (j % 15) (by omega)
  rw [show (o + j / 15) * 15 + j % 15 = o * 15 + j by omega] at h2
  rw [h2, ← h1]
/-- append(s, t...), where there is room, at the operation. -/
theorem app_room {w : World} {ops : Array Oper} {rest : List Oper} {op : Oper} {a : Act} {Q : Exit → Act → World → Prop} (hgd : op.guard = none) (s x : Operand)
    (ho : op.op = .call { callee := .builtin .append, args := #[s, x], argTypes := #[48, 48] }) (g n : Nat) (us : Nat → TW) (hrow : RowS w g n us) (o sl sc : Nat) (hs : a.eval s = .slice (some ⟨g, o * 15, none⟩) sl sc)
    (ax : Addr) (l : List TW) (c : Nat) (hx : a.eval x = .slice (some ax) l.length c) (hnews : ∀ j u, (l.flatMap twCs)[j]? = some u → w.cell? (ax.add j) = some u) (hroom : sl + l.length ≤ sc) (hn : o + sl + l.length ≤ n)
    (h : wpList Try.prog ops Q rest (a.put op.dst (.slice (some ⟨g, o * 15, none⟩) (sl + l.length) sc)) (w.setCells g ((o + sl) * 15) (l.flatMap twCs))) : wpList Try.prog ops Q (op :: rest) a w := by
  obtain ⟨i0, hi, hz0, hz1, hz2⟩ := info_parts info_T
  refine wpList_plain hgd fun K hK => ?_
  have hl := flat_len l
  have hr := run_append_room_src (P := Try.prog) w 48 48 op.type 59 i0 Try.underlying48 hi g (o * 15) sl sc (.slice (some ax) l.length c) l.length (l.flatMap twCs) (Src.ofSlice w Try.underlying48 ax l.length c _ (by rw [hz1]; exact hl) hnews (tws_one l)) hroom (fun j hj => by
    rw [hz1, show o * 15 + sl * 15 + j = (o + sl) * 15 + j by omega]
    obtain ⟨v, hv⟩ := hrow.cell (t := (o + sl) * 15 + j) (by rw [hl] at hj; omega)
    rw [hv]
    rfl) (fun j _ => hrow.free _)
  rw [hz1, show o * 15 + sl * 15 = (o + sl) * 15 by omega] at hr
  unfold Oper.wp execOp
  simp only [ho, resolve, invoke, builtin, Sem.run_bind, Sem.run_pure, Result.andThen_ok, List.map_toArray, List.map_cons, List.map_nil, hs, hx, hr]
  exact hK _ _ h
/-- clear of one spot. -/
theorem clear_run {w : World} (ty : TypeId) (g n : Nat) (us : Nat → TW) (hrow : RowS w g n us) (p c q : Nat) (hq : q = p * 15) (hp : p < n) : (Builtin.clear_ #[48] ty #[.slice (some ⟨g, q, none⟩) 1 c]).run Try.prog w = .ok (.tuple #[]) (w.setCells g (p * 15) (twCs twD)) := by
  subst hq
  have hst := run_storeCells_cells (P := Try.prog) g (p * 15) (twCs twD) 0 w (fun j hj => by
    obtain ⟨v, hv⟩ := hrow.cell (t := p * 15 + j) (by rw [twCs_len] at hj; omega)
    simpa using by rw [hv]; rfl) (fun j _ => by simpa using hrow.free _) (tw_one twD)
  simp only [Nat.add_zero] at hst
  have hzd : (Builtin.zeroCells (Value.agg #[.int .i64 0, .slice none 0 0, .int .i64 0, .int .i64 0, .int .i64 0, .int .i64 0, .int .i64 0, .int .i64 0, .int .i64 0, .int .i64 0, .int .i64 0, .int .i64 0, .int .i64 0, .int .i64 0, .slice none 0 0]).cells 1).toList = twCs twD := by kernel_rfl
  simp [Builtin.clear_, run_underlying Try.underlying48, hzd, hst]
/-- A row out of which one has been taken. -/
def outU (us : Nat → TW) (o k m : Nat) (j : Nat) : TW := if o + k ≤ j ∧ j + 1 < o + m then us (j + 1) else if j + 1 = o + m then twD else us j
set_option maxRecDepth 100000 in
set_option maxHeartbeats 4000000 in
theorem delete_any (g n : Nat) (us : Nat → TW) (o m c k : Nat) (w : World) (h : RowS w g n us) (ho : o + m ≤ n) (hk : k < m) (hmc : m ≤ c) (hc : c ≤ 9223372036854775807) :
    Calls Try.prog 52 #[.slice (some ⟨g, o * 15, none⟩) m c, .int .i64 k, .int .i64 ((k : Int) + 1)] w fun e w' => e = .returned (.slice (some ⟨g, o * 15, none⟩) (m - 1) c) ∧ RowS w' g n (outU us o k m) ∧ Rw g w w' := by
  have HR := hide h
  have hg := h.lt
  clear h
  obtain ⟨M, rfl⟩ : ∃ M, m = M + 1 := ⟨m - 1, by omega⟩
  rw [Nat.add_sub_cancel]
  obtain ⟨L0, hL0⟩ : ∃ L0, L0 = (List.range (M - k)).map (fun j => us (o + k + 1 + j)) := ⟨_, rfl⟩
  have hL : M - k = L0.length := by rw [hL0]; simp
  have HL0 : Hid (∀ j, j < L0.length → L0[j]?.getD twD = us (o + k + 1 + j)) := fun j hj => by
    rw [← hL] at hj
    rw [hL0]
    simp [hj]
  have hLM : k + L0.length = M := by omega
  have hLM2 : M + 1 - (k + 1) = L0.length := by omega
  have hne : ((k : Int) == (k : Int) + 1) = false := by
    rw [Bool.eq_false_iff]
    intro h
    have := eq_of_beq h
    omega
  have hcM : c ≠ M := by omega
  clear hL0
  have i1 : (k : Int) ≤ (k : Int) + 1 := by omega
  have i8 : (0 : Int) ≤ (k : Int) + 1 := by omega
  have i9 : (0 : Int) ≤ (M : Int) + 1 := by omega
  have i2 : (k : Int) + 1 ≤ (M : Int) + 1 := by omega
  have i3 : k ≤ c := by omega
  have i4 : (M : Int) + 1 ≤ (c : Int) := by omega
  have i5 : M ≤ c := by omega
  by_cases hck : c = k + 1
  · have hz : L0 = [] := List.eq_nil_of_length_eq_zero (by omega)
    have hMk : M = k := by omega
    subst hz
    subst hMk
    subst hck
    clear hL hLM hLM2 i2 i3 i4 i5 hmc
    go_enter Try.func52, Try.ntmps52
    go_wp2_with fail
    refine region_made 6 8 [fIs (.slice (some ⟨g, o * 15, none⟩) (M + 1) (M + 1)), fIs (.int .i64 (M : Int)), fIs (.slice (some ⟨g, o * 15, none⟩) M (M + 1)), fIs (.slice (some ⟨g, o * 15, none⟩) (M + 1) (M + 1)), fIs (.int .i64 ((M : Int) + 1)), fIs (.slice (some ⟨g, o * 15, none⟩) 0 (0))] (by kernel_rfl) (by kernel_rfl) (by kernel_rfl) (fun _ ⟨_, _⟩ ⟨_, _⟩ _ e h => by cases e; exact h) ⟨fIs_good _, fIs_good _, fIs_good _, fIs_good _, fIs_good _, fIs_good _, trivial⟩ ?mk ?rest
    case mk =>
      refine ⟨fun u wz hb hd => ?_, fun u wz hb hd => ?_, fun u wz hb hd => ?_, fun u wz hb hd => ?_, fun u wz hb hd => ?_, fun u wz hb hd => ?_, trivial⟩
      all_goals simp only [Act.put, List.setIfInBounds_toArray, List.set_cons_zero, List.set_cons_succ]
      · go_simp
        exact ⟨rfl, Below.refl _ _, fun h => by cases h⟩
      · go_simp
        exact ⟨rfl, Below.refl _ _, fun h => by cases h⟩
      · have e0 : u 0 = .slice (some ⟨g, o * 15, none⟩) (M + 1) (M + 1) := hd 0 (by omega) (by kernel_rfl)
        have e1 : u 1 = .int .i64 (M : Int) := hd 1 (by omega) (by kernel_rfl)
        rw [e0, e1]
        go_simp
        exact ⟨rfl, Below.refl _ _, fun h => by cases h⟩
      · go_simp
        exact ⟨rfl, Below.refl _ _, fun h => by cases h⟩
      · go_simp
        exact ⟨rfl, Below.refl _ _, fun h => by cases h⟩
      · have e3 : u 3 = .slice (some ⟨g, o * 15, none⟩) (M + 1) (M + 1) := hd 3 (by omega) (by kernel_rfl)
        have e4 : u 4 = .int .i64 ((M : Int) + 1) := hd 4 (by omega) (by kernel_rfl)
        rw [e3, e4]
        go_simp
        exact ⟨rfl, Below.refl _ _, fun h => by cases h⟩
    case rest =>
      intro u wz hb hf hp
      have f0 : u 0 = .slice (some ⟨g, o * 15, none⟩) (M + 1) (M + 1) := hf 0 (by omega)
      have f1 : u 1 = .int .i64 (M : Int) := hf 1 (by omega)
      have f2 : u 2 = .slice (some ⟨g, o * 15, none⟩) M (M + 1) := hf 2 (by omega)
      have f3 : u 3 = .slice (some ⟨g, o * 15, none⟩) (M + 1) (M + 1) := hf 3 (by omega)
      have f4 : u 4 = .int .i64 ((M : Int) + 1) := hf 4 (by omega)
      have f5 : u 5 = .slice (some ⟨g, o * 15, none⟩) 0 (0) := hf 5 (by omega)
      refine UptoW.rest 2 6 (by rfl) (by kernel_rfl) ?_
      simp only [List.take, List.drop, putOps, Act.put, List.setIfInBounds_toArray, List.set_cons_zero, List.set_cons_succ, Nat.reduceAdd, f0, f1, f2, f3, f4, f5]
      clear f0 f1 f2 f3 f4 f5 hf hp
      have HRz := hide (HR.out.below hb)
      have HRW := hide ((Rw.refl g w).trans (Rw.of_below hg hb))
      have hgz := HRz.out.lt
      have hcl := fun ty => clear_run ty g n _ (HRz.out) (o + M) (1) (o * 15 + M * 15) (by omega) (by omega)
      have hse : ∀ q, wz.setCells g q [] = wz := fun _ => rfl
      clear hb
      go_wp2_with (first
        | (at_builtin; refine app_room rfl (.tmp 22) (.tmp 25) rfl g n us HRz.out o M (M + 1) rfl ⟨g, o * 15, none⟩ ([] : List TW) (0) rfl (fun j v hv => by simp at hv) (by first | omega | (simp; omega) | simp) (by first | omega | (simp; omega) | simp) ?_; skip)
        | fail)
      go_ret
      have h2 := HRz.out.set (o + M) [twD] (by simp; omega)
      have e2 : [twD].flatMap twCs = twCs twD := by simp
      rw [e2] at h2
      refine ⟨rfl, h2.congr fun j hj => ?_, HRW.out.trans (Rw.set _ _ _ hgz)⟩
      unfold outU
      by_cases c1 : j = o + M
      · subst c1
        rw [if_pos (by simp), if_neg (by omega), if_pos (by omega)]
        simp
      · rw [if_neg (by simp; omega), if_neg (by omega), if_neg (by omega)]
  · have hckb : ¬ c = k + 1 := hck
    go_enter Try.func52, Try.ntmps52
    go_wp2_with fail
    refine region_made 6 8 [fIs (.slice (some ⟨g, o * 15, none⟩) (M + 1) (c)), fIs (.int .i64 (k : Int)), fIs (.slice (some ⟨g, o * 15, none⟩) k (c)), fIs (.slice (some ⟨g, o * 15, none⟩) (M + 1) (c)), fIs (.int .i64 ((k : Int) + 1)), fIs (.slice (some ⟨g, o * 15 + (k + 1) * 15, none⟩) L0.length (c - (k + 1)))] (by kernel_rfl) (by kernel_rfl) (by kernel_rfl) (fun _ ⟨_, _⟩ ⟨_, _⟩ _ e h => by cases e; exact h) ⟨fIs_good _, fIs_good _, fIs_good _, fIs_good _, fIs_good _, fIs_good _, trivial⟩ ?mk ?rest
    case mk =>
      refine ⟨fun u wz hb hd => ?_, fun u wz hb hd => ?_, fun u wz hb hd => ?_, fun u wz hb hd => ?_, fun u wz hb hd => ?_, fun u wz hb hd => ?_, trivial⟩
      all_goals simp only [Act.put, List.setIfInBounds_toArray, List.set_cons_zero, List.set_cons_succ]
      · go_simp
        exact ⟨rfl, Below.refl _ _, fun h => by cases h⟩
      · go_simp
        exact ⟨rfl, Below.refl _ _, fun h => by cases h⟩
      · have e0 : u 0 = .slice (some ⟨g, o * 15, none⟩) (M + 1) (c) := hd 0 (by omega) (by kernel_rfl)
        have e1 : u 1 = .int .i64 (k : Int) := hd 1 (by omega) (by kernel_rfl)
        rw [e0, e1]
        go_simp
        exact ⟨rfl, Below.refl _ _, fun h => by cases h⟩
      · go_simp
        exact ⟨rfl, Below.refl _ _, fun h => by cases h⟩
      · go_simp
        exact ⟨rfl, Below.refl _ _, fun h => by cases h⟩
      · have e3 : u 3 = .slice (some ⟨g, o * 15, none⟩) (M + 1) (c) := hd 3 (by omega) (by kernel_rfl)
        have e4 : u 4 = .int .i64 ((k : Int) + 1) := hd 4 (by omega) (by kernel_rfl)
        rw [e3, e4]
        go_simp
        exact ⟨rfl, Below.refl _ _, fun h => by cases h⟩
    case rest =>
      intro u wz hb hf hp
      have f0 : u 0 = .slice (some ⟨g, o * 15, none⟩) (M + 1) (c) := hf 0 (by omega)
      have f1 : u 1 = .int .i64 (k : Int) := hf 1 (by omega)
      have f2 : u 2 = .slice (some ⟨g, o * 15, none⟩) k (c) := hf 2 (by omega)
      have f3 : u 3 = .slice (some ⟨g, o * 15, none⟩) (M + 1) (c) := hf 3 (by omega)
      have f4 : u 4 = .int .i64 ((k : Int) + 1) := hf 4 (by omega)
      have f5 : u 5 = .slice (some ⟨g, o * 15 + (k + 1) * 15, none⟩) L0.length (c - (k + 1)) := hf 5 (by omega)
      refine UptoW.rest 2 6 (by rfl) (by kernel_rfl) ?_
      simp only [List.take, List.drop, putOps, Act.put, List.setIfInBounds_toArray, List.set_cons_zero, List.set_cons_succ, Nat.reduceAdd, f0, f1, f2, f3, f4, f5]
      clear f0 f1 f2 f3 f4 f5 hf hp
      have HRz := hide (HR.out.below hb)
      have HRW := hide ((Rw.refl g w).trans (Rw.of_below hg hb))
      have hgz := HRz.out.lt
      have hcl := fun ty => clear_run ty g n _ (HRz.out.set (o + k) L0 (by omega)) (o + M) (c - M) (o * 15 + M * 15) (by omega) (by omega)
      have hse : ∀ q, wz.setCells g q [] = wz := fun _ => rfl
      clear hb
      go_wp2_with (first
        | (at_builtin; refine app_room rfl (.tmp 22) (.tmp 25) rfl g n us HRz.out o k (c) rfl ⟨g, o * 15 + (k + 1) * 15, none⟩ L0 (c - (k + 1)) rfl (by rw [show o * 15 + (k + 1) * 15 = (o + (k + 1)) * 15 by omega]; exact HRz.out.read (o + (k + 1)) L0 (by omega) (fun j hj => by rw [HL0.out j hj]; rfl)) (by first | omega | (simp; omega) | simp) (by first | omega | (simp; omega) | simp) ?_; rw [hLM])
        | fail)
      go_ret
      have h1 := HRz.out.set (o + k) L0 (by first | omega | (simp; omega) | simp)
      have h2 := h1.set (o + M) [twD] (by first | omega | (simp; omega) | simp)
      have e2 : [twD].flatMap twCs = twCs twD := by simp
      rw [e2] at h2
      refine ⟨rfl, h2.congr fun j hj => ?_, HRW.out.trans ((Rw.set _ _ _ hgz).trans (Rw.set _ _ _ h1.lt))⟩
      unfold outU
      by_cases c1 : j = o + M
      · subst c1
        rw [if_pos (by simp), if_neg (by omega), if_pos (by omega)]
        simp
      · rw [if_neg (by first | omega | (simp; omega) | simp)]
        by_cases c2 : o + k ≤ j ∧ j + 1 < o + (M + 1)
        · rw [if_pos (by first | omega | (simp; omega) | simp), if_pos c2, HL0.out (j - (o + k)) (by first | omega | (simp; omega) | simp)]
          congr 1
          omega
        · rw [if_neg (by first | omega | (simp; omega) | simp), if_neg c2, if_neg (by omega)]
end Go.Proofs.Ytoidgdbgpbcebaa.V
namespace Go.Proofs.Ytoidgdbgpbcebaa.V
open Go Go.Shelf Go.RowKit Go.Lib Go.Sort Go.Proofs Go.Proofs.Ytoidgdbgpbcebaa.S
set_option linter.unusedVariables false

theorem tmod_twice (a : Int) {m : Nat} (hm : 0 < m) : Int.tmod (Int.tmod a m + m) m = a % m := by
  have hm' : (0 : Int) < (m : Int) := by omega
  have h1 := Int.lt_tmod_of_pos a hm'
  rw [Int.tmod_eq_emod_of_nonneg (by omega), Int.add_emod_right]
  have h2 := Int.mul_tdiv_add_tmod a m
  conv => rhs; rw [← h2]
  rw [Int.mul_add_emod_self_left]
theorem tmod_nat (a b : Nat) : Int.tmod (a : Int) (b : Int) = ((a % b : Nat) : Int) := by
  rw [Int.tmod_eq_emod_of_nonneg (by omega)]
  rfl
/-- What has been asked. -/
def askT (mix : List Int) (turn : Nat) : Nat := if mix = [] then 0 else turn
theorem bl_setCell {w : World} {p : Addr} (hp : p.block < w.heap.size) (v : Value) : Rw p.block w (w.setCell p v) := by
  refine ⟨⟨rfl, rfl, rfl, by rw [World.size_setCell]; exact Nat.le_refl _, fun i hi hne => Below.heap_setCell _ p _ i (fun e => hne (by rw [e]))⟩, fun cur t z e => ?_⟩
  unfold World.setCell
  simp only [Array.getElem?_modify, e]
  simp
theorem lt_of_heap {w : World} {g : Nat} {o : Obj} (h : w.heap[g]? = some o) : g < w.heap.size := (Array.getElem?_eq_some_iff.1 h).1
set_option maxRecDepth 100000 in
theorem pick1 (N1 N2 : Nat) (xa : Option Addr) (xl xc : Nat) (mix : List Int) (turn many : Nat) (w : World) (h1 : w.cell? ⟨N1, 0, none⟩ = some (.slice xa xl xc)) (hx : Ints w xa xl mix) (h2 : w.heap[N2]? = some (.cells #[.int .i64 (askT mix turn)] 3 (0, 0))) (hm : 0 < many) (hm2 : many ≤ 1000000) (ht : turn ≤ 1000000000) :
    Calls Try.prog 79 #[.int .i64 many, .pointer (some ⟨N1, 0, none⟩), .pointer (some ⟨N2, 0, none⟩)] w fun e w' => e = .returned (.int .i64 (pickK mix turn many)) ∧ w'.heap[N2]? = some (.cells #[.int .i64 (askT mix (turn + 1))] 3 (0, 0)) ∧ Rw N2 w w' := by
  obtain ⟨hl, h64, hrg, hat⟩ := hx
  have z1 := lt_of_cell h1
  have c2 : w.cell? ⟨N2, 0, none⟩ = some (.int .i64 (askT mix turn)) := by simp [World.cell?, h2]
  have g2 : w.frozen? ⟨N2, 0, none⟩ = false := by simp [World.frozen?, h2]
  have z2 := lt_of_cell c2
  have mixed : Try.prog.follows .mixedOrders = true := by kernel_rfl
  by_cases hmx : mix = []
  · have hxl : xl = 0 := by rw [← hl, hmx]; rfl
    subst hxl
    have hK : pickK mix turn many = 0 := by unfold pickK; rw [if_pos hmx]
    have hA : askT mix (turn + 1) = askT mix turn := by unfold askT; rw [if_pos hmx, if_pos hmx]
    rw [hK, hA]
    clear hat hl h64
    have H2 := hide h2
    clear h2 hmx hK hA hrg
    go_enter Try.func79, Try.ntmps79
    go_wp2
    go_ret
    exact ⟨rfl, H2.out, Rw.refl _ _⟩
  · have hA : askT mix turn = turn := by unfold askT; rw [if_neg hmx]
    have hA2 : askT mix (turn + 1) = turn + 1 := by unfold askT; rw [if_neg hmx]
    rw [hA] at h2 c2
    rw [hA2]
    have hxl : 0 < xl := by rw [← hl]; exact List.length_pos_iff.2 hmx
    obtain ⟨b, off, rfl, hat2⟩ := hat.resolve_left (by omega)
    obtain ⟨q, hq⟩ : ∃ q, q = turn % xl := ⟨_, rfl⟩
    have hqx : q < xl := by rw [hq]; exact Nat.mod_lt _ hxl
    have hc := hat2 q hqx
    obtain ⟨z, hz⟩ : ∃ z, z = mix[q]?.getD 0 := ⟨_, rfl⟩
    rw [← hz] at hc
    have zc := lt_of_cell hc
    have hK : pickK mix turn many = (z % (many : Int)).toNat := by unfold pickK; rw [if_neg hmx, hl, ← hq, ← hz]
    have hKz : ((pickK mix turn many : Nat) : Int) = z % (many : Int) := by
      rw [hK]
      have := Int.emod_nonneg z (show (many : Int) ≠ 0 by omega)
      omega
    have hrem : Int.tmod (turn : Int) (xl : Int) = (q : Int) := by rw [tmod_nat, hq]
    obtain ⟨r, hr⟩ : ∃ r, r = Int.tmod z (many : Int) := ⟨_, rfl⟩
    have hr1 : Int.tmod z (many : Int) = r := hr.symm
    have hr2 := Int.lt_tmod_of_pos z (show (0 : Int) < (many : Int) by omega)
    have hr3 := Int.tmod_lt_of_pos z (show (0 : Int) < (many : Int) by omega)
    rw [hr1] at hr2 hr3
    have hfin : Int.tmod (r + (many : Int)) (many : Int) = z % (many : Int) := by rw [hr]; exact tmod_twice z hm
    have hxne : ¬ (xl : Int) = 0 := by omega
    have hxneb : ((xl : Int) == 0) = false := by simpa using hxne
    have hmne : ¬ (many : Int) = 0 := by omega
    have hmneb : ((many : Int) == 0) = false := by simpa using hmne
    have hxn : ¬ xl = 0 := by omega
    have hmn : ¬ many = 0 := by omega
    have hrem2 : turn % xl = q := hq.symm
    have hrem3 : (turn : Int) % (xl : Int) = (q : Int) := by rw [← hrem, tmod_nat]; rfl
    have hw1 : IntKind.i64.wrap (r + (many : Int)) = r + (many : Int) := by rw [IntKind.wrap_i64]; omega
    have hqz : (q : Int) < (xl : Int) := by omega
    have hw2 : IntKind.i64.wrap (q : Int) = (q : Int) := by rw [IntKind.wrap_i64]; omega
    have hw3 : IntKind.i64.wrap r = r := by rw [IntKind.wrap_i64]; omega
    have hw4 : IntKind.i64.wrap (z % (many : Int)) = z % (many : Int) := by
      have e1 := Int.emod_nonneg z (show (many : Int) ≠ 0 by omega)
      have e2 := Int.emod_lt_of_pos z (show (0 : Int) < (many : Int) by omega)
      rw [IntKind.wrap_i64]
      omega
    have H2 := hide h2
    rw [hKz]
    clear hat hat2 hl h64 hq hz hr hK hKz hmx hA hA2 h2 hrg
    go_enter Try.func79, Try.ntmps79
    go_wp2_with fail
    have l1 : ∀ n os, (grow (w.drewN n) os).cell? ⟨N1, 0, none⟩ = some (.slice (some ⟨b, off, none⟩) xl xc) := fun n os => (World.cell?_of_block (a := ⟨N1, 0, none⟩) ((bl_grow w n os).block N1 z1)).trans h1
    have l2 : ∀ n os, (grow (w.drewN n) os).cell? ⟨N2, 0, none⟩ = some (.int .i64 turn) := fun n os => (World.cell?_of_block (a := ⟨N2, 0, none⟩) ((bl_grow w n os).block N2 z2)).trans c2
    have l3 : ∀ n os, (grow (w.drewN n) os).cell? ⟨b, off + q, none⟩ = some (.int .i64 z) := fun n os => (World.cell?_of_block (a := ⟨b, off + q, none⟩) ((bl_grow w n os).block b zc)).trans hc
    go_quiet_grown (fail)
    clear l1 l2 l3
    have z2' : N2 < (grow (w.drewN nq) osq).heap.size := by rw [size_grow]; exact Nat.lt_of_lt_of_le z2 (Nat.le_add_right _ _)
    have hB := bl_grow w nq osq
    have e2 := hB.block N2 z2
    have c2' : (grow (w.drewN nq) osq).cell? ⟨N2, 0, none⟩ = some (.int .i64 turn) := (World.cell?_of_block (a := ⟨N2, 0, none⟩) e2).trans c2
    have g2' : (grow (w.drewN nq) osq).frozen? ⟨N2, 0, none⟩ = false := (World.frozen?_of_block (a := ⟨N2, 0, none⟩) e2).trans g2
    have HB := hide hB
    have HE2 := hide e2
    clear hB e2 c2 g2 z2 h1 hc zc z1
    generalize grow (w.drewN nq) osq = w2 at *
    go_wp2_with fail
    go_ret
    have hh := HE2.out.trans H2.out
    refine ⟨rfl, ?_, (Rw.of_below (Nat.lt_of_lt_of_le (lt_of_heap H2.out) (Nat.le_refl _)) HB.out).trans (bl_setCell (p := ⟨N2, 0, none⟩) (lt_of_heap hh) _)⟩
    unfold World.setCell
    simp only [Array.getElem?_modify, hh]
    simp
set_option maxRecDepth 100000 in
theorem picker_any (xa : Option Addr) (xl xc : Nat) (w : World) : Calls Try.prog 50 #[.slice xa xl xc] w fun e w' => e = .returned (.func (.func 79) #[] #[.pointer (some ⟨w.heap.size, 0, none⟩), .pointer (some ⟨w.heap.size + 1, 0, none⟩)]) ∧ w'.cell? ⟨w.heap.size, 0, none⟩ = some (.slice xa xl xc) ∧ w'.heap[w.heap.size + 1]? = some (.cells #[.int .i64 0] 3 (0, 0)) ∧ Below w.heap.size w w' ∧ w.heap.size + 1 < w'.heap.size := by
  go_enter Try.func50, Try.ntmps50
  go_wp2
  go_ret
  have e1 := World.alloc_heap_new (w.alloc (.cells #[.slice xa xl xc] 22)) (.cells #[.int .i64 0] 3)
  rw [World.size_alloc] at e1
  refine ⟨rfl, ?_, ?_, ?_, ?_⟩
  · have e2 : ((w.alloc (.cells #[.slice xa xl xc] 22)).alloc (.cells #[.int .i64 0] 3)).cell? ⟨w.heap.size, 0, none⟩ = some (.slice xa xl xc) := by
      rw [Lib.cell?_alloc_some _ (v := .slice xa xl xc)]
      unfold World.cell?
      rw [World.alloc_heap_new]
      rfl
    exact e2
  · exact e1
  · exact bl_on (bl_new _) (bl_new _)
  · rw [World.size_alloc, World.size_alloc]
    omega
set_option maxRecDepth 100000 in
set_option maxHeartbeats 4000000 in
/-- The first place at which p holds. -/
theorem idxT_any (G : Nat) (eG : ∀ args w, (callFunc G args).run Try.prog w = .ok (.enter G args) w) (cb : Value) (p : Nat → Bool) (g n : Nat) (us : Nat → TW) (o m c : Nat) (w : World) (h : RowS w g n us) (hom : o + m ≤ n) (hm : m ≤ 1000000) (hp : ∀ j, j < m → ∀ W, Below w.heap.size w W → Calls Try.prog G #[(us (o + j)).v, cb] W fun e w' => e = .returned (.bool (p j)) ∧ Below W.heap.size W w') :
    Calls Try.prog 80 #[.slice (some ⟨g, o * 15, none⟩) m c, .func (.func G) #[] #[cb]] w fun e w' => (∃ k, k ≤ m ∧ (∀ j, j < k → p j = false) ∧ (k < m → p k = true) ∧ e = .returned (.int .i64 (if k < m then (k : Int) else -1))) ∧ Below w.heap.size w w' := by
  have HR := hide h
  have HP := hide hp
  clear h hp
  obtain ⟨off, hoff⟩ : ∃ off, off = o * 15 := ⟨_, rfl⟩
  rw [← hoff]
  have HOFF := hide hoff
  clear hoff
  go_enter Try.func80, Try.ntmps80
  go_wp2
  go_loopw [8] (fun v wr => ∃ j : Nat, j ≤ m ∧ v = .int .i64 j ∧ (∀ i, i < j → p i = false) ∧ Below w.heap.size w wr) (fun v _ => m - (intOf v).toNat)
  case atStart => exact ⟨0, Nat.zero_le _, rfl, fun i hi => by omega, Below.refl _ _⟩
  case round =>
    obtain ⟨j, hj, rfl, hno, hB⟩ := hrel
    have HNO := hide hno
    have HB := hide hB
    clear hno hB
    by_cases hlt : j < m
    · have hltz : (j : Int) < (m : Int) := by omega
      have hcs : ∀ i, i < 15 → wr.cell? ⟨g, off + j * 15 + i, none⟩ = (us (o + j)).cs[i]? := by
        have := (HR.out.below HB.out).tat (o := o) (j := j) (by omega)
        rw [← HOFF.out] at this
        exact this
      have hc := HP.out j hlt wr HB.out
      obtain ⟨u, hu⟩ : ∃ u, u = us (o + j) := ⟨_, rfl⟩
      rw [← hu] at hcs hc
      clear hu
      have c0 : wr.cell? ⟨g, off + j * 15, none⟩ = some (.int .i64 u.stm) := hcs 0 (by omega)
      have cz0 := lt_of_cell c0
      have c1 : wr.cell? ⟨g, off + j * 15 + 1, none⟩ = some (.slice u.xa u.xl u.xc) := hcs 1 (by omega)
      have cz1 := lt_of_cell c1
      have c2 : wr.cell? ⟨g, off + j * 15 + 2, none⟩ = some (.int .i64 (u.tm 0)) := hcs 2 (by omega)
      have cz2 := lt_of_cell c2
      have c3 : wr.cell? ⟨g, off + j * 15 + 3, none⟩ = some (.int .i64 (u.tm 1)) := hcs 3 (by omega)
      have cz3 := lt_of_cell c3
      have c4 : wr.cell? ⟨g, off + j * 15 + 4, none⟩ = some (.int .i64 (u.tm 2)) := hcs 4 (by omega)
      have cz4 := lt_of_cell c4
      have c5 : wr.cell? ⟨g, off + j * 15 + 5, none⟩ = some (.int .i64 (u.tm 3)) := hcs 5 (by omega)
      have cz5 := lt_of_cell c5
      have c6 : wr.cell? ⟨g, off + j * 15 + 6, none⟩ = some (.int .i64 (u.tm 4)) := hcs 6 (by omega)
      have cz6 := lt_of_cell c6
      have c7 : wr.cell? ⟨g, off + j * 15 + 7, none⟩ = some (.int .i64 (u.tm 5)) := hcs 7 (by omega)
      have cz7 := lt_of_cell c7
      have c8 : wr.cell? ⟨g, off + j * 15 + 8, none⟩ = some (.int .i64 (u.tm 6)) := hcs 8 (by omega)
      have cz8 := lt_of_cell c8
      have c9 : wr.cell? ⟨g, off + j * 15 + 9, none⟩ = some (.int .i64 (u.tm 7)) := hcs 9 (by omega)
      have cz9 := lt_of_cell c9
      have c10 : wr.cell? ⟨g, off + j * 15 + 10, none⟩ = some (.int .i64 u.kd) := hcs 10 (by omega)
      have cz10 := lt_of_cell c10
      have c11 : wr.cell? ⟨g, off + j * 15 + 11, none⟩ = some (.int .i64 u.va) := hcs 11 (by omega)
      have cz11 := lt_of_cell c11
      have c12 : wr.cell? ⟨g, off + j * 15 + 12, none⟩ = some (.int .i64 u.pu.arr) := hcs 12 (by omega)
      have cz12 := lt_of_cell c12
      have c13 : wr.cell? ⟨g, off + j * 15 + 13, none⟩ = some (.int .i64 u.pu.pos) := hcs 13 (by omega)
      have cz13 := lt_of_cell c13
      have c14 : wr.cell? ⟨g, off + j * 15 + 14, none⟩ = some (.slice u.ga u.gl u.gc) := hcs 14 (by omega)
      have cz14 := lt_of_cell c14
      have HCL := hide hc
      unfold TW.v TW.cs at HCL
      cases hpj : p j with
      | true =>
        rw [hpj] at HCL
        clear hc hcs
        go_wp2_with (first | (go_at_fn G; refine HCL.out.mono ?_; rintro e w1 ⟨rfl, hb1⟩) | fail)
        go_ret
        exact ⟨⟨j, hj, HNO.out, fun _ => hpj, by rw [if_pos hlt]; rfl⟩, bl_on HB.out hb1⟩
      | false =>
        rw [hpj] at HCL
        clear hc hcs
        go_wp2_with (first | (go_at_fn G; refine HCL.out.mono ?_; rintro e w1 ⟨rfl, hb1⟩) | fail)
        refine ⟨⟨j + 1, by omega, rfl, fun i hi => ?_, bl_on HB.out hb1⟩, by simp [intOf]; omega⟩
        rcases Nat.lt_or_ge i j with k | k
        · exact HNO.out i k
        · obtain rfl : i = j := by omega
          exact hpj
    · have hltz : ¬ (j : Int) < (m : Int) := by omega
      obtain rfl : j = m := by omega
      go_wp2
      go_ret
      exact ⟨⟨j, Nat.le_refl _, HNO.out, fun k => by omega, by rw [if_neg (Nat.lt_irrefl _)]; rfl⟩, HB.out⟩
set_option maxRecDepth 100000 in
set_option maxHeartbeats 4000000 in
/-- Has a spot another time than the first one? -/
theorem once1 (q p : TW) (bx g off m c : Nat) (w : World) (hm : 0 < m) (hbx : w.cell? ⟨bx, 0, none⟩ = some (.slice (some ⟨g, off, none⟩) m c)) (hcs : ∀ i, i < 15 → w.cell? ⟨g, off + i, none⟩ = p.cs[i]?) :
    Calls Try.prog 81 #[q.v, .pointer (some ⟨bx, 0, none⟩)] w fun e w' => e = .returned (.bool (cmpT q.tm p.tm != 0)) ∧ Below w.heap.size w w' := by
  have HBT := hide (fun W => byTime_any q p W)
  obtain ⟨K, hK⟩ : ∃ K, K = cmpT q.tm p.tm := ⟨_, rfl⟩
  rw [← hK] at HBT ⊢
  clear hK
  have P0 := q.new w
  obtain ⟨W, hW⟩ : ∃ W, W = w.alloc (.cells q.cs 59) := ⟨_, rfl⟩
  have hBW : Below w.heap.size w W := by rw [hW]; exact bl_new _
  rw [← hW] at P0
  obtain ⟨d0, d1, d2, d3, d4, d5, d6, d7, d8, d9, d10, d11, d12, d13, d14⟩ := P0.cells
  have dz := P0.lt
  have hgl : g < w.heap.size := lt_of_cell (hcs 0 (by omega))
  have hbl := lt_of_cell hbx
  have b0 : W.cell? ⟨bx, 0, none⟩ = some (.slice (some ⟨g, off, none⟩) m c) := (World.cell?_of_block (a := ⟨bx, 0, none⟩) (hBW.block bx hbl)).trans hbx
  have hm' : (0 : Int) < (m : Int) := by omega
  have c0 : W.cell? ⟨g, off, none⟩ = some (.int .i64 p.stm) := (World.cell?_of_block (a := ⟨g, off, none⟩) (hBW.block g hgl)).trans (hcs 0 (by omega))
  have c1 : W.cell? ⟨g, off + 1, none⟩ = some (.slice p.xa p.xl p.xc) := (World.cell?_of_block (a := ⟨g, off + 1, none⟩) (hBW.block g hgl)).trans (hcs 1 (by omega))
  have c2 : W.cell? ⟨g, off + 2, none⟩ = some (.int .i64 (p.tm 0)) := (World.cell?_of_block (a := ⟨g, off + 2, none⟩) (hBW.block g hgl)).trans (hcs 2 (by omega))
  have c3 : W.cell? ⟨g, off + 3, none⟩ = some (.int .i64 (p.tm 1)) := (World.cell?_of_block (a := ⟨g, off + 3, none⟩) (hBW.block g hgl)).trans (hcs 3 (by omega))
  have c4 : W.cell? ⟨g, off + 4, none⟩ = some (.int .i64 (p.tm 2)) := (World.cell?_of_block (a := ⟨g, off + 4, none⟩) (hBW.block g hgl)).trans (hcs 4 (by omega))
  have c5 : W.cell? ⟨g, off + 5, none⟩ = some (.int .i64 (p.tm 3)) := (World.cell?_of_block (a := ⟨g, off + 5, none⟩) (hBW.block g hgl)).trans (hcs 5 (by omega))
  have c6 : W.cell? ⟨g, off + 6, none⟩ = some (.int .i64 (p.tm 4)) := (World.cell?_of_block (a := ⟨g, off + 6, none⟩) (hBW.block g hgl)).trans (hcs 6 (by omega))
  have c7 : W.cell? ⟨g, off + 7, none⟩ = some (.int .i64 (p.tm 5)) := (World.cell?_of_block (a := ⟨g, off + 7, none⟩) (hBW.block g hgl)).trans (hcs 7 (by omega))
  have c8 : W.cell? ⟨g, off + 8, none⟩ = some (.int .i64 (p.tm 6)) := (World.cell?_of_block (a := ⟨g, off + 8, none⟩) (hBW.block g hgl)).trans (hcs 8 (by omega))
  have c9 : W.cell? ⟨g, off + 9, none⟩ = some (.int .i64 (p.tm 7)) := (World.cell?_of_block (a := ⟨g, off + 9, none⟩) (hBW.block g hgl)).trans (hcs 9 (by omega))
  have c10 : W.cell? ⟨g, off + 10, none⟩ = some (.int .i64 p.kd) := (World.cell?_of_block (a := ⟨g, off + 10, none⟩) (hBW.block g hgl)).trans (hcs 10 (by omega))
  have c11 : W.cell? ⟨g, off + 11, none⟩ = some (.int .i64 p.va) := (World.cell?_of_block (a := ⟨g, off + 11, none⟩) (hBW.block g hgl)).trans (hcs 11 (by omega))
  have c12 : W.cell? ⟨g, off + 12, none⟩ = some (.int .i64 p.pu.arr) := (World.cell?_of_block (a := ⟨g, off + 12, none⟩) (hBW.block g hgl)).trans (hcs 12 (by omega))
  have c13 : W.cell? ⟨g, off + 13, none⟩ = some (.int .i64 p.pu.pos) := (World.cell?_of_block (a := ⟨g, off + 13, none⟩) (hBW.block g hgl)).trans (hcs 13 (by omega))
  have c14 : W.cell? ⟨g, off + 14, none⟩ = some (.slice p.ga p.gl p.gc) := (World.cell?_of_block (a := ⟨g, off + 14, none⟩) (hBW.block g hgl)).trans (hcs 14 (by omega))
  have HW := hide hW
  have HBW := hide hBW
  clear hcs hbx hW hBW P0
  unfold TW.v TW.cs at HBT
  unfold TW.cs at HW
  unfold TW.v TW.cs
  go_enter Try.func81, Try.ntmps81
  go_wp2_with fail
  rw [← HW.out]
  refine region_made 6 7 [fIs (.agg #[.int .i64 q.stm, .slice q.xa q.xl q.xc, .int .i64 (q.tm 0), .int .i64 (q.tm 1), .int .i64 (q.tm 2), .int .i64 (q.tm 3), .int .i64 (q.tm 4), .int .i64 (q.tm 5), .int .i64 (q.tm 6), .int .i64 (q.tm 7), .int .i64 q.kd, .int .i64 q.va, .int .i64 q.pu.arr, .int .i64 q.pu.pos, .slice q.ga q.gl q.gc]), fIs (.slice (some ⟨g, off, none⟩) m c), fIs (.pointer (some ⟨g, off, none⟩)), fIs (.agg #[.int .i64 p.stm, .slice p.xa p.xl p.xc, .int .i64 (p.tm 0), .int .i64 (p.tm 1), .int .i64 (p.tm 2), .int .i64 (p.tm 3), .int .i64 (p.tm 4), .int .i64 (p.tm 5), .int .i64 (p.tm 6), .int .i64 (p.tm 7), .int .i64 p.kd, .int .i64 p.va, .int .i64 p.pu.arr, .int .i64 p.pu.pos, .slice p.ga p.gl p.gc]), fIs (.int .i64 K), fIs (.bool (K != 0))] (by kernel_rfl) (by kernel_rfl) (by kernel_rfl) (fun _ ⟨_, _⟩ ⟨_, _⟩ _ e h => by cases e; exact h) ⟨fIs_good _, fIs_good _, fIs_good _, fIs_good _, fIs_good _, fIs_good _, trivial⟩ ?mk ?rest
  case mk =>
    refine ⟨fun u wz hb hd => ?_, fun u wz hb hd => ?_, fun u wz hb hd => ?_, fun u wz hb hd => ?_, fun u wz hb hd => ?_, fun u wz hb hd => ?_, trivial⟩
    all_goals simp only [Act.put, List.setIfInBounds_toArray, List.set_cons_zero, List.set_cons_succ]
    · have d0' := (hb.cell (p := ⟨w.heap.size, 0, none⟩) (lt_of_cell d0)).trans d0
      have d1' := (hb.cell (p := ⟨w.heap.size, 1, none⟩) (lt_of_cell d1)).trans d1
      have d2' := (hb.cell (p := ⟨w.heap.size, 2, none⟩) (lt_of_cell d2)).trans d2
      have d3' := (hb.cell (p := ⟨w.heap.size, 3, none⟩) (lt_of_cell d3)).trans d3
      have d4' := (hb.cell (p := ⟨w.heap.size, 4, none⟩) (lt_of_cell d4)).trans d4
      have d5' := (hb.cell (p := ⟨w.heap.size, 5, none⟩) (lt_of_cell d5)).trans d5
      have d6' := (hb.cell (p := ⟨w.heap.size, 6, none⟩) (lt_of_cell d6)).trans d6
      have d7' := (hb.cell (p := ⟨w.heap.size, 7, none⟩) (lt_of_cell d7)).trans d7
      have d8' := (hb.cell (p := ⟨w.heap.size, 8, none⟩) (lt_of_cell d8)).trans d8
      have d9' := (hb.cell (p := ⟨w.heap.size, 9, none⟩) (lt_of_cell d9)).trans d9
      have d10' := (hb.cell (p := ⟨w.heap.size, 10, none⟩) (lt_of_cell d10)).trans d10
      have d11' := (hb.cell (p := ⟨w.heap.size, 11, none⟩) (lt_of_cell d11)).trans d11
      have d12' := (hb.cell (p := ⟨w.heap.size, 12, none⟩) (lt_of_cell d12)).trans d12
      have d13' := (hb.cell (p := ⟨w.heap.size, 13, none⟩) (lt_of_cell d13)).trans d13
      have d14' := (hb.cell (p := ⟨w.heap.size, 14, none⟩) (lt_of_cell d14)).trans d14
      go_simp
      exact ⟨rfl, Below.refl _ _, fun h => by cases h⟩
    · have b0' := (hb.cell (p := ⟨bx, 0, none⟩) (lt_of_cell b0)).trans b0
      go_simp
      exact ⟨rfl, Below.refl _ _, fun h => by cases h⟩
    · have e1 : u 1 = .slice (some ⟨g, off, none⟩) m c := hd 1 (by omega) (by kernel_rfl)
      rw [e1]
      go_simp
      exact ⟨rfl, Below.refl _ _, fun h => by cases h⟩
    · have e2 : u 2 = .pointer (some ⟨g, off, none⟩) := hd 2 (by omega) (by kernel_rfl)
      rw [e2]
      have c0' := (hb.cell (p := ⟨g, off, none⟩) (lt_of_cell c0)).trans c0
      have c1' := (hb.cell (p := ⟨g, off + 1, none⟩) (lt_of_cell c1)).trans c1
      have c2' := (hb.cell (p := ⟨g, off + 2, none⟩) (lt_of_cell c2)).trans c2
      have c3' := (hb.cell (p := ⟨g, off + 3, none⟩) (lt_of_cell c3)).trans c3
      have c4' := (hb.cell (p := ⟨g, off + 4, none⟩) (lt_of_cell c4)).trans c4
      have c5' := (hb.cell (p := ⟨g, off + 5, none⟩) (lt_of_cell c5)).trans c5
      have c6' := (hb.cell (p := ⟨g, off + 6, none⟩) (lt_of_cell c6)).trans c6
      have c7' := (hb.cell (p := ⟨g, off + 7, none⟩) (lt_of_cell c7)).trans c7
      have c8' := (hb.cell (p := ⟨g, off + 8, none⟩) (lt_of_cell c8)).trans c8
      have c9' := (hb.cell (p := ⟨g, off + 9, none⟩) (lt_of_cell c9)).trans c9
      have c10' := (hb.cell (p := ⟨g, off + 10, none⟩) (lt_of_cell c10)).trans c10
      have c11' := (hb.cell (p := ⟨g, off + 11, none⟩) (lt_of_cell c11)).trans c11
      have c12' := (hb.cell (p := ⟨g, off + 12, none⟩) (lt_of_cell c12)).trans c12
      have c13' := (hb.cell (p := ⟨g, off + 13, none⟩) (lt_of_cell c13)).trans c13
      have c14' := (hb.cell (p := ⟨g, off + 14, none⟩) (lt_of_cell c14)).trans c14
      go_simp
      exact ⟨rfl, Below.refl _ _, fun h => by cases h⟩
    · have e0 : u 0 = .agg #[.int .i64 q.stm, .slice q.xa q.xl q.xc, .int .i64 (q.tm 0), .int .i64 (q.tm 1), .int .i64 (q.tm 2), .int .i64 (q.tm 3), .int .i64 (q.tm 4), .int .i64 (q.tm 5), .int .i64 (q.tm 6), .int .i64 (q.tm 7), .int .i64 q.kd, .int .i64 q.va, .int .i64 q.pu.arr, .int .i64 q.pu.pos, .slice q.ga q.gl q.gc] := hd 0 (by omega) (by kernel_rfl)
      have e3 : u 3 = .agg #[.int .i64 p.stm, .slice p.xa p.xl p.xc, .int .i64 (p.tm 0), .int .i64 (p.tm 1), .int .i64 (p.tm 2), .int .i64 (p.tm 3), .int .i64 (p.tm 4), .int .i64 (p.tm 5), .int .i64 (p.tm 6), .int .i64 (p.tm 7), .int .i64 p.kd, .int .i64 p.va, .int .i64 p.pu.arr, .int .i64 p.pu.pos, .slice p.ga p.gl p.gc] := hd 3 (by omega) (by kernel_rfl)
      rw [e0, e3]
      go_simp
      refine (HBT.out wz).mono ?_
      rintro e w2 ⟨rfl, hb2⟩
      exact ⟨rfl, hb2, fun h => by cases h⟩
    · have e4 : u 4 = .int .i64 K := hd 4 (by omega) (by kernel_rfl)
      rw [e4]
      go_simp
      exact ⟨rfl, Below.refl _ _, fun h => by cases h⟩
  case rest =>
    intro u wz hb hf hp
    have f0 : u 0 = .agg #[.int .i64 q.stm, .slice q.xa q.xl q.xc, .int .i64 (q.tm 0), .int .i64 (q.tm 1), .int .i64 (q.tm 2), .int .i64 (q.tm 3), .int .i64 (q.tm 4), .int .i64 (q.tm 5), .int .i64 (q.tm 6), .int .i64 (q.tm 7), .int .i64 q.kd, .int .i64 q.va, .int .i64 q.pu.arr, .int .i64 q.pu.pos, .slice q.ga q.gl q.gc] := hf 0 (by omega)
    have f1 : u 1 = .slice (some ⟨g, off, none⟩) m c := hf 1 (by omega)
    have f2 : u 2 = .pointer (some ⟨g, off, none⟩) := hf 2 (by omega)
    have f3 : u 3 = .agg #[.int .i64 p.stm, .slice p.xa p.xl p.xc, .int .i64 (p.tm 0), .int .i64 (p.tm 1), .int .i64 (p.tm 2), .int .i64 (p.tm 3), .int .i64 (p.tm 4), .int .i64 (p.tm 5), .int .i64 (p.tm 6), .int .i64 (p.tm 7), .int .i64 p.kd, .int .i64 p.va, .int .i64 p.pu.arr, .int .i64 p.pu.pos, .slice p.ga p.gl p.gc] := hf 3 (by omega)
    have f4 : u 4 = .int .i64 K := hf 4 (by omega)
    have f5 : u 5 = .bool (K != 0) := hf 5 (by omega)
    refine UptoW.rest 1 6 (by rfl) (by kernel_rfl) ?_
    simp only [List.take, List.drop, putOps, Act.put, List.setIfInBounds_toArray, List.set_cons_zero, List.set_cons_succ, Nat.reduceAdd, f0, f1, f2, f3, f4, f5]
    clear f0 f1 f2 f3 f4 f5 hf hp
    have HB1 := hide (bl_on HBW.out hb)
    clear hb
    go_wp2_with fail
    go_ret
    exact ⟨rfl, HB1.out⟩
set_option maxRecDepth 100000 in
/-- How many have the time of the first one. -/
theorem atOnce_any (g n : Nat) (us : Nat → TW) (o m c : Nat) (w : World) (h : RowS w g n us) (hom : o + m ≤ n) (hm : 0 < m) (hm2 : m ≤ 1000000) :
    Calls Try.prog 51 #[.slice (some ⟨g, o * 15, none⟩) m c] w fun e w' => (∃ k : Nat, e = .returned (.int .i64 k) ∧ 0 < k ∧ k ≤ m ∧ (∀ j, j < k → cmpT (us (o + j)).tm (us o).tm = 0) ∧ (k < m → cmpT (us (o + k)).tm (us o).tm ≠ 0)) ∧ Below w.heap.size w w' := by
  obtain ⟨W, hW⟩ : ∃ W, W = w.alloc (.cells #[.slice (some ⟨g, o * 15, none⟩) m c] 48) := ⟨_, rfl⟩
  have hBW : Below w.heap.size w W := by rw [hW]; exact bl_new _
  have hB0 : W.heap[w.heap.size]? = some (.cells #[.slice (some ⟨g, o * 15, none⟩) m c] 48 (0, 0)) := by rw [hW]; exact World.alloc_heap_new _ _
  have hbx : W.cell? ⟨w.heap.size, 0, none⟩ = some (.slice (some ⟨g, o * 15, none⟩) m c) := by simp [World.cell?, hB0]
  have hR := h.below hBW
  have hc := idxT_any 81 (enters_of Try.func81 (by kernel_rfl) rfl) (.pointer (some ⟨w.heap.size, 0, none⟩)) (fun j => cmpT (us (o + j)).tm (us o).tm != 0) g n us o m c W hR hom hm2 (fun j hj V hV => once1 (us (o + j)) (us o) w.heap.size g (o * 15) m c V hm ((World.cell?_of_block (a := ⟨w.heap.size, 0, none⟩) (hV.block _ (lt_of_cell hbx))).trans hbx) (fun i hi => (hR.below hV).at_ o (by omega) i hi))
  have hz := lt_of_cell hbx
  have HW := hide hW
  have HBW := hide hBW
  clear h hR hW hBW hB0
  go_enter Try.func51, Try.ntmps51
  go_wp2_with fail
  rw [← HW.out]
  refine hc.mono ?_
  rintro e w1 ⟨⟨k, hk, hno, hyes, rfl⟩, hb1⟩
  have hbx1 := (World.cell?_of_block (a := ⟨w.heap.size, 0, none⟩) (hb1.block _ hz)).trans hbx
  have hz1 := lt_of_cell hbx1
  have HB1 := hide (bl_on HBW.out hb1)
  have h0 : 0 < k := by
    rcases Nat.eq_zero_or_pos k with e | e
    · subst e
      have := hyes hm
      rw [Nat.add_zero, cmpT_same (fun _ _ => rfl)] at this
      simp at this
    · exact e
  have HNO : Hid (∀ j, j < k → cmpT (us (o + j)).tm (us o).tm = 0) := fun j hj => by simpa using hno j hj
  have HYES : Hid (k < m → cmpT (us (o + k)).tm (us o).tm ≠ 0) := fun hj => by simpa using hyes hj
  clear hb1 hno hyes hc hbx
  by_cases hkm : k < m
  · rw [if_pos hkm]
    have hkz : ¬ (k : Int) < 0 := by omega
    go_wp2_with fail
    go_ret
    exact ⟨⟨k, rfl, h0, hk, HNO.out, HYES.out⟩, HB1.out⟩
  · rw [if_neg hkm]
    obtain rfl : k = m := by omega
    go_wp2_with fail
    go_ret
    exact ⟨⟨k, rfl, h0, hk, HNO.out, HYES.out⟩, HB1.out⟩
end Go.Proofs.Ytoidgdbgpbcebaa.V
namespace Go.Proofs.Ytoidgdbgpbcebaa.V
open Go Go.Shelf Go.RowKit Go.Lib Go.Sort Go.Proofs Go.Proofs.Ytoidgdbgpbcebaa.S
set_option linter.unusedVariables false

theorem map_erase {β γ : Type} (f : β → γ) : ∀ (l : List β) (k : Nat), (l.map f).eraseIdx k = (l.eraseIdx k).map f
  | [], k => by simp
  | x :: l, 0 => by simp
  | x :: l, k + 1 => by simp [map_erase f l k]
theorem wds_erase (F : List PT) (k j : Nat) (hk : k < F.length) (hj : j + 1 < F.length) : wds (F.eraseIdx k) j = if k ≤ j then wds F (j + 1) else wds F j := by
  unfold wds
  rw [List.getElem?_eraseIdx]
  by_cases h : j < k
  · rw [if_pos h, if_neg (by omega)]
  · rw [if_neg h, if_pos (by omega)]
theorem wds_snoc (D : List PT) (x : PT) (j : Nat) (hj : j < (D ++ [x]).length) : wds (D ++ [x]) j = if j < D.length then wds D j else x.1 := by
  unfold wds
  by_cases h : j < D.length
  · rw [if_pos h, List.getElem?_append_left h]
  · rw [if_neg h, List.getElem?_append_right (by omega)]
    simp at hj
    have : j - D.length = 0 := by omega
    simp [this]
/-- The row of what is still to be done: those of the first time from o on, the others from o2 on. -/
structure RowF (W : World) (g n : Nat) (F R : List PT) (o o2 : Nat) (us : Nat → TW) : Prop where
  row : RowS W g n us
  front : ∀ j, j < F.length → us (o + j) = wds F j
  rest : ∀ j, j < R.length → us (o2 + j) = wds R j
  fit : o + F.length ≤ o2
  all : o2 + R.length = n
/-- The row of what has been done. -/
structure RowD (W : World) (h n : Nat) (D : List PT) : Prop where
  row : ∃ vs, RowS W h n vs ∧ ∀ j, j < D.length → vs j = wds D j
theorem RowF.del {W V : World} {g n : Nat} {F R : List PT} {o o2 : Nat} {us : Nat → TW} (h : RowF W g n F R o o2 us) {k : Nat} (hk : k < F.length) (hV : RowS V g n (outU us o k F.length)) : RowF V g n (F.eraseIdx k) R o o2 (outU us o k F.length) := by
  have hl : (F.eraseIdx k).length = F.length - 1 := by rw [List.length_eraseIdx, if_pos hk]
  have hf := h.fit
  refine ⟨hV, fun j hj => ?_, fun j hj => ?_, by omega, h.all⟩
  · rw [hl] at hj
    rw [wds_erase F k j hk (by omega)]
    unfold outU
    by_cases c : k ≤ j
    · rw [if_pos (by omega), if_pos c, show o + j + 1 = o + (j + 1) by omega]
      exact h.front (j + 1) (by omega)
    · rw [if_neg (by omega), if_neg (by omega), if_neg c]
      exact h.front j (by omega)
  · unfold outU
    rw [if_neg (by omega), if_neg (by omega)]
    exact h.rest j hj
theorem RowD.app {W V : World} {h n : Nat} {D : List PT} (hd : RowD W h n D) (x : PT) (hn : D.length < n) (us : Nat → TW) (hV : ∀ vs, RowS W h n vs → RowS V h n (fun j => if D.length ≤ j ∧ j < D.length + 1 then x.1 else vs j)) : RowD V h n (D ++ [x]) := by
  obtain ⟨vs, h1, h2⟩ := hd.row
  refine ⟨_, hV vs h1, fun j hj => ?_⟩
  rw [wds_snoc D x j hj]
  simp only [List.length_append, List.length_cons, List.length_nil] at hj
  by_cases c : j < D.length
  · rw [if_pos c]
    show (if _ then _ else _) = _
    rw [if_neg (by omega)]
    exact h2 j c
  · rw [if_neg c]
    show (if _ then _ else _) = _
    rw [if_pos (by omega)]
/-- What is known of the spots. -/
structure TS (T : Tms) (mix : List Int) (L D F R : List PT) (C : List Spn) : Prop where
  play : D.map (·.2) ++ playL T mix (F.length + R.length) D.length (F.map (·.2) ++ R.map (·.2)) = C
  perm : (D ++ (F ++ R)).Perm L
  tm : ∀ x ∈ L, x.1.tm = spT T x.2
theorem TS.front {T : Tms} {mix : List Int} {L D F R : List PT} {C : List Spn} (h : TS T mix L D F R C) {x : PT} (hx : x ∈ F) : x.1.tm = spT T x.2 := h.tm x (h.perm.mem_iff.1 (by simp [hx]))
theorem TS.rest {T : Tms} {mix : List Int} {L D F R : List PT} {C : List Spn} (h : TS T mix L D F R C) {x : PT} (hx : x ∈ R) : x.1.tm = spT T x.2 := h.tm x (h.perm.mem_iff.1 (by simp [hx]))
theorem TS.pick {T : Tms} {mix : List Int} {L D F R : List PT} {C : List Spn} (h : TS T mix L D F R C) (hF : F ≠ []) {τ : Nat → Int} (h1 : ∀ x ∈ F, eq8 x.1.tm τ = true) (h2 : ∀ x ∈ R, befB τ x.1.tm = true) :
    TS T mix L (D ++ [F[pickK mix D.length F.length]?.getD ptD]) (F.eraseIdx (pickK mix D.length F.length)) R C := by
  have hk := pickK_lt mix D.length (List.length_pos_iff.2 hF)
  obtain ⟨k, hkk⟩ : ∃ k, k = pickK mix D.length F.length := ⟨_, rfl⟩
  rw [← hkk] at hk ⊢
  have hx : F[k]? = some (F[k]?.getD ptD) := by simp [hk]
  have hl : (F.eraseIdx k).length = F.length - 1 := by rw [List.length_eraseIdx, if_pos hk]
  refine ⟨?_, ?_, h.tm⟩
  · have hp := play_front (T := T) (f := F.map (·.2)) (r := R.map (·.2)) (τ := τ) mix (F.length - 1 + R.length) D.length (by simpa using hF) (fun y hy => by
      obtain ⟨x, hxm, rfl⟩ := List.mem_map.1 hy
      rw [← h.front hxm]
      exact h1 x hxm) (fun y hy => by
      obtain ⟨x, hxm, rfl⟩ := List.mem_map.1 hy
      rw [← h.rest hxm]
      exact h2 x hxm)
    rw [List.length_map, ← hkk, show F.length - 1 + R.length + 1 = F.length + R.length by omega] at hp
    rw [← h.play, hp, hl]
    simp only [List.map_append, List.map_cons, List.map_nil, List.append_assoc, List.singleton_append, List.length_append, List.length_cons, List.length_nil, Nat.zero_add]
    congr 2
    · simp [hk]
    · rw [map_erase]
  · refine List.Perm.trans ?_ h.perm
    rw [List.append_assoc]
    refine List.Perm.append_left D ?_
    rw [List.singleton_append, ← List.cons_append]
    exact (perm_erase F k _ hx).append_right R
/-- The next ones of one time. -/
theorem TS.next {T : Tms} {mix : List Int} {L D R : List PT} {C : List Spn} (h : TS T mix L D [] R C) (k : Nat) : TS T mix L D (R.take k) (R.drop k) C := by
  refine ⟨?_, by rw [List.take_append_drop]; simpa using h.perm, h.tm⟩
  rw [← h.play, ← List.map_append, List.take_append_drop]
  simp only [List.length_take, List.length_drop, List.map_nil, List.nil_append, List.length_nil, Nat.zero_add]
  congr 2
  omega
theorem TS.done {T : Tms} {mix : List Int} {L D : List PT} {C : List Spn} (h : TS T mix L D [] [] C) : D.map (·.2) = C ∧ D.Perm L := by
  refine ⟨?_, by simpa using h.perm⟩
  have := h.play
  simpa [playL] using this
/-- In a sorted list those of the first time stand in front. -/
theorem split_times {R : List PT} (hs : R.Pairwise (fun a b => befB b.1.tm a.1.tm = false)) {k : Nat} (hk0 : 0 < k) (hk : k ≤ R.length) (h1 : ∀ j, j < k → cmpT (wds R j).tm (wds R 0).tm = 0) (h2 : k < R.length → cmpT (wds R k).tm (wds R 0).tm ≠ 0) :
    (∀ x ∈ R.take k, eq8 x.1.tm (wds R 0).tm = true) ∧ ∀ x ∈ R.drop k, befB (wds R 0).tm x.1.tm = true := by
  constructor
  · intro x hx
    obtain ⟨j, hj, rfl⟩ := List.mem_iff_getElem.1 hx
    rw [List.length_take] at hj
    have := h1 j (by omega)
    have e : wds R j = ((R.take k)[j]'(by rw [List.length_take]; omega)).1 := by
      unfold wds
      simp [show j < R.length by omega]
    rw [e] at this
    rw [← cmpT_zero]
    have h3 := cmpT_zero (wds R 0).tm ((R.take k)[j]'(by rw [List.length_take]; omega)).1.tm
    rw [this] at h3
    have h4 := (eq8_iff _ _).1 h3.symm
    rw [cmpT_same (fun i hi => (h4 i hi))]
    rfl
  · intro x hx
    obtain ⟨j, hj, rfl⟩ := List.mem_iff_getElem.1 hx
    rw [List.length_drop] at hj
    have hkR : k < R.length := by omega
    have hp := List.pairwise_iff_getElem.1 hs
    rw [List.getElem_drop]
    have e0 : wds R 0 = (R[0]'(by omega)).1 := by unfold wds; simp [show 0 < R.length by omega]
    have ek : wds R k = R[k].1 := by unfold wds; simp [hkR]
    have hne := h2 hkR
    have hle : befB R[k].1.tm (R[0]'(by omega)).1.tm = false := hp 0 k (by omega) hkR hk0
    have hlt : befB (R[0]'(by omega)).1.tm R[k].1.tm = true := by
      rw [e0, ek] at hne
      rcases befB_tri (R[0]'(by omega)).1.tm R[k].1.tm with c | c | c
      · exact c
      · rw [c] at hle; cases hle
      · exact absurd (cmpT_same (fun i hi => (c i hi).symm)) hne
    rw [e0]
    rcases Nat.eq_zero_or_pos j with c | c
    · subst c
      exact hlt
    · have h5 : befB R[k + j].1.tm R[k].1.tm = false := hp k (k + j) hkR (by omega) (by omega)
      exact befB_mid2 hlt h5
end Go.Proofs.Ytoidgdbgpbcebaa.V
namespace Go.Proofs.Ytoidgdbgpbcebaa.V
open Go Go.Shelf Go.RowKit Go.Lib Go.Sort Go.Proofs Go.Proofs.Ytoidgdbgpbcebaa.S
set_option linter.unusedVariables false

theorem setCells_heap2 (g : Nat) : ∀ (vs : List Value) (o : Nat) (w : World) (cur : Array Value) (t : TypeId) (z : Nat × Nat), w.heap[g]? = some (.cells cur t z) → ∃ cur', (w.setCells g o vs).heap[g]? = some (.cells cur' t z) ∧ cur'.size = cur.size
  | [], o, w, cur, t, z, h => ⟨cur, h, rfl⟩
  | v :: r, o, w, cur, t, z, h => by
    rw [World.setCells]
    obtain ⟨c2, e1, e2⟩ := setCells_heap2 g r (o + 1) (w.setCell ⟨g, o, none⟩ v) (cur.setIfInBounds o v) t z (by
      rw [setCell_eq]
      unfold mapBlock onCells
      rw [Array.getElem?_modify, if_pos rfl, h]
      rfl)
    exact ⟨c2, e1, by rw [e2]; simp⟩
/-- A row with room for n spots, of which the first are known. -/
structure RowO (W : World) (h n : Nat) (D : List PT) : Prop where
  blk : ∃ cur, W.heap[h]? = some (.cells cur 59 (0, 0)) ∧ n * 15 ≤ cur.size
  at_ : ∀ j, j < D.length → ∀ i, i < 15 → W.cell? ⟨h, j * 15 + i, none⟩ = (wds D j).cs[i]?
theorem RowO.lt {W : World} {h n : Nat} {D : List PT} (r : RowO W h n D) : h < W.heap.size := by
  obtain ⟨cur, e, _⟩ := r.blk
  exact lt_of_heap e
theorem RowO.move {W V : World} {h n : Nat} {D : List PT} (r : RowO W h n D) (e : V.heap[h]? = W.heap[h]?) : RowO V h n D := by
  obtain ⟨cur, e1, e2⟩ := r.blk
  exact ⟨⟨cur, e.trans e1, e2⟩, fun j hj i hi => (World.cell?_of_block (w := W) (w' := V) (a := ⟨h, j * 15 + i, none⟩) e).trans (r.at_ j hj i hi)⟩
theorem RowO.below {W V : World} {h n : Nat} {D : List PT} (r : RowO W h n D) (hb : Below W.heap.size W V) : RowO V h n D := r.move (hb.block h r.lt)
theorem RowO.rw_ {W V : World} {h n g : Nat} {D : List PT} (r : RowO W h n D) (hb : Rw g W V) (hne : h ≠ g) : RowO V h n D := r.move (hb.grown.block h r.lt (fun e => hne (Option.some.inj e)))
theorem RowO.some_ {W : World} {h n : Nat} {D : List PT} (r : RowO W h n D) {t : Nat} (ht : t < n * 15) : (W.cell? ⟨h, t, none⟩).isSome = true := by
  obtain ⟨cur, e, e2⟩ := r.blk
  have : t < cur.size := by omega
  simp [World.cell?, e, this]
theorem RowO.free {W : World} {h n : Nat} {D : List PT} (r : RowO W h n D) (t : Nat) : W.frozen? ⟨h, t, none⟩ = false := by
  obtain ⟨cur, e, e2⟩ := r.blk
  simp [World.frozen?, e]
theorem RowO.app {W : World} {h n : Nat} {D : List PT} (r : RowO W h n D) (x : PT) (hn : D.length < n) : RowO (W.setCells h (D.length * 15) (twCs x.1)) h n (D ++ [x]) := by
  obtain ⟨cur, e, e2⟩ := r.blk
  obtain ⟨c2, e3, e4⟩ := setCells_heap2 h (twCs x.1) (D.length * 15) W cur _ _ e
  refine ⟨⟨c2, e3, by omega⟩, fun j hj i hi => ?_⟩
  rw [wds_snoc D x j hj]
  simp only [List.length_append, List.length_cons, List.length_nil] at hj
  by_cases c : j < D.length
  · rw [if_pos c, World.cell?_setCells_out h (twCs x.1) (D.length * 15) W ⟨h, j * 15 + i, none⟩ (fun _ _ => by simp only [twCs_len]; omega)]
    exact r.at_ j c i hi
  · rw [if_neg c]
    obtain rfl : j = D.length := by omega
    have hin := World.cell?_setCells_in h (twCs x.1) (D.length * 15) W (fun t ht => r.some_ (by rw [twCs_len] at ht; omega)) i (by rw [twCs_len]; exact hi)
    rw [hin]
    unfold twCs
    simp
theorem RowO.full {W : World} {h n : Nat} {D : List PT} (r : RowO W h n D) (hn : D.length = n) : RowS W h n (wds D) := by
  obtain ⟨cur, e, _⟩ := r.blk
  exact ⟨⟨cur, e⟩, fun j hj i hi => r.at_ j (by omega) i hi⟩
/-- append(out, spot), where there is room. -/
theorem app_out {w : World} {ops : Array Oper} {rest : List Oper} {op : Oper} {a : Act} {Q : Exit → Act → World → Prop} (hgd : op.guard = none) (s x : Operand)
    (ho : op.op = .call { callee := .builtin .append, args := #[s, x], argTypes := #[48, 48] }) (h n : Nat) (D : List PT) (y : PT) (hrow : RowO w h n D) (hs : a.eval s = .slice (some ⟨h, 0, none⟩) D.length n)
    (X : Nat) (hx : a.eval x = .slice (some ⟨X, 0, none⟩) 1 1) (hX : w.heap[X]? = some (.cells y.1.cs 59 (0, 0))) (hn : D.length < n)
    (hK : wpList Try.prog ops Q rest (a.put op.dst (.slice (some ⟨h, 0, none⟩) (D.length + 1) n)) (w.setCells h (D.length * 15) (twCs y.1))) : wpList Try.prog ops Q (op :: rest) a w := by
  obtain ⟨i0, hi, hz0, hz1, hz2⟩ := info_parts info_T
  refine wpList_plain hgd fun K hK' => ?_
  have hr := run_append_room_src (P := Try.prog) w 48 48 op.type 59 i0 Try.underlying48 hi h 0 D.length n (.slice (some ⟨X, 0, none⟩) 1 1) 1 (twCs y.1) (Src.ofSlice w Try.underlying48 ⟨X, 0, none⟩ 1 1 _ (by rw [hz1]; rfl) (fun j u hj => by
    rw [Go.WideShapes.add_plain]
    unfold World.cell?
    rw [hX]
    have : y.1.cs[0 + j]? = some u := by
      rw [Nat.zero_add, ← hj]
      exact Array.getElem?_toList.symm
    simpa using this) (tw_one y.1)) (by omega) (fun j hj => by
    rw [hz1, Nat.zero_add]
    exact hrow.some_ (by rw [twCs_len] at hj; omega)) (fun j _ => hrow.free _)
  rw [hz1, Nat.zero_add] at hr
  unfold Oper.wp execOp
  simp only [ho, resolve, invoke, builtin, Sem.run_bind, Sem.run_pure, Result.andThen_ok, List.map_toArray, List.map_cons, List.map_nil, hs, hx, hr]
  exact hK' _ _ hK
theorem ints_rw {W V : World} {g : Nat} {xa : Option Addr} {xl : Nat} {mix : List Int} (h : Ints W xa xl mix) (hb : Rw g W V) (hne : 0 < xl → ∀ b o, xa = some ⟨b, o, none⟩ → b ≠ g) : Ints V xa xl mix := by
  obtain ⟨h1, h2, h3, h4⟩ := h
  refine ⟨h1, h2, h3, ?_⟩
  rcases h4 with e | ⟨b, off, e, h5⟩
  · exact .inl e
  · exact .inr ⟨b, off, e, fun j hj => (World.cell?_of_block (w := W) (w' := V) (a := ⟨b, off + j, none⟩) (hb.grown.block b (lt_of_cell (h5 j hj)) (fun k => hne (by omega) b off e (Option.some.inj k)))).trans (h5 j hj)⟩
/-- What stands of memory while spots are taken out one by one. -/
structure MS (W0 W : World) (g N h n : Nat) (xa : Option Addr) (xl xc : Nat) (mix : List Int) (D : List PT) : Prop where
  out : RowO W h n D
  ask : W.heap[N + 1]? = some (.cells #[.int .i64 (askT mix D.length)] 3 (0, 0))
  bx : W.cell? ⟨N, 0, none⟩ = some (.slice xa xl xc)
  mix_ : Ints W xa xl mix
  rw_ : Rw g W0 W
/-- Which blocks these are. -/
structure Places (W0 : World) (g N h : Nat) (xa : Option Addr) (xl : Nat) : Prop where
  gN : g < W0.heap.size
  N0 : W0.heap.size ≤ N
  hN : N + 2 ≤ h
  xg : 0 < xl → ∀ b o, xa = some ⟨b, o, none⟩ → b ≠ g ∧ b < W0.heap.size
theorem MS.below {W0 W V : World} {g N h n : Nat} {xa : Option Addr} {xl xc : Nat} {mix : List Int} {D : List PT} (m : MS W0 W g N h n xa xl xc mix D) (p : Places W0 g N h xa xl) (hb : Below W.heap.size W V) : MS W0 V g N h n xa xl xc mix D :=
  ⟨m.out.below hb, (hb.block _ (lt_of_heap m.ask)).trans m.ask, (World.cell?_of_block (a := ⟨N, 0, none⟩) (hb.block N (lt_of_cell m.bx))).trans m.bx, m.mix_.below hb, m.rw_.trans (Rw.of_below (Nat.lt_of_lt_of_le p.gN m.rw_.grown.size) hb)⟩
/-- The row that is emptied has been written. -/
theorem MS.rowg {W0 W V : World} {g N h n : Nat} {xa : Option Addr} {xl xc : Nat} {mix : List Int} {D : List PT} (m : MS W0 W g N h n xa xl xc mix D) (p : Places W0 g N h xa xl) (hb : Rw g W V) : MS W0 V g N h n xa xl xc mix D := by
  have h1 := p.gN
  have h2 := p.N0
  have h3 := p.hN
  exact ⟨m.out.rw_ hb (by omega), (hb.grown.block _ (lt_of_heap m.ask) (fun e => by have := Option.some.inj e; omega)).trans m.ask, (World.cell?_of_block (a := ⟨N, 0, none⟩) (hb.grown.block N (lt_of_cell m.bx) (fun e => by have := Option.some.inj e; omega))).trans m.bx, ints_rw m.mix_ hb (fun q b o e => (p.xg q b o e).1), m.rw_.trans hb⟩
theorem Rw.far {g g2 : Nat} {W0 W V : World} (h : Rw g W0 W) (hb : Rw g2 W V) (h2 : W0.heap.size ≤ g2) (hg : g < W0.heap.size) : Rw g W0 V := by
  refine ⟨⟨hb.grown.os.trans h.grown.os, hb.grown.tape.trans h.grown.tape, hb.grown.output.trans h.grown.output, Nat.le_trans h.grown.size hb.grown.size, fun i hi hne => (hb.grown.block i (Nat.lt_of_lt_of_le hi h.grown.size) (fun e => by have := Option.some.inj e; omega)).trans (h.grown.block i hi hne)⟩, fun cur t z e => ?_⟩
  obtain ⟨c1, e1⟩ := h.blk cur t z e
  exact ⟨c1, (hb.grown.block g (lt_of_heap e1) (fun k => by have := Option.some.inj k; omega)).trans e1⟩
/-- It has been asked who is next. -/
theorem MS.asked {W0 W V : World} {g N h n : Nat} {xa : Option Addr} {xl xc : Nat} {mix : List Int} {D : List PT} (m : MS W0 W g N h n xa xl xc mix D) (p : Places W0 g N h xa xl) (hb : Rw (N + 1) W V) (ha : V.heap[N + 1]? = some (.cells #[.int .i64 (askT mix (D.length + 1))] 3 (0, 0))) (x : PT) (hn : D.length < n) {U : World} (hU : Below V.heap.size V U) :
    MS W0 (U.setCells h (D.length * 15) (twCs x.1)) g N h n xa xl xc mix (D ++ [x]) := by
  have h1 := p.gN
  have h2 := p.N0
  have h3 := p.hN
  have o1 := (m.out.rw_ hb (by omega)).below hU
  have rs := Rw.set (g := h) U (D.length * 15) (twCs x.1) o1.lt
  have m1 : Ints U xa xl mix := (ints_rw m.mix_ hb (fun q b o e => by have := (p.xg q b o e).2; omega)).below hU
  have b1 : U.cell? ⟨N, 0, none⟩ = some (.slice xa xl xc) := (World.cell?_of_block (a := ⟨N, 0, none⟩) ((hU.block N (Nat.lt_of_lt_of_le (lt_of_cell m.bx) hb.grown.size)).trans (hb.grown.block N (lt_of_cell m.bx) (fun e => by have := Option.some.inj e; omega)))).trans m.bx
  have a1 := (hU.block (N + 1) (lt_of_heap ha)).trans ha
  refine ⟨o1.app x hn, ?_, ?_, ints_rw m1 rs (fun q b o e => by have := (p.xg q b o e).2; omega), ?_⟩
  · rw [List.length_append]
    exact (rs.grown.block (N + 1) (lt_of_heap a1) (fun e => by have := Option.some.inj e; omega)).trans a1
  · exact (World.cell?_of_block (a := ⟨N, 0, none⟩) (rs.grown.block N (lt_of_cell b1) (fun e => by have := Option.some.inj e; omega))).trans b1
  · exact ((m.rw_.far hb (by omega) h1).trans (Rw.of_below (Nat.lt_of_lt_of_le h1 (m.rw_.far hb (by omega) h1).grown.size) hU)).far rs (by omega) h1
end Go.Proofs.Ytoidgdbgpbcebaa.V
namespace Go.Proofs.Ytoidgdbgpbcebaa.V
open Go Go.RowKit Go.Shelf
attribute [local go_sem] Oper.semAt_some
set_option linter.unusedVariables false

/-- A chunk of a row of N spots in block h. -/
def chunkV (h N j : Nat) : Value := .slice (some ⟨h, 256 * j * 15, none⟩) (min 256 (N - 256 * j)) (min 256 (N - 256 * j))
def chunksV (h N : Nat) : List Value := (List.range ((N + 255) / 256)).map (chunkV h N)
theorem chunks_here (h N : Nat) {j : Nat} (hj : 256 * j < N) : ∃ post, chunksV h N = (List.range j).map (chunkV h N) ++ chunkV h N j :: post := by
  unfold chunksV
  have hc : j < (N + 255) / 256 := by omega
  obtain ⟨d, hd⟩ : ∃ d, (N + 255) / 256 = j + (d + 1) := ⟨(N + 255) / 256 - j - 1, by omega⟩
  rw [hd, List.range_add, List.map_append, List.range_succ_eq_map]
  refine ⟨List.map (chunkV h N) (List.map (fun x => j + x) (List.map Nat.succ (List.range d))), ?_⟩
  simp only [List.map_cons, Nat.add_zero]
theorem chunks_all (h N : Nat) {j : Nat} (hj : N ≤ 256 * j) (hj2 : 256 * j < N + 256) : chunksV h N = (List.range j).map (chunkV h N) := by
  unfold chunksV
  rw [show (N + 255) / 256 = j by omega]
set_option maxRecDepth 100000 in
theorem chunk_any (A : Option Addr) (N cap : Nat) (w : World) : Calls Try.prog 18 #[.slice A N cap, .int .i64 256] w fun e w' => e = .returned (.func (.func 48) #[] #[.pointer (some ⟨w.heap.size, 0, none⟩), .pointer (some ⟨w.heap.size + 1, 0, none⟩)]) ∧ w' = (w.alloc (.cells #[.slice A N cap] 48)).alloc (.cells #[.int .i64 256] 3) := by
  go_enter Try.func18, Try.ntmps18
  go_wp2
  go_ret
  exact ⟨rfl, rfl⟩
set_option maxRecDepth 100000 in
set_option maxHeartbeats 4000000 in
theorem chunk1_tells (n : Nat) (hn : 1 ≤ n) (b1 b2 h N : Nat) (hNN : N ≤ 1000000) (Kp : World → World → Prop) (Good : World → Prop) (hGP : ∀ A, Good A → A.cell? ⟨b1, 0, none⟩ = some (.slice (some ⟨h, 0, none⟩) N N) ∧ A.cell? ⟨b2, 0, none⟩ = some (.int .i64 256)) (hGB : ∀ A B, Good A → Below A.heap.size A B → Good B)
    (hKs : ∀ A B, Kp A B → A.heap.size ≤ B.heap.size) (hKG : ∀ A B, Kp A B → Good A → Good B) (w : World) (hG : Good w) :
    TellsV FW n Try.prog 48 #[.pointer (some ⟨b1, 0, none⟩), .pointer (some ⟨b2, 0, none⟩)] (chunksV h N) Kp w := by
  intro l J Jx W hW hJ hJx hY h0
  have hro : FW.round = none := rfl
  have Hg1 := hide (hGB _ _ hG hW)
  have hf := fun w => pt_func_nil (P := Try.prog) w _ _ _ _ Try.underlying103 (.yield l) #[] #[]
  have HGP := hide hGP
  have HGB := hide hGB
  have HY := hide hY
  have HJ := hide hJ
  have H0 := hide h0
  have HKG := hide hKG
  have HKS := hide hKs
  clear hG hY hJ hJx h0 hKG hKs hGP hGB
  refine callsIn_of_wp Try.func48 rfl trivial ?_ hro
  simp only [Try.ntmps48, List.size_toArray, List.length_cons, List.length_nil, Nat.reduceAdd, Nat.reduceSub, Array.replicate_succ, Array.replicate_zero, List.push_toArray, List.append_toArray, List.nil_append, List.cons_append]
  gi_wp2_with fail
  gi_loopw [4] (fun v wr => ∃ j i : Nat, v = .int .i64 i ∧ Hid (i = 256 * j) ∧ i < N + 256 ∧ J ((List.range j).map (chunkV h N)) wr ∧ Good wr ∧ W.heap.size ≤ wr.heap.size) (fun v _ => N - (intOf v).toNat)
  case atStart => exact ⟨0, 0, rfl, rfl, by omega, H0.out, Hg1.out, Nat.le_refl _⟩
  case round =>
    obtain ⟨j, i, rfl, HI, hiN, hJs, hgr, hsz⟩ := hrel
    obtain ⟨c1, c2⟩ := HGP.out _ hgr
    have z1 := lt_of_cell c1
    have z2 := lt_of_cell c2
    have HJS := hide hJs
    have Hgr := hide hgr
    have HSZ := hide hsz
    clear hJs hgr hsz
    by_cases hlt : i < N
    · have hltz : (i : Int) < (N : Int) := by omega
      obtain ⟨e, he⟩ : ∃ e, e = min 256 (N - i) := ⟨_, rfl⟩
      obtain ⟨d, hd⟩ : ∃ d, d = N - i := ⟨_, rfl⟩
      have hdz : (N : Int) - (i : Int) = (d : Int) := by omega
      have hmin : min (256 : Int) (d : Int) = (e : Int) := by omega
      have hmin2 : min 256 d = e := by omega
      have he0 : 0 < e := by omega
      have heN : i + e ≤ N := by omega
      have hNi : ¬ N = i := by omega
      have hile : (i : Int) ≤ (N : Int) := by omega
      have hile' : i ≤ N := by omega
      have hd2 : N - i = d := hd.symm
      have HE := hide he
      clear he hd
      gi_wp2_with fail
      refine wpIn_wide.2 ?_
      refine region_made 6 7 [fIs (.int .i64 256), fIs (.slice (some ⟨h, 0, none⟩) N N), fIs (.int .i64 (i : Int)), fIs (.slice (some ⟨h, i * 15, none⟩) d d), fIs (.int .i64 (d : Int)), fIs (.int .i64 (e : Int))] (by kernel_rfl) (by kernel_rfl) (by kernel_rfl) (fun _ ⟨_, _⟩ ⟨_, _⟩ _ e h => by cases e; exact h) ⟨fIs_good _, fIs_good _, fIs_good _, fIs_good _, fIs_good _, fIs_good _, trivial⟩ ?mk ?rest
      case mk =>
        refine ⟨fun u wz hb hd => ?_, fun u wz hb hd => ?_, fun u wz hb hd => ?_, fun u wz hb hd => ?_, fun u wz hb hd => ?_, fun u wz hb hd => ?_, trivial⟩
        all_goals simp only [Act.put, List.setIfInBounds_toArray, List.set_cons_zero, List.set_cons_succ]
        · have c2' := (hb.cell (p := ⟨b2, 0, none⟩) (lt_of_cell c2)).trans c2
          go_simp
          exact ⟨rfl, Below.refl _ _, fun h => by cases h⟩
        · have c1' := (hb.cell (p := ⟨b1, 0, none⟩) (lt_of_cell c1)).trans c1
          go_simp
          exact ⟨rfl, Below.refl _ _, fun h => by cases h⟩
        · go_simp
          exact ⟨rfl, Below.refl _ _, fun h => by cases h⟩
        · have e1 : u 1 = .slice (some ⟨h, 0, none⟩) N N := hd 1 (by omega) (by kernel_rfl)
          have e2 : u 2 = .int .i64 (i : Int) := hd 2 (by omega) (by kernel_rfl)
          rw [e1, e2]
          go_simp
          exact ⟨rfl, Below.refl _ _, fun h => by cases h⟩
        · have e3 : u 3 = .slice (some ⟨h, i * 15, none⟩) d d := hd 3 (by omega) (by kernel_rfl)
          rw [e3]
          go_simp
          exact ⟨rfl, Below.refl _ _, fun h => by cases h⟩
        · have e0 : u 0 = .int .i64 256 := hd 0 (by omega) (by kernel_rfl)
          have e4 : u 4 = .int .i64 (d : Int) := hd 4 (by omega) (by kernel_rfl)
          rw [e0, e4]
          go_simp
          exact ⟨rfl, Below.refl _ _, fun h => by cases h⟩
      case rest =>
        intro u wz hb hf hp
        have f0 : u 0 = .int .i64 256 := hf 0 (by omega)
        have f1 : u 1 = .slice (some ⟨h, 0, none⟩) N N := hf 1 (by omega)
        have f2 : u 2 = .int .i64 (i : Int) := hf 2 (by omega)
        have f3 : u 3 = .slice (some ⟨h, i * 15, none⟩) d d := hf 3 (by omega)
        have f4 : u 4 = .int .i64 (d : Int) := hf 4 (by omega)
        have f5 : u 5 = .int .i64 (e : Int) := hf 5 (by omega)
        refine UptoW.rest 1 6 (by rfl) (by kernel_rfl) ?_
        simp only [List.take, List.drop, putOps, Act.put, List.setIfInBounds_toArray, List.set_cons_zero, List.set_cons_succ, Nat.reduceAdd, f0, f1, f2, f3, f4, f5]
        clear f0 f1 f2 f3 f4 f5 hf hp
        have Hgz := hide (HGB.out _ _ Hgr.out hb)
        have HJZ := hide (abides_below HJ.out HJS.out hb)
        have HSZ2 : Hid (W.heap.size ≤ wz.heap.size) := Nat.le_trans HSZ.out hb.size
        obtain ⟨x1, x2⟩ := HGP.out _ Hgz.out
        have y1 := lt_of_cell x1
        have y2 := lt_of_cell x2
        have hi := HI.out
        obtain ⟨post, hpost⟩ := chunks_here h N (j := j) (by omega)
        have hcv : chunkV h N j = .slice (some ⟨h, i * 15, none⟩) e e := by
          unfold chunkV
          rw [← hi, ← HE.out]
        rw [hcv] at hpost
        obtain ⟨fn, tmps, assign, body, hy, hR⟩ := HY.out _ _ post wz hpost HJZ.out
        have HR := hide hR
        have HCV := hide hcv
        have hez : (i : Int) + (e : Int) ≤ (N : Int) := by omega
        have hne : ¬ i + e = i := by omega
        clear hb hR hpost hcv hi c1 c2 z1 z2
        go_wp2_with fail
        gi_wp2_with fail
        refine HR.out.mono ?_
        rintro ex w4 (⟨rfl, j4, k4⟩ | ⟨rfl, jx4⟩)
        · have HJ4 := hide j4
          have Hg4 := hide (HKG.out _ _ k4 Hgz.out)
          have HS4 := hide (HKS.out _ _ k4)
          obtain ⟨q1, q2⟩ := HGP.out _ Hg4.out
          have r1 := lt_of_cell q1
          have r2 := lt_of_cell q2
          clear HR hy j4 k4 x1 x2 y1 y2
          gi_wp2
          go_roundw
          case rel => exact ⟨j + 1, i + 256, by go_num, by rw [Hid, HI.out]; omega, by omega, by rw [List.range_succ, List.map_append, List.map_cons, List.map_nil, HCV.out]; exact HJ4.out, Hg4.out, Nat.le_trans HSZ2.out HS4.out⟩
          case measure => simp [intOf]; omega
        · have HJ4 := hide jx4
          clear HR hy jx4
          gi_wp2
          refine bodyPost_ret (results_none rfl _ _ _) rfl ?_
          exact ⟨⟨_, rfl⟩, .inr HJ4.out⟩
    · have hltz : ¬ (i : Int) < (N : Int) := by omega
      gi_wp2
      go_end0
      refine ⟨⟨_, rfl⟩, .inl ?_⟩
      have hi := HI.out
      rw [chunks_all h N (j := j) (by omega) (by omega)]
      exact HJS.out
end Go.Proofs.Ytoidgdbgpbcebaa.V
