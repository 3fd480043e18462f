/-
  Contract: room.Load.
-/
import Derived.Test.YtnncalhpbfmgoaaRmLoad
namespace Go.Proofs.Ytnncalhpbfmgoaa.V
open Go Go.Shelf Go.RowKit Go.Lib Go.Sort Go.Proofs
set_option linter.unusedVariables false

theorem chg_small {l : List Lf} (h : ∀ x ∈ l, LfOk x) : ∀ c ∈ chg l, -1048576 ≤ c.2 ∧ c.2 ≤ 1048576 := fun c hc => by
  simp only [chg, List.mem_flatMap, List.mem_cons, List.not_mem_nil, or_false] at hc
  obtain ⟨x, hx, rfl | rfl⟩ := hc
  · have := h x hx; exact ⟨by have := this.w0; simp; omega, this.w1⟩
  · have := h x hx; exact ⟨by have := this.w1; simp; omega, by have := this.w0; simp; omega⟩
theorem fold_bd : ∀ (cs : List (Int × Int)), (∀ c ∈ cs, -1048576 ≤ c.2 ∧ c.2 ≤ 1048576) → ∀ n m : Int, n - 1048576 * cs.length ≤ (cs.foldl stepC (n, m)).1 ∧ (cs.foldl stepC (n, m)).1 ≤ n + 1048576 * cs.length
  | [], _, n, m => by simp
  | c :: cs, h, n, m => by
    have h1 := h c (by simp)
    have h2 := fold_bd cs (fun d hd => h d (by simp [hd])) (n + c.2) (max m (n + c.2))
    simp only [List.foldl_cons, stepC, List.length_cons] at h2 ⊢
    omega
theorem take_succC (cs : List (Int × Int)) (k : Nat) (h : k < cs.length) : cs.take (k + 1) = cs.take k ++ [cs[k]?.getD (0, 0)] := by
  rw [List.take_succ_eq_append_getElem h]; simp [h]
theorem max_ite (a b : Int) : (if a < b then b else a) = max a b := by split <;> omega
set_option maxHeartbeats 2000000 in
theorem load_any (a : Option Addr) (len cap : Nat) (ls : List Lf) (w : World) (h : Lives w a len ls) :
    Calls Try.prog 8 #[.slice a len cap] w fun e w' => e = .returned (.tuple #[.int .i64 (if livesE ls = 0 then loadV ls else 0), .int .i64 (livesE ls)]) ∧ Below w.heap.size w w' := by
  have HL := hide h.1
  have H := hide h
  have HW := hide (rmWrong_any a len cap ls w h)
  clear h
  by_cases hE : livesE ls = 0
  · obtain ⟨hl4, hok⟩ := livesE_ok hE
    have hlen : len ≤ 4096 := by rw [← HL.out]; exact hl4
    rw [if_pos hE]
    have HE := hide hE
    have HO := hide hok
    rw [hE]
    clear hE hl4 hok
    go_enter Try.func8, Try.ntmps8
    go_wp2_with (first
      | (go_at_call 10; refine HW.out.mono ?_; rintro e w1 ⟨rfl, hb⟩; rw [HE.out]; have HB1 := hide hb; clear hb)
      | (go_at_call 22; refine (changes_any a len cap ls _ (H.out.below HB1.out) HE.out).mono ?_; rintro e w2 ⟨⟨g, c, cs, rfl, p1, p2, p3, p4⟩, hb⟩; have HP := hide (⟨p1, p2, p3⟩ : cs.Perm (chg ls) ∧ cs.Pairwise leC ∧ Chs w2 g cs); have HB2 := hide (bl_on HB1.out hb); clear p1 p2 p3 p4 hb))
    have hcl : cs.length = 2 * len := by rw [HP.out.1.length_eq, chg_len, HL.out]
    have HCL := hide hcl
    have HSM : Hid (∀ c ∈ cs, -1048576 ≤ c.2 ∧ c.2 ≤ 1048576) := fun c hc => chg_small HO.out c (HP.out.1.mem_iff.1 hc)
    clear hcl
    go_loopw [5, 6, 17] (fun v5 v6 i wr => ∃ (k : Nat) (n m : Int), k ≤ 2 * len ∧ i = .int .i64 k ∧ v5 = .int .i64 n ∧ v6 = .int .i64 m ∧ (cs.take k).foldl stepC (0, 0) = (n, m) ∧ Chs wr g cs ∧ Below w.heap.size w wr) (fun _ _ i _ => 2 * len - (intOf i).toNat)
    case atStart => exact ⟨0, 0, 0, Nat.zero_le _, rfl, rfl, rfl, rfl, HP.out.2.2, HB2.out⟩
    case round =>
      obtain ⟨k, n, m, hk, rfl, rfl, rfl, hf, hc, hB⟩ := hrel
      have HF := hide hf
      have HC := hide hc
      have HB := hide hB
      clear hf hc hB
      by_cases hlt : k < 2 * len
      · have hkl : k < cs.length := by rw [HCL.out]; exact hlt
        obtain ⟨c1, c2⟩ := HC.out k hkl
        have HT := hide (take_succC cs k hkl)
        have hbd := fold_bd (cs.take k) (fun c hc => HSM.out c (List.mem_of_mem_take hc)) 0 0
        rw [HF.out, List.length_take] at hbd
        have hsm := HSM.out (cs[k]?.getD (0, 0)) (by simp [hkl])
        obtain ⟨q, hq⟩ : ∃ q, q = cs[k]?.getD (0, 0) := ⟨_, rfl⟩
        rw [← hq] at c1 c2 HT hsm
        have z1 := lt_of_cell c1
        simp only at z1
        have hmin : min k cs.length ≤ 8192 := by omega
        have hw : IntKind.i64.wrap (n + q.2) = n + q.2 := by rw [IntKind.wrap_i64]; simp only at hbd; omega
        have HN : Hid ((cs.take (k + 1)).foldl stepC (0, 0) = (n + q.2, max m (n + q.2))) := by
          rw [Hid, HT.out, List.foldl_append, HF.out]; rfl
        have hlt' : (k : Int) < 2 * (len : Int) := by omega
        have hlt2 : (k : Int) < ((2 * len : Nat) : Int) := by omega
        have HC3 := hide (HC.out.below (bl_new (.cells #[.int .i64 q.1, .int .i64 q.2] 43)))
        have HB3 := hide (bl_on HB.out (bl_new (.cells #[.int .i64 q.1, .int .i64 q.2] 43)))
        clear hq hkl hbd hsm hmin
        go_wp2
        go_roundw
        case rel => exact ⟨k + 1, n + q.2, max m (n + q.2), by omega, by go_num, rfl, rfl, HN.out, HC3.out, HB3.out⟩
        case measure => simp [intOf]; omega
      · obtain rfl : k = 2 * len := by omega
        have hpk := peak_load HO.out HP.out.1 HP.out.2.1
        unfold peakC at hpk
        have hf := HF.out
        rw [List.take_of_length_le (by rw [HCL.out]; omega)] at hf
        rw [hf] at hpk
        have HPK := hide hpk
        clear hpk hf
        go_wp2
        refine bodyPost_ret (v := .tuple #[.int .i64 m, .int .i64 0]) (by simp [results, Try.results8, go_sem]) rfl ⟨by rw [← HPK.out], HB.out⟩
  · rw [if_neg hE]
    obtain ⟨E, hEE⟩ : ∃ E, E = livesE ls := ⟨_, rfl⟩
    rw [← hEE] at hE ⊢
    have HEE := hide hEE
    have hE' : (E != 0) = true := by simpa using hE
    clear hEE
    go_enter Try.func8, Try.ntmps8
    go_wp2_with (go_at_call 10; refine HW.out.mono ?_; rintro e w1 ⟨rfl, hb⟩; rw [← HEE.out]; have HB1 := hide hb; clear hb)
    refine bodyPost_ret (v := .tuple #[.int .i64 0, .int .i64 E]) (by simp [results, Try.results8, go_sem]) rfl ⟨rfl, HB1.out⟩
end Go.Proofs.Ytnncalhpbfmgoaa.V
