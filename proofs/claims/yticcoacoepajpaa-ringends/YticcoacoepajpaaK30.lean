/-
  Contract: the law's ends. How many words are sent: the law's counting. RingWords: the law's walk.
-/
import Derived.Test.YticcoacoepajpaaK28
import Derived.Test.YticcoacoepajpaaK26
import Derived.Test.YticcoacoepajpaaK29
import Derived.Deep.CutBlock
import Derived.Test.YticcoacoepajpaaK22
namespace Go.Proofs.Yticcoacoepajpaa.V
open Go Go.RowKit
set_option linter.unusedVariables false
set_option linter.unusedSimpArgs false

/-- What ends answers. -/
def EndAns (W : World) (d : Int) (xss : List (List Int)) (ps : List Int) (e : Ending) (w' : World) : Prop :=
  ∃ (sb sc : Nat) (v : Value) (qs : List (Sn × Sl × Sl)) (Fs : Nat → Nat → Prop), e = .returned (.tuple #[.slice (some ⟨sb, 0, none⟩) (endL xss.length (twV ps) (pickV ps) (2 * (xss.length * notN d.toNat xss.length) + xss.length)).length sc, v, .bool true]) ∧ (∃ N, ScA w' N sb 0 (endL xss.length (twV ps) (pickV ps) (2 * (xss.length * notN d.toNat xss.length) + xss.length))) ∧ (∃ B, OutAt w' B xss.length Fs v qs) ∧ qs.map (·.1) = (playM d.toNat xss.length (begP d.toNat xss.length xss) (endL xss.length (twV ps) (pickV ps) (2 * (xss.length * notN d.toNat xss.length) + xss.length))).2 ∧ Below W.heap.size W w'
theorem alk_team {d : Int} {xss : List (List Int)} (h : AlkP d xss) : teamE d xss = 0 := firstE_none _ fun j hj => by
  have hj' : j < xss.length := by simpa [wrongL] using hj
  rw [wrongL_at d xss hj']
  exact (h.all j hj').2.2
theorem below_app {N : Nat} {w1 wq w3 w' : World} {v : Value} {l : List Stp} {o : Obj} (hb : Below N w1 wq) (hN : N ≤ wq.heap.size) (hb3 : Below wq.heap.size wq w3) (hsc : ScR wq N v l) (hg : (w3.alloc o).grownBy w' v.ownBlock) : Below N w1 w' :=
  ((hb.trans (hb3.mono hN)).alloc (Nat.le_trans hN hb3.size) o).grown hg (by have := hb3.size; simp; omega) (fun j e => (RowC.lt hsc j e).1)
set_option maxRecDepth 20000 in
set_option maxHeartbeats 8000000 in
theorem ends_any (d : Int) (db doff dcap : Nat) (xss : List (List Int)) (X : Option Addr) (xm xc : Nat) (ps : List Int) (W : World) (hd : DtA W db doff xss) (hA : AlkP d xss) (hp : Ints W X xm ps) :
    Calls Try.prog 12 #[.int .i64 d, .slice (some ⟨db, doff, none⟩) xss.length dcap, .slice X xm xc] W fun e w' => EndAns W d xss ps e w' := by
  have HD := hide hd
  have HA := hide hA
  have HPP := hide hp
  have hn1 := hA.n1
  have hn6 := hA.n6
  unfold EndAns
  obtain ⟨n, hnn⟩ : ∃ n, n = xss.length := ⟨_, rfl⟩
  rw [← hnn] at hn1 hn6 ⊢
  have HN := hide hnn
  clear hd hA hp hnn
  obtain ⟨N, hN⟩ : ∃ N, N = notN d.toNat n := ⟨_, rfl⟩
  have hNb : N ≤ 10 := by rw [hN]; exact notN_small (by omega)
  have hno := rNotes_any d n (W.alloc (.cells #[.slice X xm xc] 33)) hn1 (by omega)
  rw [← hN] at hno ⊢
  have HNO := hide hno
  have HNN := hide hN
  obtain ⟨M, hM⟩ : ∃ M, M = n * N := ⟨_, rfl⟩
  have hMb : M ≤ 60 := by rw [hM]; exact Nat.mul_le_mul hn6 hNb
  have hMi : (n : Int) * (N : Int) = (M : Int) := by rw [hM]; simp
  rw [← hM]
  have HM := hide hM
  obtain ⟨tw, htw⟩ : ∃ tw, tw = twV ps := ⟨_, rfl⟩
  obtain ⟨pv, hpv⟩ : ∃ pv, pv = pickV ps := ⟨_, rfl⟩
  rw [← htw, ← hpv]
  have HTW := hide htw
  have HPV := hide hpv
  obtain ⟨L, hL⟩ : ∃ L, L = endL n tw pv (2 * M + n) := ⟨_, rfl⟩
  rw [← hL]
  have HL := hide hL
  obtain ⟨W1, hW1⟩ : ∃ W1, W1 = W.alloc (.cells #[.slice X xm xc] 33) := ⟨_, rfl⟩
  rw [← hW1] at HNO
  have hb1 : Below W.heap.size W W1 := by rw [hW1]; exact bl_new _
  have hs1 : W1.heap.size = W.heap.size + 1 := by rw [hW1]; simp
  have hc1 : W1.cell? ⟨W.heap.size, 0, none⟩ = some (.slice X xm xc) := by rw [hW1]; exact box_cell W _ _ 0 _ rfl
  have HB1 := hide hb1
  have HS1 := hide hs1
  have HC1 := hide hc1
  -- the picks, in whatever world behind
  have HPK : Hid (∀ (i : Nat) (wr : World), i ≤ 1000000 → Below (W.heap.size + 1) W1 wr → Calls Try.prog 28 #[.int .i64 (i : Int), .pointer (some ⟨W.heap.size, 0, none⟩)] wr fun e w' => e = .returned (.int .i64 (pv i)) ∧ Below wr.heap.size wr w') := fun i wr hi hb => by
    have hz : W.heap.size < W1.heap.size := by omega
    have h8 := pick_any W.heap.size X xm xc ps i wr hi ((World.cell?_of_block (hb.block W.heap.size (by omega))).trans hc1) ((HPP.out.below hb1).below ⟨hb.os, hb.tape, hb.output, by have := hb.size; omega, fun b h => hb.block b (by omega)⟩)
    rw [← hpv] at h8
    exact h8
  clear hN hM htw hpv hL hno hb1 hs1 hc1
  go_enter Try.func12, Try.ntmps12
  go_upto_region 3 with fail
  rw [← hW1]
  clear hW1
  go_wp2_with (go_at_call 27; refine HNO.out.mono ?_; rintro e w1 ⟨rfl, rfl⟩)
  have h2M : wrap64 (2 * (M : Int)) = 2 * (M : Int) := by unfold wrap64; omega
  have h2N : wrap64 (2 * (M : Int) + (n : Int)) = 2 * (M : Int) + (n : Int) := by unfold wrap64; omega
  have hMw : wrap64 (M : Int) = (M : Int) := by unfold wrap64; omega
  go_loopw [10, 13] (fun v10 i wr => ∃ k : Nat, k ≤ 2 * M + n ∧ i = .int .i64 k ∧ ScR wr (W.heap.size + 1) v10 (rdsL n tw pv k) ∧ Below (W.heap.size + 1) w1 wr) (fun _ i _ => (2 * M + n) - (intOf i).toNat)
  case atStart => exact ⟨0, Nat.zero_le _, by first | rfl | trivial, ScR.start _ _, Below.refl _ _⟩
  case round =>
    obtain ⟨k, hk, rfl, hsc, hb⟩ := hrel
    have HSC := hide hsc
    have HB := hide hb
    clear hsc hb
    by_cases hlt : k < 2 * M + n
    · have hkz : (k : Int) < 2 * (M : Int) + (n : Int) := by omega
      have hlen := rdsL_len n tw pv k
      have hkn : k * (n + 2) ≤ 126 * 8 := Nat.mul_le_mul (by omega) (by omega)
      have hlen2 : (rdsL n tw pv k).length ≤ 1008 := by omega
      clear hlen hkn
      go_wp2_with fail
      go_loopw [10, 14] (fun v10 i wq => ∃ m : Nat, m ≤ n ∧ i = .int .i64 m ∧ ScR wq (W.heap.size + 1) v10 (rdsL n tw pv k ++ (List.range m).map stN) ∧ Below (W.heap.size + 1) w1 wq) (fun _ i _ => n - (intOf i).toNat)
      case atStart => exact ⟨0, Nat.zero_le _, by first | rfl | trivial, by simpa using HSC.out, HB.out⟩
      case round =>
        clear HSC HB
        obtain ⟨m, hm, rfl, hsc, hb⟩ := hrel
        have HSC2 := hide hsc
        have HB2 := hide hb
        clear hsc hb
        by_cases hlt2 : m < n
        · have hmz : (m : Int) < (n : Int) := by omega
          go_wp2_with (at_builtin; refine stp ?_)
          unfold Stp1
          have HR0 := hide (Below.refl wr.heap.size wr)
          refine append_stp (by rfl) (.tmp 39) (.tmp 42) (by rfl) (W.heap.size + 1) _ (rdsL n tw pv k ++ (List.range m).map stN) (by rfl) (HSC2.out.below ((HR0.out).alloc (HR0.out).size _)) (stN m) _ (by rfl) (World.alloc_heap_new _ _) (by simp only [List.length_append, List.length_map, List.length_range, List.length_cons, List.length_nil]; omega) (by have h9 := HB2.out.size; have h8 := HS1.out; have h7 := (HR0.out).size; simp; omega) ?_
          intro v9 w9 hsc9 hg9
          have HSC9 := hide hsc9
          have HB9 := hide (below_app HB2.out (by have h9 := HB2.out.size; have h8 := HS1.out; omega) HR0.out HSC2.out hg9)
          clear hsc9 hg9
          go_wp2_with fail
          go_roundw
          case rel =>
            refine ⟨m + 1, by omega, by first | rfl | go_num, ?_, HB9.out⟩
            rw [List.range_succ, List.map_append, ← List.append_assoc]
            exact HSC9.out
          case measure => simp [intOf]; omega
        · obtain rfl : n = m := by omega
          have hk9 : k + 1 ≤ 1000000 := by omega
          have hkw' : (k : Int) + 1 = ((k + 1 : Nat) : Int) := by omega
          have hpk := HPK.out (k + 1) wr hk9 HB2.out
          rw [← hkw'] at hpk
          obtain ⟨T, hT⟩ : ∃ T, T = pv (k + 1) := ⟨_, rfl⟩
          rw [← hT] at hpk
          have HT := hide hT
          have HPK1 := hide hpk
          have hT2 : -((2 : Nat) : Int) < T.tmod ((2 : Nat) : Int) ∧ T.tmod ((2 : Nat) : Int) < ((2 : Nat) : Int) := tmod_bd (n := 2) (by decide) T
          have HT2 := hide hT2
          clear hT hpk hkw' hk9 hT2
          have hk3 : (k : Int) % 3 = ((k % 3 : Nat) : Int) := by simp
          have hk3t : (k : Int).tmod 3 = ((k % 3 : Nat) : Int) := by rw [Int.tmod_eq_emod_of_nonneg (Int.natCast_nonneg _)]; simp
          obtain ⟨k3, hk3d⟩ : ∃ k3, k3 = k % 3 := ⟨_, rfl⟩
          rw [← hk3d] at hk3 hk3t
          have hk3b : k3 < 3 := by omega
          have HK3 := hide hk3d
          clear hk3d
          by_cases h3 : k3 = 0
          · subst h3
            have etw : tw k = false := by rw [HTW.out]; unfold twV; rw [← HK3.out]; simp
            have ETW := hide etw
            clear etw
            have hk3' : (k : Int) % 3 = 0 := by simpa using hk3
            have hk3t' : (k : Int).tmod 3 = 0 := by simpa using hk3t
            clear hk3 hk3t
            go_wp2_with (first
              | (go_at_call 28; refine (HPK.out k _ (by omega) HB2.out).mono ?_; rintro e w5 ⟨rfl, hb5⟩; have HP5 := hide hb5; clear hb5)
              | (at_builtin; refine stp ?_))
            unfold Stp1
            refine append_stp (by rfl) (.tmp 62) (.tmp 67) (by rfl) (W.heap.size + 1) _ (rdsL n tw pv k ++ (List.range n).map stN) (by rfl) (HSC2.out.below ((HP5.out).alloc (HP5.out).size _)) (stB (pv k)) _ (by rfl) (World.alloc_heap_new _ _) (by simp only [List.length_append, List.length_map, List.length_range, List.length_cons, List.length_nil]; omega) (by have h9 := HB2.out.size; have h8 := HS1.out; have h7 := (HP5.out).size; simp; omega) ?_
            intro v9 w9 hsc9 hg9
            have HSC9 := hide hsc9
            have HB9 := hide (below_app HB2.out (by have h9 := HB2.out.size; have h8 := HS1.out; omega) HP5.out HSC2.out hg9)
            clear hsc9 hg9
            go_wp2_with fail
            go_roundw
            case rel =>
              refine ⟨k + 1, by omega, by first | rfl | go_num, ?_, HB9.out⟩
              rw [rds_succ, ETW.out]
              have h9 := HSC9.out
              unfold rdL
              simpa [List.append_assoc] using h9
            case measure => simp [intOf]; omega
          · have e1 : (((k : Int) % 3) != 0) = true := by rw [hk3]; simp; omega
            have e2 : (((k : Int) % 3) == 0) = false := by rw [hk3]; simp; omega
            have e4 : (((k : Int).tmod 3) != 0) = true := by rw [hk3t]; simp; omega
            have e5 : (((k : Int).tmod 3) == 0) = false := by rw [hk3t]; simp; omega
            clear hk3 hk3t
            have hT2 : -2 < T.tmod 2 ∧ T.tmod 2 < 2 := HT2.out
            obtain ⟨R, hR⟩ : ∃ R, R = T.tmod 2 := ⟨_, rfl⟩
            rw [← hR] at hT2
            have HR := hide hR
            have HR' : Hid (T.tmod 2 = R) := hR.symm
            clear hR
            by_cases hr : R = 0
            · have etw : tw k = true := by
                rw [HTW.out]; unfold twV
                have h8 : pickV ps (k + 1) = T := by rw [HT.out, HPV.out]
                rw [h8, ← HK3.out, HR'.out, hr]
                simp [h3]
              have ETW := hide etw
              clear etw
              go_upto_region 13 with (go_at_call 28; refine stp ?_)
              unfold Stp1
              refine HPK1.out.mono ?_
              rintro e w4 ⟨rfl, hb4⟩
              have HP4 := hide hb4
              clear hb4
              have f3 : T.tmod 2 = 0 := by rw [HR'.out]; exact hr
              clear e1 e2 e4 e5 hr hT2
              go_upto_region 13 with fail
              clear f3
              have HSC4 := hide (HSC2.out.below HP4.out)
              have HB4 := hide (HB2.out.trans (HP4.out.mono (by have h9 := HB2.out.size; have h8 := HS1.out; omega)))
              go_upto_region 14 with (first
                | (go_at_call 28; refine (HPK.out k _ (by omega) HB4.out).mono ?_; rintro e w6 ⟨rfl, hb6⟩; have HP6 := hide hb6; clear hb6)
                | (at_builtin; refine stp ?_))
              unfold Stp1
              refine append_stp (by rfl) (.tmp 55) (.tmp 60) (by rfl) (W.heap.size + 1) _ (rdsL n tw pv k ++ (List.range n).map stN) (by rfl) (HSC4.out.below ((HP6.out).alloc (HP6.out).size _)) (stT (pv k)) _ (by rfl) (World.alloc_heap_new _ _) (by simp only [List.length_append, List.length_map, List.length_range, List.length_cons, List.length_nil]; omega) (by have h9 := HB4.out.size; have h8 := HS1.out; have h7 := (HP6.out).size; simp; omega) ?_
              intro v7 w7 hsc9 hg9
              have HSC7 := hide hsc9
              have HB7 := hide (below_app HB4.out (by have h9 := HB4.out.size; have h8 := HS1.out; omega) HP6.out HSC4.out hg9)
              clear hsc9 hg9
              go_upto_region 14 with fail
              go_wp2_with (first
                | (go_at_call 28; refine (HPK.out k _ (by omega) HB7.out).mono ?_; rintro e w5 ⟨rfl, hb5⟩; have HP5 := hide hb5; clear hb5)
                | (at_builtin; refine stp ?_))
              unfold Stp1
              refine append_stp (by rfl) (.tmp 62) (.tmp 67) (by rfl) (W.heap.size + 1) _ ((rdsL n tw pv k ++ (List.range n).map stN) ++ [stT (pv k)]) (by rfl) (HSC7.out.below ((HP5.out).alloc (HP5.out).size _)) (stB (pv k)) _ (by rfl) (World.alloc_heap_new _ _) (by simp only [List.length_append, List.length_map, List.length_range, List.length_cons, List.length_nil]; omega) (by have h9 := HB7.out.size; have h8 := HS1.out; have h7 := (HP5.out).size; simp; omega) ?_
              intro v9 w9 hsc9 hg9
              have HSC9 := hide hsc9
              have HB9 := hide (below_app HB7.out (by have h9 := HB7.out.size; have h8 := HS1.out; omega) HP5.out HSC7.out hg9)
              clear hsc9 hg9
              go_wp2_with fail
              go_roundw
              case rel =>
                refine ⟨k + 1, by omega, by first | rfl | go_num, ?_, HB9.out⟩
                rw [rds_succ, ETW.out]
                have h9 := HSC9.out
                unfold rdL
                simpa [List.append_assoc] using h9
              case measure => simp [intOf]; omega
            · have etw : tw k = false := by
                rw [HTW.out]; unfold twV
                have h8 : pickV ps (k + 1) = T := by rw [HT.out, HPV.out]
                rw [h8, HR'.out]
                simp [hr]
              have ETW := hide etw
              clear etw
              go_upto_region 14 with (go_at_call 28; refine stp ?_)
              unfold Stp1
              refine HPK1.out.mono ?_
              rintro e w4 ⟨rfl, hb4⟩
              have HP4 := hide hb4
              clear hb4
              have f3 : ¬ (T.tmod 2 = 0) := by rw [HR'.out]; exact hr
              have f4 : (T.tmod 2 == 0) = false := by simpa using f3
              clear e1 e2 e4 e5 hr hT2
              go_upto_region 14 with fail
              clear f3 f4
              have HSC4 := hide (HSC2.out.below HP4.out)
              have HB4 := hide (HB2.out.trans (HP4.out.mono (by have h9 := HB2.out.size; have h8 := HS1.out; omega)))
              go_wp2_with (first
                | (go_at_call 28; refine (HPK.out k _ (by omega) HB4.out).mono ?_; rintro e w5 ⟨rfl, hb5⟩; have HP5 := hide hb5; clear hb5)
                | (at_builtin; refine stp ?_))
              unfold Stp1
              refine append_stp (by rfl) (.tmp 62) (.tmp 67) (by rfl) (W.heap.size + 1) _ (rdsL n tw pv k ++ (List.range n).map stN) (by rfl) (HSC4.out.below ((HP5.out).alloc (HP5.out).size _)) (stB (pv k)) _ (by rfl) (World.alloc_heap_new _ _) (by simp only [List.length_append, List.length_map, List.length_range, List.length_cons, List.length_nil]; omega) (by have h9 := HB4.out.size; have h8 := HS1.out; have h7 := (HP5.out).size; simp; omega) ?_
              intro v9 w9 hsc9 hg9
              have HSC9 := hide hsc9
              have HB9 := hide (below_app HB4.out (by have h9 := HB4.out.size; have h8 := HS1.out; omega) HP5.out HSC4.out hg9)
              clear hsc9 hg9
              go_wp2_with fail
              go_roundw
              case rel =>
                refine ⟨k + 1, by omega, by first | rfl | go_num, ?_, HB9.out⟩
                rw [rds_succ, ETW.out]
                have h9 := HSC9.out
                unfold rdL
                simpa [List.append_assoc] using h9
              case measure => simp [intOf]; omega
    · have hkk : k = 2 * M + n := by omega
      have HKK := hide hkk
      have hkz : ¬ (k : Int) < 2 * (M : Int) + (n : Int) := by omega
      have hk126 : k ≤ 126 := by omega
      clear hkk
      have hlen := rdsL_len n tw pv k
      have hkn : k * (n + 2) ≤ 126 * 8 := Nat.mul_le_mul hk126 (by omega)
      have hlen2 : (rdsL n tw pv k).length ≤ 1008 := by omega
      clear hlen hkn
      go_wp2_with fail
      go_loopw [10, 15] (fun v10 i wq => ∃ m : Nat, m ≤ n ∧ i = .int .i64 m ∧ ScR wq (W.heap.size + 1) v10 (rdsL n tw pv k ++ (List.range m).map stR) ∧ Below (W.heap.size + 1) w1 wq) (fun _ i _ => n - (intOf i).toNat)
      case atStart => exact ⟨0, Nat.zero_le _, by first | rfl | trivial, by simpa using HSC.out, HB.out⟩
      case round =>
        clear HSC HB
        obtain ⟨m, hm, rfl, hsc, hb⟩ := hrel
        have HSC2 := hide hsc
        have HB2 := hide hb
        by_cases hlt2 : m < n
        · have hmz : (m : Int) < (n : Int) := by omega
          clear hsc hb
          go_wp2_with (at_builtin; refine stp ?_)
          unfold Stp1
          have HR0 := hide (Below.refl wr.heap.size wr)
          refine append_stp (by rfl) (.tmp 74) (.tmp 77) (by rfl) (W.heap.size + 1) _ (rdsL n tw pv k ++ (List.range m).map stR) (by rfl) (HSC2.out.below ((HR0.out).alloc (HR0.out).size _)) (stR m) _ (by rfl) (World.alloc_heap_new _ _) (by simp only [List.length_append, List.length_map, List.length_range, List.length_cons, List.length_nil]; omega) (by have h9 := HB2.out.size; have h8 := HS1.out; have h7 := (HR0.out).size; simp; omega) ?_
          intro v9 w9 hsc9 hg9
          have HSC9 := hide hsc9
          have HB9 := hide (below_app HB2.out (by have h9 := HB2.out.size; have h8 := HS1.out; omega) HR0.out HSC2.out hg9)
          clear hsc9 hg9
          go_wp2_with fail
          go_roundw
          case rel =>
            refine ⟨m + 1, by omega, by first | rfl | go_num, ?_, HB9.out⟩
            rw [List.range_succ, List.map_append, ← List.append_assoc]
            exact HSC9.out
          case measure => simp [intOf]; omega
        · obtain rfl : n = m := by omega
          have hle : rdsL n tw pv k ++ (List.range n).map stR = L := by rw [HL.out, HKK.out]; rfl
          rw [hle] at hsc
          have hnt : ∀ p ∈ L, p.nt = ntZ := by rw [HL.out]; exact endL_nt n tw pv (2 * M + n)
          have hll : L.length = (rdsL n tw pv k).length + n := by rw [← hle]; simp
          obtain ⟨g, cap, rfl, hg1, hg2, hsa⟩ := hsc.parts (by omega) hnt wr.heap.size
          have hLb : L.length ≤ 1014 := by omega
          have hbW : Below W.heap.size W wr := HB1.out.trans ⟨hb.os, hb.tape, hb.output, hb.size, fun b h9 => hb.block b (by omega)⟩
          have ht := team_any d db doff dcap xss g 0 cap L wr (HD.out.below hbW) (by rw [← HN.out]; omega) hsa (by rw [← HN.out]; exact hn1) (by omega)
          rw [← HN.out] at ht
          have hte := alk_team HA.out
          have HT9 := hide (ht.mono fun e w' h => (⟨h.2.1 hte, h.2.2⟩ : (∃ v qs Fs, e = .returned (.tuple #[v, .int .i64 0]) ∧ OutAt w' wr.heap.size xss.length Fs v qs ∧ qs.map (·.1) = (playM d.toNat xss.length (begP d.toNat xss.length xss) L).2) ∧ Below wr.heap.size wr w'))
          have HSA := hide hsa
          have HBW := hide hbW
          have HG2 := hide hg2
          obtain ⟨l, hl⟩ : ∃ l, l = L.length := ⟨_, rfl⟩
          rw [← hl] at HT9 ⊢
          have hlb : l ≤ 1014 := by omega
          have hl0 : 0 < l := by omega
          have HLL := hide hl
          clear hsc hb hle hnt hll hsa ht hte hLb hbW hg1 hg2 hl hlen2
          go_upto_region 20 with (go_at_call 6; refine stp ?_)
          unfold Stp1
          refine HT9.out.mono ?_
          rintro e w5 ⟨⟨v, qs, Fs, rfl, hou, hqm⟩, hb5⟩
          have hql : qs.length = l := by
            rw [HLL.out, ← play_len d.toNat xss.length L (begP d.toNat xss.length xss), ← hqm, List.length_map]
          obtain ⟨vg, vc, rfl⟩ : ∃ vg vc, v = .slice (some ⟨vg, 0, none⟩) l vc := by
            rcases hou.row.parts with ⟨_, e0⟩ | ⟨g', cap', cur, e1, _⟩
            · omega
            · exact ⟨g', cap', by rw [e1, hql]⟩
          have HOU := hide hou
          have HQM := hide hqm
          have HB5 := hide hb5
          have hlq : ((l : Int) == (l : Int)) = true := by simp
          clear hou hqm hb5 hql
          go_wp2_with fail
          go_ret3
          refine ⟨g, cap, _, qs, Fs, (by rw [← HLL.out]; rfl), ⟨_, HSA.out.below HB5.out⟩, ⟨wr.heap.size, ?_⟩, ?_, bl_on HBW.out HB5.out⟩
          · rw [HN.out]; exact HOU.out
          · rw [HN.out]; exact HQM.out
end Go.Proofs.Yticcoacoepajpaa.V
namespace Go.Proofs.Yticcoacoepajpaa.V
open Go Go.RowKit
set_option linter.unusedVariables false
set_option linter.unusedSimpArgs false

theorem cnt_take (m : Nat) (l : List Stp) (r : List Sn) (h : l.length = r.length) {k : Nat} {p : Stp} {q : Sn} (hp : l[k]? = some p) (hq : r[k]? = some q) : cntM m (l.take (k + 1)) (r.take (k + 1)) = cntM m (l.take k) (r.take k) + (if p.act = 1 ∧ q.some = true ∧ p.mem = (m : Int) then q.nt.data.length else 0) := by
  rw [List.take_add_one, List.take_add_one, hp, hq]
  simp only [Option.toList]
  rw [cnt_app m _ _ _ _ (by rw [List.length_take, List.length_take, h])]
  simp [cntM]
theorem cnt_le (m : Nat) (l : List Stp) (r : List Sn) (h : l.length = r.length) (k : Nat) : cntM m (l.take k) (r.take k) ≤ cntM m l r := by
  have e := cnt_app m (l.take k) (r.take k) (l.drop k) (r.drop k) (by rw [List.length_take, List.length_take, h])
  rw [List.take_append_drop, List.take_append_drop] at e
  omega
theorem sumN_le (c : Nat) : ∀ (k : Nat) (f : Nat → Nat), (∀ i, i < k → f i ≤ c) → sumN k f ≤ k * c
  | 0, f, _ => by simp [sumN]
  | k + 1, f, h => by
    unfold sumN
    have h1 := sumN_le c k f (fun i hi => h i (by omega))
    have h2 := h k (by omega)
    rw [Nat.succ_mul]
    omega
theorem plN_le (n L p : Nat) (hp : p < n) : plN n L p ≤ L := by
  have h1 : (p + 1) * L / n ≤ L := Nat.div_le_of_le_mul (Nat.mul_le_mul_right _ hp)
  exact Nat.le_trans (Nat.sub_le _ _) h1
theorem datS_le {d n : Nat} {x : Nat → List Int} (h : TmOk d n x) {m : Nat} (hm : m < n) : datS d n x m (notN d n) ≤ 2000 := by
  have h11 := notN_small (d := d) h.n7
  have h1 : datS d n x m (notN d n) ≤ notN d n * 200 := sumN_le 200 _ _ (fun t ht => by
    by_cases h3 : d = 3
    · exact dat3_len h h3 t m hm (by omega)
    · rw [dat_len h h3 t m hm (by omega)]
      have := plN_le n (x 0).length (sendN d n m t) (sendN_lt h.n1)
      have := h.sm 0 h.n1
      omega)
  omega
theorem act1 {n : Nat} {tw : Nat → Bool} {v : Nat → Int} {K : Nat} : ∀ p ∈ endL n tw v K, p.act = 1 → ∃ m, m < n ∧ p.mem = ((m : Nat) : Int) := by
  intro p hp h1
  unfold endL rdsL at hp
  rcases List.mem_append.1 hp with h | h
  · obtain ⟨i, _, h'⟩ := List.mem_flatMap.1 h
    unfold rdL at h'
    rcases List.mem_append.1 h' with h | h
    · rcases List.mem_append.1 h with h | h
      · obtain ⟨m, hm, rfl⟩ := List.mem_map.1 h; exact ⟨m, List.mem_range.1 hm, rfl⟩
      · split at h
        · have : p = stT (v i) := by simpa using h
          rw [this] at h1
          exact absurd h1 (by simp [stT])
        · simp at h
    · have : p = stB (v i) := by simpa using h
      rw [this] at h1
      exact absurd h1 (by simp [stB])
  · obtain ⟨m, _, rfl⟩ := List.mem_map.1 h; exact absurd h1 (by simp [stR])
/-- What is alike makes a team. -/
theorem alk_ok {d : Int} {xss : List (List Int)} (h : AlkP d xss) (hr : ∀ i, i < xss.length → ∀ w ∈ xss[i]?.getD [], -9223372036854775808 ≤ w ∧ w ≤ 9223372036854775807) : TmOk d.toNat xss.length (fun i => xss[i]?.getD []) := by
  have h1 := h.d1
  have h4 := h.d4
  have hn := h.n1
  have hn6 := h.n6
  refine ⟨by omega, by omega, hn, by omega, fun h3 i hi => ?_, fun i hi => (h.all i hi).1, fun hd4 => ?_, hr⟩
  · rcases (h.all i hi).2.1 with e | e
    · omega
    · exact e
  · have hw := (h.all 0 (by omega)).2.2
    have hd : d = 4 := by omega
    unfold wrongM at hw
    rw [if_neg (by omega), if_neg (by omega), if_neg (by have := (h.all 0 (by omega)).1; omega)] at hw
    by_cases e : ((xss[0]?.getD []).length : Int).tmod (xss.length : Int) = 0
    · rw [Int.tmod_eq_emod_of_nonneg (Int.natCast_nonneg _)] at e
      have e2 : (((xss[0]?.getD []).length % xss.length : Nat) : Int) = 0 := by rw [Int.natCast_emod]; exact e
      show (xss[0]?.getD []).length % xss.length = 0
      omega
    · rw [if_pos ⟨hd, e⟩] at hw; omega
theorem OutAt.cells {W : World} {B n : Nat} {Fs : Nat → Nat → Prop} {g cap k : Nat} {qs : List (Sn × Sl × Sl)} {l : Nat} (hl : qs.length = l) (h : OutAt W B n Fs (.slice (some ⟨g, 0, none⟩) l cap) qs) {q : Sn × Sl × Sl} (hq : qs[k]? = some q) : ∀ i u, i < 7 → (snC q)[i]? = some u → W.cell? ⟨g, k * 7 + i, none⟩ = some u := by
  subst hl
  exact fun i u hi hu => h.row.cell rfl (by
    unfold seC
    rw [flat_get snC 7 snC_len qs k i hi, hq]
    exact hu)
end Go.Proofs.Yticcoacoepajpaa.V
namespace Go.Proofs.Yticcoacoepajpaa.V
open Go Go.RowKit
set_option linter.unusedVariables false
set_option linter.unusedSimpArgs false

/-- How many words each one has sent, in a row. -/
def CtAt (W : World) (S n : Nat) (f : Nat → Nat) : Prop := ∃ cur : Array Value, W.heap[S]? = some (.cells cur 3 (0, 0)) ∧ cur.size = n ∧ ∀ m, m < n → cur[m]? = some (.int .i64 ((f m : Nat) : Int))
theorem CtAt.cell {W : World} {S n : Nat} {f : Nat → Nat} (h : CtAt W S n f) {m : Nat} (hm : m < n) : W.cell? ⟨S, m, none⟩ = some (.int .i64 ((f m : Nat) : Int)) := by
  obtain ⟨cur, h1, _, h3⟩ := h
  simp only [World.cell?, h1]
  exact h3 m hm
theorem CtAt.lt {W : World} {S n : Nat} {f : Nat → Nat} (h : CtAt W S n f) : S < W.heap.size := by
  obtain ⟨cur, h1, _⟩ := h
  exact (Array.getElem?_eq_some_iff.1 h1).1
theorem CtAt.frozen {W : World} {S n : Nat} {f : Nat → Nat} (h : CtAt W S n f) (j : Nat) : W.frozen? ⟨S, j, none⟩ = false := by
  obtain ⟨cur, h1, _⟩ := h
  simp [World.frozen?, h1]
theorem CtAt.below {W V : World} {S n : Nat} {f : Nat → Nat} (h : CtAt W S n f) (hb : Below W.heap.size W V) : CtAt V S n f := by
  have hl := h.lt
  obtain ⟨cur, h1, h2⟩ := h
  exact ⟨cur, (hb.block S hl).trans h1, h2⟩
theorem CtAt.congr {W : World} {S n : Nat} {f g : Nat → Nat} (h : CtAt W S n f) (he : ∀ m, m < n → f m = g m) : CtAt W S n g := by
  obtain ⟨cur, h1, h2, h3⟩ := h
  exact ⟨cur, h1, h2, fun m hm => by rw [← he m hm]; exact h3 m hm⟩
theorem CtAt.set {W : World} {S n : Nat} {f : Nat → Nat} (h : CtAt W S n f) {m : Nat} (hm : m < n) (v : Nat) : CtAt (W.setCell ⟨S, m, none⟩ (.int .i64 (v : Int))) S n (fun j => if j = m then v else f j) := by
  obtain ⟨cur, h1, h2, h3⟩ := h
  refine ⟨cur.setIfInBounds m (.int .i64 (v : Int)), ?_, by simp [h2], fun i hi => ?_⟩
  · simp [World.setCell, Array.getElem?_modify, h1]
  · rw [Array.getElem?_setIfInBounds]
    by_cases e : m = i
    · subst e
      rw [if_pos rfl, if_pos (by omega)]
      simp
    · rw [if_neg e]
      simp only [if_neg (Ne.symm e)]
      exact h3 i hi
theorem ct_new (W : World) (n : Nat) : CtAt (W.alloc (.cells (madeCells #[.int .i64 0] n) 3)) W.heap.size n (fun _ => 0) := by
  refine ⟨_, World.alloc_heap_new _ _, ?_, fun m hm => ?_⟩
  · simp [madeCells]
  · simp [madeCells, hm, Nat.mod_one]
set_option maxRecDepth 100000 in
set_option maxHeartbeats 16000000 in
theorem ringWords_walk (d : Int) (a : Option Addr) (cap : Nat) (xss : List (List Int)) (X : Option Addr) (xm xc : Nat) (ps : List Int) (W : World) (h : LsA W a xss.length xss) (hp : Ints W X xm ps) :
    Calls Try.prog 5 #[.int .i64 d, .slice a xss.length cap, .slice X xm xc] W fun e w' => e = .returned (.bool true) ∧ Below W.heap.size W w' := by
  have HH := hide h
  have HPP := hide hp
  have hal := alike_any d a cap xss W h
  have HAL := hide hal
  obtain ⟨n, hnn⟩ : ∃ n, n = xss.length := ⟨_, rfl⟩
  rw [← hnn] at HAL ⊢
  have HN := hide hnn
  clear h hp hal hnn
  go_enter Try.func5, Try.ntmps5
  go_upto_region 2 with (go_at_call 11; refine stp ?_)
  unfold Stp1
  refine HAL.out.mono ?_
  rintro e w1 ⟨⟨b, rfl, hAP⟩, rfl⟩
  cases b with
  | false =>
    clear hAP
    go_wp2_with fail
    go_ret
    exact ⟨rfl, Below.refl _ _⟩
  | true =>
    have hA := hAP rfl
    have HA := hide hA
    have hn1 : 1 ≤ n := by rw [HN.out]; exact hA.n1
    have hn6 : n ≤ 6 := by rw [HN.out]; exact hA.n6
    have hd1 := hA.d1
    have hd4 := hA.d4
    obtain ⟨db, doff, rfl, hat⟩ := HH.out.at (by rw [← HN.out]; omega)
    have HAT := hide hat
    have hda : DtA w1 db doff xss := fun i hi => hat i hi
    have hen := ends_any d db doff cap xss X xm xc ps w1 hda hA HPP.out
    rw [← HN.out] at hen
    have HEN := hide hen
    have htm : TmOk d.toNat n (fun i => xss[i]?.getD []) := by
      have h9 := alk_ok hA (fun i hi => by
        obtain ⟨X9, m9, c9, _, hI, _⟩ := hat i hi
        exact hI.2.2.1)
      rw [← HN.out] at h9
      exact h9
    have HTM := hide htm
    clear hAP hA hat hda hen htm
    go_upto_region 7 with (go_at_call 12; refine stp ?_)
    unfold Stp1
    refine HEN.out.mono ?_
    rintro e w4 hea
    unfold EndAns at hea
    rw [← HN.out] at hea
    obtain ⟨sb, sc, v, qs, Fs, rfl, ⟨NN, hsa⟩, ⟨BB, hou⟩, hqm, hb4⟩ := hea
    obtain ⟨L, hL⟩ : ∃ L, L = endL n (twV ps) (pickV ps) (2 * (n * notN d.toNat n) + n) := ⟨_, rfl⟩
    rw [← hL] at hsa hqm ⊢
    have hbeg : begP d.toNat n xss = begS d.toNat n (fun i => xss[i]?.getD []) := rfl
    rw [hbeg] at hqm
    obtain ⟨sn, hsn⟩ : ∃ sn, sn = (playM d.toNat n (begS d.toNat n (fun i => xss[i]?.getD [])) L).2 := ⟨_, rfl⟩
    have hlr : L.length = sn.length := by rw [hsn, play_len]
    rw [← hsn] at hqm
    have hcnt : ∀ m, m < n → cntM m L sn = datS d.toNat n (fun i => xss[i]?.getD []) m (notN d.toNat n) := fun m hm => by
      rw [hsn, hL]
      exact cnt_end HTM.out hm (twV ps) (pickV ps) (by omega)
    have hact : ∀ p ∈ L, p.act = 1 → ∃ m, m < n ∧ p.mem = ((m : Nat) : Int) := by rw [hL]; exact act1
    have hlp : 0 < L.length := by rw [hL]; unfold endL; rw [List.length_append]; simp; omega
    obtain ⟨l, hl⟩ : ∃ l, l = L.length := ⟨_, rfl⟩
    have hql : qs.length = l := by rw [hl, hlr, ← hqm, List.length_map]
    obtain ⟨vg, vc, rfl⟩ : ∃ vg vc, v = .slice (some ⟨vg, 0, none⟩) l vc := by
      rcases hou.row.parts with ⟨_, e0⟩ | ⟨g', cap', cur, e1, _⟩
      · omega
      · exact ⟨g', cap', by rw [e1, hql]⟩
    have hvl : vg < w4.heap.size := (hou.row.lt vg rfl).2.1
    rw [← hl]
    have hlb : l ≤ 9223372036854775807 := by
      have h9 := hou.row.parts
      rcases h9 with ⟨e0, _⟩ | ⟨g', cap', cur, e1, _, _, h5, h6, _⟩
      · cases e0
      · rw [hql] at h5; unfold maxLen at h6; omega
    have HSA := hide hsa
    have HOU := hide hou
    have HQM := hide hqm
    have HB4 := hide hb4
    have HLR := hide hlr
    have HCN := hide hcnt
    have HAC := hide hact
    have HLL := hide hl
    have HQL := hide hql
    have HVL := hide hvl
    clear hsa hou hqm hb4 hlr hcnt hact hl hql hvl hL hsn hbeg hlp
    have hmk := run_make_row' (P := Try.prog) 33 3 (.int .i64 0) 8 Try.underlying33 info_int rfl .i64 .i64 n (by omega) (by omega)
    go_wp2_with fail
    obtain ⟨S, hS⟩ : ∃ S, S = w4.heap.size := ⟨_, rfl⟩
    have hct := ct_new w4 n
    obtain ⟨w5, hw5⟩ : ∃ w5, w5 = w4.alloc (.cells (madeCells #[.int .i64 0] n) 3) := ⟨_, rfl⟩
    have hb5 : Below w4.heap.size w4 w5 := by rw [hw5]; exact bl_new _
    rw [← hw5] at hct ⊢
    rw [← hS] at hct hb5 ⊢
    have HCT := hide hct
    have HB5 := hide hb5
    have HS := hide hS
    clear hct hb5 hw5 hS hmk
    go_loopw [41] (fun i wr => ∃ k : Nat, k ≤ l ∧ i = .int .i64 k ∧ CtAt wr S n (fun m => cntM m (L.take k) (sn.take k)) ∧ Below S w4 wr) (fun i _ => l - (intOf i).toNat)
    case atStart => exact ⟨0, Nat.zero_le _, by first | rfl | trivial, HCT.out.congr (fun m hm => by simp [cntM]), HB5.out⟩
    case round =>
      clear HCT HB5
      obtain ⟨k, hk, rfl, hct, hb⟩ := hrel
      have HCT := hide hct
      have HB := hide hb
      clear hct hb
      by_cases hlt : k < l
      · have hkz : (k : Int) < (l : Int) := by omega
        obtain ⟨⟨act, mem, num, nt⟩, hpk⟩ : ∃ p, L[k]? = some p := ⟨L[k]'(by rw [← HLL.out]; exact hlt), by simp [show k < L.length by rw [← HLL.out]; exact hlt]⟩
        obtain ⟨⟨⟨qb, ⟨qf, qt, qz', qd⟩, qe, qx⟩, ⟨ya, yn, yc⟩, ⟨za, zn, zc⟩⟩, hqk⟩ : ∃ q, qs[k]? = some q := ⟨qs[k]'(by rw [HQL.out]; exact hlt), by simp [show k < qs.length by rw [HQL.out]; exact hlt]⟩
        have hsk : sn[k]? = some ⟨qb, ⟨qf, qt, qz', qd⟩, qe, qx⟩ := by rw [← HQM.out, List.getElem?_map, hqk]; rfl
        have hyn : qd.length = yn := ((HOU.out.num _ (List.mem_of_getElem? hqk)).1.1).len
        have hct1 : ∀ m, cntM m (L.take (k + 1)) (sn.take (k + 1)) = cntM m (L.take k) (sn.take k) + (if act = 1 ∧ qb = true ∧ mem = (m : Int) then yn else 0) := fun m => by
          rw [cnt_take m L sn HLR.out hpk hsk, ← hyn]
        have HC1 := hide hct1
        have hle : ∀ m, m < n → cntM m (L.take (k + 1)) (sn.take (k + 1)) ≤ 2000 := fun m hm => Nat.le_trans (cnt_le m L sn HLR.out (k + 1)) (by rw [HCN.out m hm]; exact datS_le HTM.out hm)
        have HLE := hide hle
        have hqc := HOU.out.cells HQL.out hqk
        have hbv : wr.heap[vg]? = w4.heap[vg]? := HB.out.block vg (by rw [HS.out]; exact HVL.out)
        have kc : ∀ i u, i < 7 → (snC ((⟨qb, ⟨qf, qt, qz', qd⟩, qe, qx⟩, ⟨ya, yn, yc⟩, ⟨za, zn, zc⟩) : Sn × Sl × Sl))[i]? = some u → wr.cell? ⟨vg, k * 7 + i, none⟩ = some u := fun i u hi hu => (World.cell?_of_block hbv).trans (hqc i u hi hu)
        have v0 := kc 0 _ (by decide) rfl
        have v1 := kc 1 _ (by decide) rfl
        have v2 := kc 2 _ (by decide) rfl
        have v3 := kc 3 _ (by decide) rfl
        have v4 := kc 4 _ (by decide) rfl
        have v5 := kc 5 _ (by decide) rfl
        have v6 := kc 6 _ (by decide) rfl
        rw [Nat.add_zero] at v0
        have vz := lt_of_cell v0
        obtain ⟨X9, m9, c9, s0, s1, _⟩ := HSA.out k _ hpk
        simp only [Nat.zero_add] at s0 s1
        have hsl : sb < w4.heap.size := lt_of_cell s0
        have hbs : wr.heap[sb]? = w4.heap[sb]? := HB.out.block sb (by rw [HS.out]; exact hsl)
        have sc0 := (World.cell?_of_block (a := ⟨sb, k * 7, none⟩) hbs).trans s0
        have sc1 := (World.cell?_of_block (a := ⟨sb, k * 7 + 1, none⟩) hbs).trans s1
        have hac : act = 1 → ∃ m, m < n ∧ mem = ((m : Nat) : Int) := fun h1 => HAC.out _ (List.mem_of_getElem? hpk) h1
        have HACK := hide hac
        have sz := lt_of_cell sc0
        simp only at v0 v1 v2 v3 v4 v5 v6 sc0 sc1 sz vz
        clear hpk hqk hsk hct1 hle hqc hbv kc s0 s1 hsl hbs hac hyn
        go_upto_region 11 with fail
        obtain ⟨V, hV⟩ : ∃ V, V = wr.alloc (.cells #[.bool qb, .int .i64 qf, .int .i64 qt, .int .i64 qz', .slice ya yn yc, .int .i64 qe, .slice za zn zc] 41) := ⟨_, rfl⟩
        rw [← hV]
        have hbV : Below wr.heap.size wr V := by rw [hV]; exact bl_new _
        have hxb : V.heap[wr.heap.size]? = some (.cells #[.bool qb, .int .i64 qf, .int .i64 qt, .int .i64 qz', .slice ya yn yc, .int .i64 qe, .slice za zn zc] 41 (0, 0)) := by rw [hV]; exact World.alloc_heap_new _ _
        obtain ⟨bx, hbx⟩ : ∃ bx, bx = wr.heap.size := ⟨_, rfl⟩
        rw [← hbx] at hxb ⊢
        have b0 : V.cell? ⟨bx, 0, none⟩ = some (.bool qb) := by simp only [World.cell?, hxb]; rfl
        have b4 : V.cell? ⟨bx, 4, none⟩ = some (.slice ya yn yc) := by simp only [World.cell?, hxb]; rfl
        have bz := (Array.getElem?_eq_some_iff.1 hxb).1
        have sc0 := (hbV.cell (p := ⟨sb, k * 7, none⟩) sz).trans sc0
        have sc1 := (hbV.cell (p := ⟨sb, k * 7 + 1, none⟩) sz).trans sc1
        have sz := Nat.lt_of_lt_of_le sz hbV.size
        have HCV := hide (HCT.out.below hbV)
        have HBV := hide (HB.out.trans (hbV.mono (by have h9 := HB.out.size; rw [HS.out]; exact h9)))
        clear hV hbV hxb hbx v0 v1 v2 v3 v4 v5 v6 vz HCT HB
        by_cases a1 : act = 1
        · subst a1
          obtain ⟨m0, hm0, rfl⟩ := HACK.out rfl
          have hmz : (m0 : Int) < (n : Int) := by omega
          cases qb with
          | true =>
            obtain ⟨C0, hC0⟩ : ∃ C0, C0 = cntM m0 (L.take k) (sn.take k) := ⟨_, rfl⟩
            have cS : V.cell? ⟨S, m0, none⟩ = some (.int .i64 (C0 : Int)) := by rw [hC0]; exact HCV.out.cell hm0
            have hCb : C0 + yn ≤ 2000 := by
              have h9 := HLE.out m0 hm0
              rw [HC1.out m0, if_pos ⟨by first | rfl | trivial, by first | rfl | trivial, by first | rfl | trivial⟩, ← hC0] at h9
              exact h9
            have hw9 : IntKind.i64.wrap ((C0 : Int) + (yn : Int)) = (C0 : Int) + (yn : Int) := wrapk_small (by omega) (by omega)
            have HW9 := hide hw9
            have HC0 := hide hC0
            have cz := lt_of_cell cS
            clear hw9 hC0
            go_upto_region 12 with fail
            refine region_made 14 16 [fIs (.slice (some ⟨S, 0, none⟩) n n), fIs (.slice (some ⟨sb, 0, none⟩) l sc), fIs (.int .i64 (k : Int)), fIs (.pointer (some ⟨sb, k * 7, none⟩)), fIs (.pointer (some ⟨sb, k * 7 + 1, none⟩)), fIs (.int .i64 (m0 : Int)), fIs (.pointer (some ⟨S, m0, none⟩)), fIs (.int .i64 (C0 : Int)), fIs (.pointer (some ⟨bx, 1, none⟩)), fIs (.pointer (some ⟨bx, 4, none⟩)), fIs (.slice ya yn yc), fIs (.int .i64 (yn : Int)), fIs (.int .i64 ((C0 : Int) + (yn : Int))), fIs (.pointer (some ⟨S, m0, none⟩))] (by kernel_rfl) (by kernel_rfl) (by kernel_rfl) (fun _ ⟨_, _⟩ ⟨_, _⟩ _ e h => by cases e; exact h) ⟨fIs_good _, fIs_good _, fIs_good _, fIs_good _, fIs_good _, fIs_good _, fIs_good _, fIs_good _, fIs_good _, fIs_good _, fIs_good _, fIs_good _, fIs_good _, fIs_good _, trivial⟩ ?mk8 ?rest8
            case mk8 =>
              refine ⟨fun u wz hb hd => ?_, fun u wz hb hd => ?_, fun u wz hb hd => ?_, fun u wz hb hd => ?_, fun u wz hb hd => ?_, fun u wz hb hd => ?_, fun u wz hb hd => ?_, fun u wz hb hd => ?_, fun u wz hb hd => ?_, fun u wz hb hd => ?_, fun u wz hb hd => ?_, fun u wz hb hd => ?_, fun u wz hb hd => ?_, fun u wz hb hd => ?_, trivial⟩
              all_goals simp only [Act.put, List.setIfInBounds_toArray, List.set_cons_zero, List.set_cons_succ]
              · go_simp
                exact ⟨rfl, Below.refl _ _, fun h => by cases h⟩
              · go_simp
                exact ⟨rfl, Below.refl _ _, fun h => by cases h⟩
              · go_simp
                exact ⟨rfl, Below.refl _ _, fun h => by cases h⟩
              · have e1 : u 1 = .slice (some ⟨sb, 0, none⟩) l sc := hd 1 (by omega) (by kernel_rfl)
                have e2 : u 2 = .int .i64 (k : Int) := hd 2 (by omega) (by kernel_rfl)
                rw [e1, e2]
                go_simp
                exact ⟨rfl, Below.refl _ _, fun h => by cases h⟩
              · have e3 : u 3 = .pointer (some ⟨sb, k * 7, none⟩) := hd 3 (by omega) (by kernel_rfl)
                rw [e3]
                go_simp
                exact ⟨rfl, Below.refl _ _, fun h => by cases h⟩
              · have e4 : u 4 = .pointer (some ⟨sb, k * 7 + 1, none⟩) := hd 4 (by omega) (by kernel_rfl)
                rw [e4]
                have sc1' := (hb.cell (p := ⟨sb, k * 7 + 1, none⟩) (lt_of_cell sc1)).trans sc1
                go_simp
                exact ⟨rfl, Below.refl _ _, fun h => by cases h⟩
              · have e0 : u 0 = .slice (some ⟨S, 0, none⟩) n n := hd 0 (by omega) (by kernel_rfl)
                have e5 : u 5 = .int .i64 (m0 : Int) := hd 5 (by omega) (by kernel_rfl)
                rw [e0, e5]
                go_simp
                exact ⟨rfl, Below.refl _ _, fun h => by cases h⟩
              · have e6 : u 6 = .pointer (some ⟨S, m0, none⟩) := hd 6 (by omega) (by kernel_rfl)
                rw [e6]
                have cS' := (hb.cell (p := ⟨S, m0, none⟩) (lt_of_cell cS)).trans cS
                go_simp
                exact ⟨rfl, Below.refl _ _, fun h => by cases h⟩
              · go_simp
                exact ⟨rfl, Below.refl _ _, fun h => by cases h⟩
              · have e8 : u 8 = .pointer (some ⟨bx, 1, none⟩) := hd 8 (by omega) (by kernel_rfl)
                rw [e8]
                go_simp
                exact ⟨rfl, Below.refl _ _, fun h => by cases h⟩
              · have e9 : u 9 = .pointer (some ⟨bx, 4, none⟩) := hd 9 (by omega) (by kernel_rfl)
                rw [e9]
                have b4' := (hb.cell (p := ⟨bx, 4, none⟩) (lt_of_cell b4)).trans b4
                go_simp
                exact ⟨rfl, Below.refl _ _, fun h => by cases h⟩
              · have e10 : u 10 = .slice ya yn yc := hd 10 (by omega) (by kernel_rfl)
                rw [e10]
                go_simp
                exact ⟨rfl, Below.refl _ _, fun h => by cases h⟩
              · have e7 : u 7 = .int .i64 (C0 : Int) := hd 7 (by omega) (by kernel_rfl)
                have e11 : u 11 = .int .i64 (yn : Int) := hd 11 (by omega) (by kernel_rfl)
                rw [e7, e11]
                go_simp
                try rw [HW9.out]
                exact ⟨rfl, Below.refl _ _, fun h => by cases h⟩
              · have e0 : u 0 = .slice (some ⟨S, 0, none⟩) n n := hd 0 (by omega) (by kernel_rfl)
                have e5 : u 5 = .int .i64 (m0 : Int) := hd 5 (by omega) (by kernel_rfl)
                rw [e0, e5]
                go_simp
                exact ⟨rfl, Below.refl _ _, fun h => by cases h⟩
            case rest8 =>
              intro u wz hb hf hp
              have f0 : u 0 = .slice (some ⟨S, 0, none⟩) n n := hf 0 (by omega)
              have f1 : u 1 = .slice (some ⟨sb, 0, none⟩) l sc := hf 1 (by omega)
              have f2 : u 2 = .int .i64 (k : Int) := hf 2 (by omega)
              have f3 : u 3 = .pointer (some ⟨sb, k * 7, none⟩) := hf 3 (by omega)
              have f4 : u 4 = .pointer (some ⟨sb, k * 7 + 1, none⟩) := hf 4 (by omega)
              have f5 : u 5 = .int .i64 (m0 : Int) := hf 5 (by omega)
              have f6 : u 6 = .pointer (some ⟨S, m0, none⟩) := hf 6 (by omega)
              have f7 : u 7 = .int .i64 (C0 : Int) := hf 7 (by omega)
              have f8 : u 8 = .pointer (some ⟨bx, 1, none⟩) := hf 8 (by omega)
              have f9 : u 9 = .pointer (some ⟨bx, 4, none⟩) := hf 9 (by omega)
              have f10 : u 10 = .slice ya yn yc := hf 10 (by omega)
              have f11 : u 11 = .int .i64 (yn : Int) := hf 11 (by omega)
              have f12 : u 12 = .int .i64 ((C0 : Int) + (yn : Int)) := hf 12 (by omega)
              have f13 : u 13 = .pointer (some ⟨S, m0, none⟩) := hf 13 (by omega)
              refine UptoW.rest 1 14 (by rfl) (by kernel_rfl) ?_
              simp only [List.take, List.drop, putOps, Act.put, List.setIfInBounds_toArray, List.set_cons_zero, List.set_cons_succ, Nat.reduceAdd, f0, f1, f2, f3, f4, f5, f6, f7, f8, f9, f10, f11, f12, f13]
              clear f0 f1 f2 f3 f4 f5 f6 f7 f8 f9 f10 f11 f12 f13 hf hp
              have HCW := hide (HCV.out.below hb)
              have HBZ := hide (HBV.out.trans (hb.mono (by have h9 := HBV.out.size; rw [HS.out]; exact h9)))
              have fz := HCW.out.frozen m0
              have zS := (HCW.out.cell hm0)
              have zz := HCW.out.lt
              clear hb
              go_wp2_with fail
              go_roundw
              case rel =>
                refine ⟨k + 1, by omega, by first | rfl | go_num, ?_, HBZ.out.setCell (by simp only; exact Nat.le_refl _) _⟩
                have h9 := HCW.out.set hm0 (C0 + yn)
                rw [Int.natCast_add] at h9
                refine h9.congr fun m hm => ?_
                rw [HC1.out m]
                by_cases e : m = m0
                · subst e
                  rw [if_pos rfl, if_pos ⟨by first | rfl | trivial, by first | rfl | trivial, by first | rfl | trivial⟩, HC0.out]
                · rw [if_neg e, if_neg (fun h8 => e (by have := h8.2.2; omega))]
                  rfl
              case measure => simp [intOf]; omega
          | false =>
            go_wp2_with fail
            go_roundw
            case rel => exact ⟨k + 1, by omega, by first | rfl | go_num, HCV.out.congr (fun m hm => by rw [HC1.out m, if_neg (by simp)]; rfl), HBV.out⟩
            case measure => simp [intOf]; omega
        · go_wp2_with fail
          go_roundw
          case rel => exact ⟨k + 1, by omega, by first | rfl | go_num, HCV.out.congr (fun m hm => by rw [HC1.out m, if_neg (fun h8 => a1 h8.1)]; rfl), HBV.out⟩
          case measure => simp [intOf]; omega
      · obtain rfl : k = l := by omega
        have hcl : CtAt wr S n (fun m => datS d.toNat n (fun i => xss[i]?.getD []) m (notN d.toNat n)) := HCT.out.congr (fun m hm => by
          rw [List.take_of_length_le (by rw [HLL.out]; exact Nat.le_refl _), List.take_of_length_le (by rw [← HLR.out, HLL.out]; exact Nat.le_refl _)]
          exact HCN.out m hm)
        have HCL := hide hcl
        clear hcl HCT
        go_wp2_with fail
        go_loopw [73] (fun i wq => ∃ k : Nat, k ≤ n ∧ i = .int .i64 k ∧ CtAt wq S n (fun m => datS d.toNat n (fun i => xss[i]?.getD []) m (notN d.toNat n)) ∧ Below S w4 wq) (fun i _ => n - (intOf i).toNat)
        case atStart => exact ⟨0, Nat.zero_le _, by first | rfl | trivial, HCL.out, HB.out⟩
        case round =>
          clear HCL HB
          obtain ⟨k, hk, rfl, hct, hb⟩ := hrel
          have HCT := hide hct
          have HB := hide hb
          clear hct hb
          by_cases hlt2 : k < n
          · have hkz : (k : Int) < (n : Int) := by omega
            have hS4 : S = w4.heap.size := HS.out
            have hb1 : Below w1.heap.size w1 wr := bl_on HB4.out (by rw [← hS4]; exact HB.out)
            obtain ⟨X9, m9, c9, x0, xI, xC⟩ := HAT.out k (by rw [← HN.out]; exact hlt2)
            have y0 := (hb1.cell (p := ⟨db, doff + k, none⟩) (lt_of_cell x0)).trans x0
            have yz := lt_of_cell y0
            have hlen : (xss[k]?.getD []).length = m9 := xI.1
            have hl200 : m9 ≤ 200 := by rw [← hlen]; exact (HA.out.all k (by rw [← HN.out]; exact hlt2)).1
            have HXI := hide (xI.below hb1)
            have hDD := words_is HTM.out hlt2
            obtain ⟨D, hD⟩ : ∃ D, D = datS d.toNat n (fun i => xss[i]?.getD []) k (notN d.toNat n) := ⟨_, rfl⟩
            rw [← hD] at hDD
            have cS : wr.cell? ⟨S, k, none⟩ = some (.int .i64 (D : Int)) := by rw [hD]; exact HCT.out.cell hlt2
            have hDb : D ≤ 2000 := by rw [hD]; exact datS_le HTM.out hlt2
            obtain ⟨nx, hnx⟩ : ∃ nx, nx = (k + 1) % n := ⟨_, rfl⟩
            have hnl : nx < n := by rw [hnx]; exact Nat.mod_lt _ (by omega)
            have hni : ((k : Int) + 1) % (n : Int) = (nx : Int) := by rw [hnx]; simp
            have hnt : ((k : Int) + 1).tmod (n : Int) = (nx : Int) := by rw [Int.tmod_eq_emod_of_nonneg (by omega)]; exact hni
            unfold wordsN at hDD
            rw [← hnx] at hDD
            simp only at hDD
            rw [hlen] at hDD
            have HDD := hide hDD
            have HNX := hide hnx
            have HB1 := hide hb1
            have q0 : ¬ ((n : Int) = 0) := by omega
            have q1 : ((n : Int) == 0) = false := by simp; omega
            have HP1 := hide (rPiece_any X9 m9 c9 (xss[k]?.getD []) k n wr HXI.out xC (by omega) hlt2 (by omega))
            have HLN := hide hlen
            clear hS4 hb1 x0 xI hD hDD hnx hlen
            have HNI := hide hni
            have HNT := hide hnt
            clear hni hnt
            go_upto_region 18 with (go_at_call 15; refine stp ?_)
            unfold Stp1
            refine HP1.out.mono ?_
            rintro e w6 ⟨⟨A1, m1, c1, rfl, _, _, hm1, hml1⟩, hb6⟩
            have HM1 := hide hm1
            have HB6 := hide hb6
            have HP2 := hide (rPiece_any X9 m9 c9 (xss[k]?.getD []) nx n w6 (HXI.out.below hb6) xC (by omega) hnl (by omega))
            clear hm1 hb6
            have hni := HNI.out
            have hnt := HNT.out
            go_upto_region 19 with (go_at_call 15; refine stp ?_)
            unfold Stp1
            refine HP2.out.mono ?_
            rintro e w7 ⟨⟨A2, m2, c2, rfl, _, _, hm2, hml2⟩, hb7⟩
            have hb67 : Below wr.heap.size wr w7 := HB6.out.trans (hb7.mono HB6.out.size)
            have HM2 := hide hm2
            have HCX := hide (HCT.out.below hb67)
            have HBX := hide (HB.out.trans (hb67.mono (by have h9 := HB.out.size; rw [HS.out]; exact h9)))
            have cS := (hb67.cell (p := ⟨S, k, none⟩) (lt_of_cell cS)).trans cS
            have cz := lt_of_cell cS
            have HB67 := hide hb67
            clear hm2 hb7 hb67 hni hnt y0 yz
            by_cases d1 : d = 1
            · subst d1
              have hv : (D : Int) = 2 * (m9 : Int) - (m1 : Int) - (m2 : Int) := by
                rw [HDD.out, if_neg (by decide), if_pos (by decide), HM1.out, HM2.out]
              have g1 : ((D : Int) != 2 * (m9 : Int) - (m1 : Int) - (m2 : Int)) = false := by rw [hv]; simp
              have g2 : ((D : Int) == 2 * (m9 : Int) - (m1 : Int) - (m2 : Int)) = true := by rw [hv]; simp
              have g3 : D = 2 * m9 - m1 - m2 := by omega
              clear hv g3
              go_wp2_with fail
              go_roundw
              case rel => exact ⟨k + 1, by omega, by first | rfl | go_num, HCX.out, HBX.out⟩
              case measure => simp [intOf]; omega
            · by_cases d3 : d = 3
              · subst d3
                have hv : (D : Int) = ((sumN n (fun j => if j = nx then 0 else (xss[j]?.getD []).length) : Nat) : Int) := by rw [HDD.out, if_pos (by decide)]
                obtain ⟨f, hf⟩ : ∃ f : Nat → Nat, f = (fun j => if j = nx then 0 else (xss[j]?.getD []).length) := ⟨_, rfl⟩
                rw [← hf] at hv
                have HV := hide hv
                have hfb : ∀ j, j < n → f j ≤ 200 := fun j hj => by
                  rw [hf]
                  simp only
                  split
                  · omega
                  · exact (HA.out.all j (by rw [← HN.out]; exact hj)).1
                have HFB := hide hfb
                have HF := hide hf
                clear hv hfb hf
                go_wp2_with fail
                go_loopw [18, 108] (fun v18 i wq => ∃ j : Nat, j ≤ n ∧ i = .int .i64 j ∧ v18 = .int .i64 ((sumN j f : Nat) : Int) ∧ wq = w7) (fun _ i _ => n - (intOf i).toNat)
                case atStart => exact ⟨0, Nat.zero_le _, by first | rfl | trivial, by first | rfl | trivial, by first | rfl | trivial⟩
                case round =>
                  obtain ⟨j, hj, rfl, rfl, rfl⟩ := hrel
                  by_cases hlt3 : j < n
                  · obtain ⟨Xj, mj, cj, x0, xI, _⟩ := HAT.out j (by rw [← HN.out]; exact hlt3)
                    have hbj := bl_on HB1.out HB67.out
                    have y0 := (hbj.cell (p := ⟨db, doff + j, none⟩) (lt_of_cell x0)).trans x0
                    have yz := lt_of_cell y0
                    have hlj : (xss[j]?.getD []).length = mj := xI.1
                    have hjz : (j : Int) < (n : Int) := by omega
                    have hsb : sumN j f ≤ j * 200 := sumN_le 200 j f (fun i hi => HFB.out i (by omega))
                    have hm200 : mj ≤ 200 := by rw [← hlj]; exact (HA.out.all j (by rw [← HN.out]; exact hlt3)).1
                    have hsc : sumN (j + 1) f = sumN j f + f j := rfl
                    have hfj : f j = if j = nx then 0 else mj := by rw [HF.out, ← hlj]
                    obtain ⟨s0, hs0⟩ : ∃ s0, s0 = sumN j f := ⟨_, rfl⟩
                    rw [← hs0] at hsb hsc ⊢
                    have HSC := hide hsc
                    have HFJ := hide hfj
                    have hs1 : s0 ≤ 1200 := by omega
                    have hni := HNI.out
                    have hnt := HNT.out
                    clear x0 xI hbj hlj hsb hsc hfj hs0
                    by_cases e : j = nx
                    · have g1 : ((j : Int) != (nx : Int)) = false := by rw [e]; simp
                      have g2 : ((j : Int) == (nx : Int)) = true := by rw [e]; simp
                      have E := hide e
                      clear e
                      go_wp2_with fail
                      go_roundw
                      case rel => exact ⟨j + 1, by omega, by first | rfl | go_num, by rw [HSC.out, HFJ.out, if_pos E.out]; rfl, by first | rfl | trivial⟩
                      case measure => simp [intOf]; omega
                    · have g1 : ((j : Int) != (nx : Int)) = true := by simp; omega
                      have g2 : ((j : Int) == (nx : Int)) = false := by simp; omega
                      have E := hide e
                      clear e
                      go_wp2_with fail
                      go_roundw
                      case rel => exact ⟨j + 1, by omega, by first | rfl | go_num, by rw [HSC.out, HFJ.out, if_neg E.out, Int.natCast_add], by first | rfl | trivial⟩
                      case measure => simp [intOf]; omega
                  · obtain rfl : n = j := by omega
                    have hv := HV.out
                    obtain ⟨s0, hs0⟩ : ∃ s0, s0 = sumN n f := ⟨_, rfl⟩
                    rw [← hs0] at hv ⊢
                    have g0 : D = s0 := by omega
                    have g1 : ((D : Int) != (s0 : Int)) = false := by rw [hv]; simp
                    have g2 : ((D : Int) == (s0 : Int)) = true := by rw [hv]; simp
                    clear hv g0 hs0
                    go_wp2_with fail
                    go_roundw
                    case rel => exact ⟨k + 1, by omega, by first | rfl | go_num, HCX.out, HBX.out⟩
                    case measure => simp [intOf]; omega
              · have hv : (D : Int) = (m9 : Int) - (m1 : Int) := by
                  rw [HDD.out, if_neg (by omega), if_neg (by omega), HM1.out]
                have g1 : ((D : Int) != (m9 : Int) - (m1 : Int)) = false := by rw [hv]; simp
                have g2 : ((D : Int) == (m9 : Int) - (m1 : Int)) = true := by rw [hv]; simp
                clear hv
                go_wp2_with fail
                go_roundw
                case rel => exact ⟨k + 1, by omega, by first | rfl | go_num, HCX.out, HBX.out⟩
                case measure => simp [intOf]; omega
          · obtain rfl : k = n := by omega
            go_wp2_with fail
            go_ret
            exact ⟨rfl, bl_on HB4.out (by have h9 := HS.out; rw [← h9]; exact HB.out)⟩
end Go.Proofs.Yticcoacoepajpaa.V
