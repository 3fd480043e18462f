/-
  The law RoomTight.
-/
import Derived.Test.YtcnnghhaohehoaaRmAlive
namespace Go.Proofs.Ytcnnghhaohehoaa.V
open Go Go.Shelf Go.RowKit Go.Lib Go.Sort Go.Proofs
set_option linter.unusedVariables false

def sameW (c : Int) (x : Lf) : Lf := ⟨x.fr, x.to, c⟩
set_option maxHeartbeats 4000000 in
set_option maxRecDepth 100000 in
theorem roomTight_walk (a : Option Addr) (len cap : Nat) (ls : List Lf) (c : Int) (w : World) (h : Lives w a len ls) (hb : len * 24 ≤ 140737488355328) :
    Calls Try.prog 6 #[.slice a len cap, .int .i64 c] w fun e w' => e = .returned (.bool true) ∧ Below w.heap.size w w' := by
  have HL := hide h.1
  have hm := h.2.1
  have H := hide h
  have HA := hide (alive12_ok w)
  clear h
  go_enter Try.func6, Try.ntmps6
  go_wp2_with (go_at_call 19; refine HA.out.mono ?_; rintro e w1 ⟨rfl, hb1⟩; have HB1 := hide hb1; clear hb1)
  go_loopw [5, 16] (fun v i wr => ∃ k : Nat, k ≤ len ∧ i = .int .i64 k ∧ OutF wr w.heap.size v ((ls.take k).map (sameW c)) ∧ Below w.heap.size w wr) (fun _ i _ => len - (intOf i).toNat)
  case atStart => exact ⟨0, Nat.zero_le _, rfl, World.ownsRow_nil _ _ _ _, HB1.out⟩
  case round =>
    obtain ⟨k, hk, rfl, ho, hB⟩ := hrel
    have HO2 := hide ho
    have HB := hide hB
    clear ho hB
    by_cases hlt : k < len
    · have hkl : k < ls.length := by rw [HL.out]; exact hlt
      obtain ⟨b, off, rfl, c1, c2, c3⟩ := (H.out.below HB.out).at hlt
      have z1 := lt_of_cell c1
      simp only at z1
      have HTK : Hid ((ls.take (k + 1)).map (sameW c) = (ls.take k).map (sameW c) ++ [sameW c (ls[k]?.getD lfD)]) := by rw [Hid, take_succLf ls k hkl]; simp
      obtain ⟨q, hq⟩ : ∃ q, q = ls[k]?.getD lfD := ⟨_, rfl⟩
      rw [← hq] at c1 c2 c3
      rw [← hq] at HTK
      have HCL : Hid (((ls.take k).map (sameW c)).length = k) := by rw [Hid, List.length_map, List.length_take]; omega
      clear hq hkl
      have HO3 := hide (HO2.out.below (bl_new (.cells #[.int .i64 q.fr, .int .i64 q.to, .int .i64 q.wd] 37)))
      have HB3 := hide (bl_on HB.out (bl_new (.cells #[.int .i64 q.fr, .int .i64 q.to, .int .i64 q.wd] 37)))
      obtain ⟨A, c', hv, _⟩ := HO2.out.lives
      subst hv
      go_wp2_with (at_builtin; refine append_f rfl (.tmp 20) (.tmp 27) rfl w.heap.size _ rfl _ (sameW c q) HO3.out (by simp [go_sem]) (by rw [HCL.out]; omega) HB3.out.size ?_; intro v1 w3 ho3 hb3; have HO4 := hide ho3; have HB4 := hide (HB3.out.trans hb3); clear ho3 hb3)
      go_roundw
      case rel => exact ⟨k + 1, by omega, by go_num, by rw [HTK.out]; exact HO4.out, HB4.out⟩
      case measure => simp [intOf]; omega
    · obtain rfl : k = len := by omega
      have ho := HO2.out
      rw [List.take_of_length_le (by rw [HL.out]; omega)] at ho
      obtain ⟨A, c', rfl, hlv⟩ := ho.lives
      obtain ⟨ss, hss⟩ : ∃ ss, ss = ls.map (sameW c) := ⟨_, rfl⟩
      rw [← hss] at hlv ⊢
      have HSS := hide hss
      have HLV := hide hlv
      clear ho hlv HO2 hss
      go_wp2_with fail
      refine (lay_any A ss.length c' ss wr HLV.out).mono ?_
      rintro e w2 ⟨⟨os, a', l', c2, hord, rfl, hin⟩, hb2⟩
      have HB2 := hide (bl_on HB.out hb2)
      have HLV2 := hide (HLV.out.below hb2)
      have HORD := hide hord
      clear hord hin hb2
      by_cases hE : layE ss os = 0
      · have hlE : livesE ss = 0 := by
          unfold layE at hE
          by_cases h0 : livesE ss = 0
          · exact h0
          · rw [if_pos h0] at hE; exact absurd hE h0
        obtain ⟨_, hok⟩ := livesE_ok hlE
        have hle1 := load_le (HORD.out hlE) hok
        have hle2 := tight (HORD.out hlE) hok c (fun x hx => by
          rw [HSS.out, List.mem_map] at hx
          obtain ⟨y, _, rfl⟩ := hx
          rfl)
        have heq : layN ss os = loadV ss := by unfold layN; rw [if_pos hE]; omega
        have HLO := load_any A ss.length c' ss w2 HLV2.out
        rw [hlE, if_pos rfl] at HLO
        have HLOH := hide HLO
        rw [hE, heq]
        clear hE hlE hok hle1 hle2 heq HLO
        go_wp2_with (go_at_call 8; refine HLOH.out.mono ?_; rintro e w3 ⟨rfl, hb3⟩; have HB3 := hide (bl_on HB2.out hb3); clear hb3)
        go_ret
        exact ⟨by simp, HB3.out⟩
      · obtain ⟨E, hEE⟩ : ∃ E, E = layE ss os := ⟨_, rfl⟩
        rw [← hEE] at hE ⊢
        have hE' : (E != 0) = true := by simpa using hE
        clear hEE hE
        go_wp2
        go_ret
        exact ⟨rfl, HB2.out⟩
end Go.Proofs.Ytcnnghhaohehoaa.V
