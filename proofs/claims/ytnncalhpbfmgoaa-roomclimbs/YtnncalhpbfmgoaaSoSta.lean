/-
  slices.stableCmpFunc, at elements of one cell: a stable sort.
-/
import Derived.Test.YtnncalhpbfmgoaaSoSym2
import Derived.Test.YtnncalhpbfmgoaaSoIns
namespace Go.Proofs.Ytnncalhpbfmgoaa.S1
open Go Go.Shelf Go.RowKit Go.Lib Go.Sort Go.Proofs Go.Proofs.Ytnncalhpbfmgoaa.S
set_option linter.unusedVariables false

set_option maxHeartbeats 16000000 in
set_option maxRecDepth 1000000 in
theorem stable_k (P : Program) (H : StP P) (F : StF P) {α : Type} [Inhabited α] (enc : α → Value) (cf : α → α → Int) (lt : α → α → Bool) (hS : SWO lt) (g : Nat) (cb : Array Value) (eg : ∀ args w, (callFunc g args).run P w = .ok (.enter g args) w) (blk off cap : Nat) (d0 : Array α) (w0 : World) (hcmp : CmpLays1 P g cb enc cf blk off d0.size w0) (R : Row1 enc w0 blk off d0) (idx : α → Nat) (hg : ∀ x y, idx x < idx y → ltOf cf y x = lt y x) (hidx : ∀ t, t < d0.size → idx d0[t]! = t) (w : World) (S : SW enc w0 blk off d0 w) (hsz : d0.size < 1152921504606846976) :
    Calls P 54 #[.slice (some ⟨blk, off, none⟩) d0.size cap, .int .i64 d0.size, .func (.func g) #[] cb] w fun e w' => e = .returned (.tuple #[]) ∧ ∃ d', SW enc w0 blk off d' w' ∧ PermIn 0 d0.size d0 d' ∧ SortedIn lt 0 d0.size d' := by
  have mixed := H.mixed; have t3 := H.t3; have a3 := H.a3; have z3 := H.z3; have v3 := H.v3; have t4 := H.t4; have a4 := H.a4; have z4 := H.z4; have v4 := H.v4; have t22 := H.t22; have a22 := H.a22; have z22 := H.z22; have v22 := H.v22; have t25 := H.t25; have a25 := H.a25; have z25 := H.z25; have v25 := H.v25; have tU := H.tU; have aU := H.aU; have zU := H.zU; have vU := H.vU; have u22 := run_underlying H.t22; have hcl0 := R.hO.cells; have hst := R.hO.store P
  simp only [Value.cells] at hcl0
  have FG := F.fSta
  have eI := F.eIns
  have eS := F.eSym
  have HC : Aside _ := hcmp
  have S0 : Aside (SW enc w0 blk off d0 w) := S
  have HIX : Hid _ := hidx
  have HG : Hid _ := hg
  clear S hcmp hidx hg
  obtain ⟨n, hn⟩ : ∃ n, n = d0.size := ⟨_, rfl⟩
  rw [← hn] at hsz
  have HN : Hid _ := hn
  rw [← hn]
  clear hn
  go_enter FG, Try.ntmps54
  go_wp2
  go_loopg [7, 8] n (fun kx va vb wr => ∃ (a b : Nat) (dk : Array α), va = .int .i64 a ∧ vb = .int .i64 b ∧ Hid (b = a + 20) ∧ Hid (20 ∣ a) ∧ a ≤ n ∧ n - a ≤ kx ∧ dk.size = n ∧ Aside (SW enc w0 blk off dk wr) ∧ Hid (Blocks lt idx n 20 a d0 dk))
  case atStart => exact ⟨0, 20, d0, rfl, rfl, rfl, Nat.dvd_zero _, Nat.zero_le _, by omega, HN.out.symm, S0, Blocks.start (fun t ht => HIX.out t (by rw [← HN.out]; exact ht))⟩
  case round =>
    clear S0
    obtain ⟨a, b, dk, rfl, rfl, HB, HD, han, hkx, hds, S1, BL⟩ := hrel
    have hba := HB.out
    by_cases hle : b ≤ n
    · have hlez : (b : Int) ≤ (n : Int) := by omega
      have hc := ins_k P H F enc cf g cb eg blk off cap a b d0 dk w0 wr HC.out R (by rw [hds]; exact HN.out.symm) S1.out (by omega) (by omega) (by omega)
      rw [hds] at hc
      have BL2 : Hid _ := BL.out.ins (l1 := ltOf cf) hS HG.out (b := b) (by omega) (by omega) HD.out (by omega) (by omega) (by omega) (.inl (by rw [hba]; exact Nat.dvd_add HD.out (Nat.dvd_refl _)))
      clear hba
      go_wp2_with (go_at_fn 67; refine hc.mono ?_; rintro e w1 ⟨rfl, s1⟩)
      have hba := HB.out
      go_roundg (n - b)
      case measure => omega
      case rel => exact ⟨b, b + 20, _, rfl, by go_num, rfl, by rw [hba]; exact Nat.dvd_add HD.out (Nat.dvd_refl _), by omega, Nat.le_refl _, by rw [← hds]; exact BL2.out.perm.1.trans (HN.out.symm.trans hds.symm), s1, BL2.out⟩
    · have hlez : ¬ (b : Int) ≤ (n : Int) := by omega
      have hc := ins_k P H F enc cf g cb eg blk off cap a n d0 dk w0 wr HC.out R (by rw [hds]; exact HN.out.symm) S1.out (by omega) (by omega) (by omega)
      rw [hds] at hc
      have BL2 : Hid _ := (BL.out.ins (l1 := ltOf cf) hS HG.out (b := n) (by omega) (by omega) HD.out (by omega) (by omega) (by omega) (.inr rfl)).level
      clear hba
      go_wp2_with (go_at_fn 67; refine hc.mono ?_; rintro e w1 ⟨rfl, s1⟩)
      have S2 : Aside _ := s1
      have hds2 : (insertionSort (ltOf cf) dk a n).size = n := BL2.out.perm.1.trans HN.out.symm
      generalize insertionSort (ltOf cf) dk a n = d1 at BL2 S2 hds2
      clear s1 hc S1 BL HB HD
      go_loopg [6] n (fun kx v6 wr => ∃ (s : Nat) (dk : Array α), v6 = .int .i64 s ∧ 0 < s ∧ n - s ≤ kx ∧ dk.size = n ∧ Aside (SW enc w0 blk off dk wr) ∧ Hid (Level lt idx n s d0 dk))
      case atStart => exact ⟨20, d1, rfl, by omega, by omega, hds2, S2, BL2⟩
      case round =>
        clear S2 BL2 hds2
        obtain ⟨s, dk, rfl, hs0, hkx2, hds2, S1, LV⟩ := hrel
        by_cases hsn : s < n
        · have hsnz : (s : Int) < (n : Int) := by omega
          go_wp2
          go_loopg [7, 8] n (fun kx va vb wr => ∃ (a b : Nat) (dj : Array α), va = .int .i64 a ∧ vb = .int .i64 b ∧ Hid (b = a + 2 * s) ∧ Hid (2 * s ∣ a) ∧ a ≤ n ∧ n - a ≤ kx ∧ dj.size = n ∧ Aside (SW enc w0 blk off dj wr) ∧ Hid (Midway lt idx n s a d0 dj))
          case atStart => exact ⟨0, 2 * s, dk, rfl, by first | rfl | go_num | (congr 1; omega), (Nat.zero_add _).symm, Nat.dvd_zero _, Nat.zero_le _, by omega, hds2, S1, LV.out.midway⟩
          case round =>
            clear S1 LV
            obtain ⟨a2, b2, dj, rfl, rfl, HB2, HD2, han2, hkx3, hdj, S1, MW⟩ := hrel
            have hba2 := HB2.out
            by_cases hle2 : b2 ≤ n
            · have hlez2 : (b2 : Int) ≤ (n : Int) := by omega
              obtain ⟨pr1, pr2, pr3⟩ := MW.out.pre (b := b2) hs0 HD2.out (by omega) hle2 (by omega)
              have hc2 := symMerge_k P H F enc cf lt hS g cb eg blk off cap d0 w0 HC.out R (b2 - a2) a2 (a2 + s) b2 dj wr (Nat.le_refl _) (by rw [hdj]; exact HN.out.symm) S1.out (by omega) (by omega) (by omega) (by omega) pr1 pr2 (fun i j i1 i2 i3 i4 => HG.out _ _ (pr3 i j i1 i2 i3 i4))
              have ec : ((a2 + s : Nat) : Int) = (a2 : Int) + (s : Int) := by omega
              rw [hdj, ec] at hc2
              clear hba2 pr1 pr2 pr3 ec
              go_wp2_with (go_at_fn 68; refine hc2.mono ?_; rintro e w1 ⟨rfl, d2, s2, p2, o2⟩)
              have hba2 := HB2.out
              rw [hba2] at p2 o2
              go_roundg (n - b2)
              case measure => omega
              case rel => exact ⟨b2, b2 + 2 * s, d2, rfl, by first | rfl | go_num | (congr 1; omega), rfl, by rw [hba2]; exact Nat.dvd_add HD2.out (Nat.dvd_refl _), hle2, Nat.le_refl _, p2.1.trans hdj, s2, by rw [hba2]; exact MW.out.step (by omega) HD2.out (by omega) p2 o2⟩
            · have hlez2 : ¬ (b2 : Int) ≤ (n : Int) := by omega
              by_cases hmn : a2 + s < n
              · have hmnz : (a2 : Int) + (s : Int) < (n : Int) := by omega
                obtain ⟨pr1, pr2, pr3⟩ := MW.out.pre (b := n) hs0 HD2.out (by omega) (Nat.le_refl _) (by omega)
                have hc2 := symMerge_k P H F enc cf lt hS g cb eg blk off cap d0 w0 HC.out R (n - a2) a2 (a2 + s) n dj wr (Nat.le_refl _) (by rw [hdj]; exact HN.out.symm) S1.out (by omega) (by omega) (by omega) (by omega) pr1 pr2 (fun i j i1 i2 i3 i4 => HG.out _ _ (pr3 i j i1 i2 i3 i4))
                have ec : ((a2 + s : Nat) : Int) = (a2 : Int) + (s : Int) := by omega
                rw [hdj, ec] at hc2
                clear hba2 pr1 pr2 pr3 ec
                go_wp2_with (go_at_fn 68; refine hc2.mono ?_; rintro e w1 ⟨rfl, d2, s2, p2, o2⟩)
                have hba2 := HB2.out
                go_roundg (n - 2 * s)
                case measure => omega
                case rel => exact ⟨2 * s, d2, by first | rfl | go_num | (congr 1; omega), by omega, Nat.le_refl _, p2.1.trans hdj, s2, MW.out.last (by omega) HD2.out han2 (by omega) p2 o2⟩
              · have hmnz : ¬ (a2 : Int) + (s : Int) < (n : Int) := by omega
                clear hba2
                go_wp2
                have hba2 := HB2.out
                go_roundg (n - 2 * s)
                case measure => omega
                case rel => exact ⟨2 * s, dj, by first | rfl | go_num | (congr 1; omega), by omega, Nat.le_refl _, hdj, S1, MW.out.none (by omega) hs0 HD2.out han2 (by omega)⟩
        · have hsnz : ¬ (s : Int) < (n : Int) := by omega
          go_wp2
          go_end0
          exact ⟨rfl, dk, S1.out, LV.out.end_ (by omega)⟩
end Go.Proofs.Ytnncalhpbfmgoaa.S1
