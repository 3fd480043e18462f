/-
  slices.symMergeCmpFunc, at elements of one cell: the merge of two runs.
-/
import Derived.Test.YtnncalhpbfmgoaaSoSym1
import Derived.Deep.Cut
namespace Go.Proofs.Ytnncalhpbfmgoaa.S1
open Go Go.Shelf Go.RowKit Go.Lib Go.Sort Go.Proofs Go.Proofs.Ytnncalhpbfmgoaa.S
set_option linter.unusedVariables false

/-- What the merge of two runs asks, and what it does. -/
def SymOk (P : Program) {α : Type} [Inhabited α] (enc : α → Value) (cf : α → α → Int) (lt : α → α → Bool) (g : Nat) (cb : Array Value) (blk off cap : Nat) (d0 : Array α) (w0 : World) (a m b : Nat) (d : Array α) (w : World) : Prop :=
  d0.size = d.size → SW enc w0 blk off d w → a < m → m < b → b ≤ d.size → d.size < 4611686018427387904 → SortedIn lt a m d → SortedIn lt m b d → (∀ i j, a ≤ i → i < m → m ≤ j → j < b → ltOf cf d[j]! d[i]! = lt d[j]! d[i]!) →
    Calls P 68 #[.slice (some ⟨blk, off, none⟩) d.size cap, .int .i64 a, .int .i64 m, .int .i64 b, .func (.func g) #[] cb] w fun e w' => e = .returned (.tuple #[]) ∧ ∃ d', SW enc w0 blk off d' w' ∧ PermIn a b d d' ∧ SortedIn lt a b d' 
set_option maxHeartbeats 40000000 in
set_option maxRecDepth 1000000 in
theorem sym_mid (P : Program) (H : StP P) (F : StF P) {α : Type} [Inhabited α] (enc : α → Value) (cf : α → α → Int) (lt : α → α → Bool) (hS : SWO lt) (g : Nat) (cb : Array Value) (eg : ∀ args w, (callFunc g args).run P w = .ok (.enter g args) w) (blk off cap : Nat) (d0 : Array α) (w0 : World) (hcmp : CmpLays1 P g cb enc cf blk off d0.size w0) (R : Row1 enc w0 blk off d0) (a m b : Nat) (d : Array α) (w : World) (hm : m ≠ a + 1) (hbm : b ≠ m + 1) (ih : ∀ a' m' b' (d' : Array α) (w' : World), b' - a' < b - a → SymOk P enc cf lt g cb blk off cap d0 w0 a' m' b' d' w')
    (hs : d0.size = d.size) (S : SW enc w0 blk off d w) (ham : a < m) (hmb : m < b) (hb : b ≤ d.size) (hsz : d.size < 4611686018427387904) (hL : SortedIn lt a m d) (hR : SortedIn lt m b d) (hX : ∀ i j, a ≤ i → i < m → m ≤ j → j < b → ltOf cf d[j]! d[i]! = lt d[j]! d[i]!) :
    Calls P 68 #[.slice (some ⟨blk, off, none⟩) d.size cap, .int .i64 a, .int .i64 m, .int .i64 b, .func (.func g) #[] cb] w fun e w' => e = .returned (.tuple #[]) ∧ ∃ d', SW enc w0 blk off d' w' ∧ PermIn a b d d' ∧ SortedIn lt a b d' := by
  have mixed := H.mixed; have t3 := H.t3; have a3 := H.a3; have z3 := H.z3; have v3 := H.v3; have t4 := H.t4; have a4 := H.a4; have z4 := H.z4; have v4 := H.v4; have t22 := H.t22; have a22 := H.a22; have z22 := H.z22; have v22 := H.v22; have t25 := H.t25; have a25 := H.a25; have z25 := H.z25; have v25 := H.v25; have tU := H.tU; have aU := H.aU; have zU := H.zU; have vU := H.vU; have u22 := run_underlying H.t22; have hcl0 := R.hO.cells; have hst := R.hO.store P
  simp only [Value.cells] at hcl0
  have FG := F.fSym
  have eR := F.eRot
  have eS := F.eSym
  have HC : Aside _ := hcmp
  have S0 : Aside (SW enc w0 blk off d w) := S
  have HL : Hid _ := hL
  have HR : Hid _ := hR
  have HX : Hid _ := hX
  have IH : Hid _ := ih
  clear S hcmp hL hR hX ih
  have hmz : ¬ (m : Int) - (a : Int) = 1 := by omega
  have hmw : IntKind.i64.wrap ((m : Int) - (a : Int)) = (m : Int) - (a : Int) := by rw [IntKind.wrap_i64]; omega
  have hmzb : ((m : Int) - (a : Int) == 1) = false := by simpa using hmz
  have hbz : ¬ (b : Int) - (m : Int) = 1 := by omega
  have hbzb : ((b : Int) - (m : Int) == 1) = false := by simpa using hbz
  obtain ⟨mid, hmid⟩ : ∃ mid, mid = (a + b) / 2 := ⟨_, rfl⟩
  have hmidz : ((a : Int) + (b : Int)) / 2 = (mid : Int) := by omega
  have hm1 : a + b ≤ 2 * mid + 1 := by omega
  have hm2 : 2 * mid ≤ a + b := by omega
  clear hmid
  go_enter FG, Try.ntmps68
  go_upto_if 140 with fail
  go_cut [20, 21] from 25 (fun v20 v21 wc => ∃ s0 r0 : Nat, v20 = .int .i64 s0 ∧ v21 = .int .i64 r0 ∧ a ≤ s0 ∧ s0 ≤ r0 ∧ r0 ≤ m ∧ r0 ≤ mid ∧ mid + m ≤ b + s0 ∧ (s0 = a ∨ s0 + b = mid + m) ∧ (r0 = m ∨ r0 = mid) ∧ Aside (SW enc w0 blk off d wc))
  case first =>
    by_cases hmm : mid < m
    · have hmmz : (m : Int) > (mid : Int) := by omega
      have hmmz' : (mid : Int) < (m : Int) := by omega
      go_wp2
      go_meet
      case rel => exact ⟨mid + m - b, mid, by congr 1; omega, rfl, by omega, by omega, by omega, by omega, by omega, by omega, by omega, S0⟩
    · have hmmz : ¬ (m : Int) > (mid : Int) := by omega
      have hmmz' : ¬ (mid : Int) < (m : Int) := by omega
      go_wp2
      go_meet
      case rel => exact ⟨a, m, rfl, rfl, by omega, by omega, by omega, by omega, by omega, by omega, by omega, S0⟩
  case rest =>
    clear S0 hmidz
    obtain ⟨s0, r0, rfl, rfl, f1, hsr, hrm, hrmid, hnb, hsA, hrA, S0⟩ := hcut
    have HSA : Hid _ := hsA
    have HRA : Hid _ := hrA
    clear hsA hrA
    go_wp2
    go_loopg [20, 21] (r0 - s0) (fun kx vs vr wr => ∃ (s r : Nat), vs = .int .i64 s ∧ vr = .int .i64 r ∧ s0 ≤ s ∧ s ≤ r ∧ r ≤ r0 ∧ r - s ≤ kx ∧ Aside (SW enc w0 blk off d wr) ∧ Hid (s = s0 ∨ lt d[mid + m - s]! d[s - 1]! = false) ∧ Hid (r = r0 ∨ lt d[mid + m - 1 - r]! d[r]! = true))
    case atStart => exact ⟨s0, r0, rfl, rfl, Nat.le_refl _, hsr, Nat.le_refl _, Nat.le_refl _, S0, .inl rfl, .inl rfl⟩
    case round =>
      clear S0
      obtain ⟨s, r, rfl, rfl, hs0s, hsr2, hrr0, hkx, S1, HI, HJ⟩ := hrel
      by_cases hlt : s < r
      · have hltz : (s : Int) < (r : Int) := by omega
        obtain ⟨c, hh⟩ : ∃ c, c = (s + r) / 2 := ⟨_, rfl⟩
        have hh1 : s ≤ c := by omega
        have hh2 : c < r := by omega
        have hhz : ((s : Int) + (r : Int)) / 2 = (c : Int) := by omega
        obtain ⟨pc, hpc⟩ : ∃ pc, pc = mid + m - 1 - c := ⟨_, rfl⟩
        have hpz : (mid : Int) + (m : Int) - 1 - (c : Int) = (pc : Int) := by omega
        have hp2 : pc + c + 1 = mid + m := by omega
        have hp3 : mid + m - (c + 1) = pc := by omega
        have HP4 : Hid (mid + m - 1 - c = pc) := hpc.symm
        have HP3 : Hid _ := hp3
        have HP2 : Hid _ := hp2
        have hpm : m ≤ pc := by omega
        have hpb : pc < b := by omega
        clear hh hpc hp2 hp3
        go_wp2_with fail
        try simp only [hhz]
        clear hhz
        cases hl : ltOf cf d[pc]! d[c]! with
        | true =>
          as_aux_lemma =>
            obtain ⟨iNx, hiNx⟩ : ∃ zz, zz = pc := ⟨_, rfl⟩
            obtain ⟨jNx, hjNx⟩ : ∃ zz, zz = c := ⟨_, rfl⟩
            have eaxi : ((pc : Int)).toNat = iNx := by omega
            have paxi : (0 : Int) ≤ (pc : Int) := by omega
            have baxi : (pc : Int) < (d.size : Int) := by omega
            have raxi : IntKind.i64.wrap ((pc : Int)) = (pc : Int) := by rw [IntKind.wrap_i64]; omega
            have eaxj : ((c : Int)).toNat = jNx := by omega
            have paxj : (0 : Int) ≤ (c : Int) := by omega
            have baxj : (c : Int) < (d.size : Int) := by omega
            have raxj : IntKind.i64.wrap ((c : Int)) = (c : Int) := by rw [IntKind.wrap_i64]; omega
            obtain ⟨xx, hxx⟩ : ∃ zx, zx = d[pc]! := ⟨_, rfl⟩
            obtain ⟨yx, hyx⟩ : ∃ zx, zx = d[c]! := ⟨_, rfl⟩
            have lxa : ∀ (n : Nat) (os : Array Obj), (grow (wr.drewN n) os).cell? ⟨blk, off + iNx, none⟩ = some (enc xx) := by rw [hiNx, hxx]; exact S1.out.cl R (by omega) (pc) (by omega)
            have lxb : ∀ (n : Nat) (os : Array Obj), (grow (wr.drewN n) os).cell? ⟨blk, off + jNx, none⟩ = some (enc yx) := by rw [hjNx, hyx]; exact S1.out.cl R (by omega) (c) (by omega)
            have hcx := S1.out.cmp HC.out (by omega) xx yx
            have hvx : cf xx yx < 0 := by rw [hxx, hyx]; exact of_decide_eq_true hl
            have hdx : decide (cf xx yx < 0) = true := decide_eq_true hvx
            clear hxx hyx hiNx hjNx
            go_wp2_with fail
            go_quiet_grown (first | (go_at_fn g; refine Calls.grown_of (hcx _ _)))
            have S2 : Aside (SW enc w0 blk off d (grow (wr.drewN nq) osq)) := S1.out.grown nq osq
            clear lxa lxb hcx S1
            generalize grow (wr.drewN nq) osq = w2 at S2 ⊢
            clear nq osq eaxi paxi baxi raxi eaxj paxj baxj raxj
            go_wp2
            go_roundg (c - s)
            case measure => omega
            case rel => exact ⟨s, c, rfl, rfl, hs0s, by omega, by omega, Nat.le_refl _, S2, HI, .inr (by rw [HP4.out, ← HX.out c pc (by omega) (by omega) (by omega) (by omega)]; exact hl)⟩
        | false =>
          as_aux_lemma =>
            obtain ⟨iNx, hiNx⟩ : ∃ zz, zz = pc := ⟨_, rfl⟩
            obtain ⟨jNx, hjNx⟩ : ∃ zz, zz = c := ⟨_, rfl⟩
            have eaxi : ((pc : Int)).toNat = iNx := by omega
            have paxi : (0 : Int) ≤ (pc : Int) := by omega
            have baxi : (pc : Int) < (d.size : Int) := by omega
            have raxi : IntKind.i64.wrap ((pc : Int)) = (pc : Int) := by rw [IntKind.wrap_i64]; omega
            have eaxj : ((c : Int)).toNat = jNx := by omega
            have paxj : (0 : Int) ≤ (c : Int) := by omega
            have baxj : (c : Int) < (d.size : Int) := by omega
            have raxj : IntKind.i64.wrap ((c : Int)) = (c : Int) := by rw [IntKind.wrap_i64]; omega
            obtain ⟨xx, hxx⟩ : ∃ zx, zx = d[pc]! := ⟨_, rfl⟩
            obtain ⟨yx, hyx⟩ : ∃ zx, zx = d[c]! := ⟨_, rfl⟩
            have lxa : ∀ (n : Nat) (os : Array Obj), (grow (wr.drewN n) os).cell? ⟨blk, off + iNx, none⟩ = some (enc xx) := by rw [hiNx, hxx]; exact S1.out.cl R (by omega) (pc) (by omega)
            have lxb : ∀ (n : Nat) (os : Array Obj), (grow (wr.drewN n) os).cell? ⟨blk, off + jNx, none⟩ = some (enc yx) := by rw [hjNx, hyx]; exact S1.out.cl R (by omega) (c) (by omega)
            have hcx := S1.out.cmp HC.out (by omega) xx yx
            have hvx : ¬ cf xx yx < 0 := by rw [hxx, hyx]; exact of_decide_eq_false hl
            have hdx : decide (cf xx yx < 0) = false := decide_eq_false hvx
            clear hxx hyx hiNx hjNx
            go_wp2_with fail
            go_quiet_grown (first | (go_at_fn g; refine Calls.grown_of (hcx _ _)))
            have S2 : Aside (SW enc w0 blk off d (grow (wr.drewN nq) osq)) := S1.out.grown nq osq
            clear lxa lxb hcx S1
            generalize grow (wr.drewN nq) osq = w2 at S2 ⊢
            clear nq osq eaxi paxi baxi raxi eaxj paxj baxj raxj
            go_wp2
            go_roundg (r - (c + 1))
            case measure => omega
            case rel => exact ⟨c + 1, r, by go_num, rfl, by omega, by omega, hrr0, Nat.le_refl _, S2, .inr (by rw [Nat.add_sub_cancel, HP3.out, ← HX.out c pc (by omega) (by omega) (by omega) (by omega)]; exact hl), HJ⟩
      · have hltz : ¬ (s : Int) < (r : Int) := by omega
        obtain rfl : s = r := by omega
        obtain ⟨q, hq⟩ : ∃ q, q = mid + m - s := ⟨_, rfl⟩
        have hqz : (mid : Int) + (m : Int) - (s : Int) = (q : Int) := by omega
        have hmq : m ≤ q := by omega
        have hqb : q ≤ b := by omega
        have PA : Hid (Parts lt a s m q b d) := by
          refine parts_of hS (by omega) (by omega) hmq hqb HL.out HR.out ?_ ?_
          · rcases HI.out with e | e
            · rcases HSA.out with e2 | e2
              · exact .inl (by omega)
              · exact .inr (.inl (by omega))
            · rw [← hq] at e
              exact .inr (.inr e)
          · rcases HJ.out with e | e
            · rcases HRA.out with e2 | e2
              · exact .inl (by omega)
              · exact .inr (.inl (by omega))
            · rw [show mid + m - 1 - s = q - 1 by omega] at e
              exact .inr (.inr e)
        have HQ : Hid (mid + m = q + s) := by rw [Hid]; omega
        have hsmid : s ≤ mid := by omega
        have hsm : s ≤ m := by omega
        have has : a ≤ s := by omega
        clear hq HI HJ HSA HRA
        go_upto_region 39 with fail
        go_cut [185] from 25 (fun v wx => v = .bool (decide (s < m ∧ m < q)) ∧ wx = wr)
        case first =>
          as_aux_lemma =>
            by_cases gx : s < m
            · have gx1 : (s : Int) < (m : Int) := by omega
              by_cases gy : m < q
              · have gy1 : (m : Int) < (q : Int) := by omega
                go_wp2
                go_meet
                case rel => exact ⟨by rw [decide_eq_true ⟨gx, gy⟩], rfl⟩
              · have gy1 : ¬ (m : Int) < (q : Int) := by omega
                go_wp2
                go_meet
                case rel => exact ⟨by rw [decide_eq_false (fun h => gy h.2)], rfl⟩
            · have gx1 : ¬ (s : Int) < (m : Int) := by omega
              go_wp2
              go_meet
              case rel => exact ⟨by rw [decide_eq_false (fun h => gx h.1)], rfl⟩
        case rest =>
          obtain ⟨rfl, rfl⟩ := hcut
          go_upto_if 185 with fail
          go_cut [] from 25 (fun wd => ∃ d1 : Array α, SW enc w0 blk off d1 wd ∧ Via (rotI s m q) d d1 ∧ Perms a b d d1)
          case first =>
            by_cases hyes : s < m ∧ m < q
            · have hdec : decide (s < m ∧ m < q) = true := decide_eq_true hyes
              rw [hdec]
              have hc1 := rotate_k P H F enc g cb blk off cap s m q d0 d w0 wc R hs S1.out hyes.1 hyes.2 (by omega) hsz
              go_wp2_with (go_at_fn 74; refine hc1.mono ?_; rintro e w1 ⟨rfl, d1, s1, v1, p1⟩)
              go_meet
              case rel => exact ⟨d1, s1, v1, p1.wide (by omega) (by omega)⟩
            · have hdec : decide (s < m ∧ m < q) = false := decide_eq_false hyes
              rw [hdec]
              go_wp2
              go_meet
              case rel =>
                refine ⟨d, S1.out, (Via.id d).congr fun t => ?_, Perms.refl _ _ _⟩
                rcases Nat.lt_or_ge s m with e | e
                · rw [show q = m by omega, rotI_right]
                · rw [show s = m by omega, rotI_left]
          case rest =>
            clear S1
            obtain ⟨d1, s1, v1, p1⟩ := hcut
            have S1 : Aside (SW enc w0 blk off d1 wc) := s1
            have PM1 : Hid (Perms a b d d1) := p1
            have hds1 : d1.size = d.size := v1.size
            have emid : s + (q - m) = mid := by have := HQ.out; omega
            have PAR : Hid (∀ x y, a ≤ x → x < mid → mid ≤ y → y < b → lt d1[y]! d1[x]! = false) := by
              have := rot_parts (by omega) (by omega) (by omega) (by omega) PA.out v1
              rw [emid] at this
              exact this
            have hru := rot_runs (by omega) (by omega) (by omega) (by omega) HL.out HR.out v1
            have hcr := rot_cross (l1 := ltOf cf) (by omega) (by omega) (by omega) (by omega) v1 HX.out
            rw [emid] at hru hcr
            have RUNA : Hid (SortedIn lt a s d1) := hru.1
            have RUNB : Hid (SortedIn lt s mid d1) := hru.2.1
            have RUNC : Hid (SortedIn lt mid q d1) := hru.2.2.1
            have RUND : Hid (SortedIn lt q b d1) := hru.2.2.2
            have CRSL : Hid (∀ i j, a ≤ i → i < s → s ≤ j → j < mid → ltOf cf d1[j]! d1[i]! = lt d1[j]! d1[i]!) := hcr.1
            have CRSR : Hid (∀ i j, mid ≤ i → i < q → q ≤ j → j < b → ltOf cf d1[j]! d1[i]! = lt d1[j]! d1[i]!) := hcr.2
            have hmidq : mid ≤ q := by omega
            clear hru hcr emid s1 p1 v1 hqz
            go_upto_region 41 with fail
            go_cut [199] from 25 (fun v wx => v = .bool (decide (a < s ∧ s < mid)) ∧ wx = wc)
            case first =>
              as_aux_lemma =>
                by_cases gx : a < s
                · have gx1 : (a : Int) < (s : Int) := by omega
                  by_cases gy : s < mid
                  · have gy1 : (s : Int) < (mid : Int) := by omega
                    go_wp2
                    go_meet
                    case rel => exact ⟨by rw [decide_eq_true ⟨gx, gy⟩], rfl⟩
                  · have gy1 : ¬ (s : Int) < (mid : Int) := by omega
                    go_wp2
                    go_meet
                    case rel => exact ⟨by rw [decide_eq_false (fun h => gy h.2)], rfl⟩
                · have gx1 : ¬ (a : Int) < (s : Int) := by omega
                  go_wp2
                  go_meet
                  case rel => exact ⟨by rw [decide_eq_false (fun h => gx h.1)], rfl⟩
            case rest =>
              obtain ⟨rfl, rfl⟩ := hcut
              go_upto_if 199 with fail
              go_cut [] from 25 (fun wd => ∃ d2 : Array α, SW enc w0 blk off d2 wd ∧ PermIn a mid d1 d2 ∧ SortedIn lt a mid d2)
              case first =>
                by_cases hyes : a < s ∧ s < mid
                · have hdec : decide (a < s ∧ s < mid) = true := decide_eq_true hyes
                  rw [hdec]
                  have hc2 := IH.out a s mid d1 wc (by omega) (by omega) S1.out hyes.1 hyes.2 (by omega) (by omega) RUNA.out RUNB.out CRSL.out
                  rw [hds1] at hc2
                  go_wp2_with (go_at_fn 68; refine hc2.mono ?_; rintro e w2 ⟨rfl, d2, s2, p2, o2⟩)
                  go_meet
                  case rel => exact ⟨d2, s2, p2, o2⟩
                · have hdec : decide (a < s ∧ s < mid) = false := decide_eq_false hyes
                  rw [hdec]
                  go_wp2
                  go_meet
                  case rel => exact ⟨d1, S1.out, permIn_refl _ _ _, one_side hyes (by omega) (by omega) RUNA.out RUNB.out⟩
              case rest =>
                clear S1
                obtain ⟨d2, s2, p2, o2⟩ := hcut
                have S2 : Aside (SW enc w0 blk off d2 wc) := s2
                have PM2 : Hid (PermIn a mid d1 d2) := p2
                have OR2 : Hid (SortedIn lt a mid d2) := o2
                have RUN3 : Hid (SortedIn lt mid q d2) := sorted_else p2 (Nat.le_refl _) RUNC.out
                have RUN4 : Hid (SortedIn lt q b d2) := sorted_else p2 (by omega) RUND.out
                have CRS2 : Hid (∀ i j, mid ≤ i → i < q → q ≤ j → j < b → ltOf cf d2[j]! d2[i]! = lt d2[j]! d2[i]!) := cross_else p2 CRSR.out (by omega)
                have hds2 : d2.size = d.size := p2.1.trans hds1
                clear s2 p2 o2
                go_upto_region 43 with fail
                go_cut [213] from 25 (fun v wx => v = .bool (decide (mid < q ∧ q < b)) ∧ wx = wc)
                case first =>
                  as_aux_lemma =>
                    by_cases gx : mid < q
                    · have gx1 : (mid : Int) < (q : Int) := by omega
                      by_cases gy : q < b
                      · have gy1 : (q : Int) < (b : Int) := by omega
                        go_wp2
                        go_meet
                        case rel => exact ⟨by rw [decide_eq_true ⟨gx, gy⟩], rfl⟩
                      · have gy1 : ¬ (q : Int) < (b : Int) := by omega
                        go_wp2
                        go_meet
                        case rel => exact ⟨by rw [decide_eq_false (fun h => gy h.2)], rfl⟩
                    · have gx1 : ¬ (mid : Int) < (q : Int) := by omega
                      go_wp2
                      go_meet
                      case rel => exact ⟨by rw [decide_eq_false (fun h => gx h.1)], rfl⟩
                case rest =>
                  obtain ⟨rfl, rfl⟩ := hcut
                  go_upto_if 213 with fail
                  as_aux_lemma =>
                    by_cases hyes : mid < q ∧ q < b
                    · have hdec : decide (mid < q ∧ q < b) = true := decide_eq_true hyes
                      rw [hdec]
                      have hc3 := IH.out mid q b d2 wc (by omega) (by omega) S2.out hyes.1 hyes.2 (by omega) (by omega) RUN3.out RUN4.out CRS2.out
                      rw [hds2] at hc3
                      go_wp2_with (go_at_fn 68; refine hc3.mono ?_; rintro e w3 ⟨rfl, d3, s3, p3, o3⟩)
                      go_end0
                      have hh := halves (by omega) (by omega) (by omega) PAR.out PM2.out OR2.out p3 o3
                      exact ⟨rfl, d3, s3, permIn_trans _ _ _ _ _ (PM1.out a b (by omega) (by omega) hb) hh.1, hh.2⟩
                    · have hdec : decide (mid < q ∧ q < b) = false := decide_eq_false hyes
                      rw [hdec]
                      go_wp2
                      go_end0
                      have hh := halves (by omega) (by omega) (by omega) PAR.out PM2.out OR2.out (permIn_refl _ _ _) (one_side hyes (by omega) (by omega) RUN3.out RUN4.out)
                      exact ⟨rfl, d2, S2.out, permIn_trans _ _ _ _ _ (PM1.out a b (by omega) (by omega) hb) hh.1, hh.2⟩
theorem symMerge_k (P : Program) (H : StP P) (F : StF P) {α : Type} [Inhabited α] (enc : α → Value) (cf : α → α → Int) (lt : α → α → Bool) (hS : SWO lt) (g : Nat) (cb : Array Value) (eg : ∀ args w, (callFunc g args).run P w = .ok (.enter g args) w) (blk off cap : Nat) (d0 : Array α) (w0 : World) (hcmp : CmpLays1 P g cb enc cf blk off d0.size w0) (R : Row1 enc w0 blk off d0) : ∀ (N a m b : Nat) (d : Array α) (w : World), b - a ≤ N → SymOk P enc cf lt g cb blk off cap d0 w0 a m b d w
  | 0, a, m, b, d, w, hN => fun _ _ h1 h2 => by omega
  | N + 1, a, m, b, d, w, hN => by
    intro h1 h2 h3 h4 h5 h6 h7 h8 h9
    by_cases hm : m = a + 1
    · exact sym_left P H F enc cf lt hS g cb eg blk off cap d0 w0 hcmp R a m b d w hm h1 h2 h3 h4 h5 h6 h7 h8 h9
    · by_cases hb : b = m + 1
      · exact sym_right P H F enc cf lt hS g cb eg blk off cap d0 w0 hcmp R a m b d w hm hb h1 h2 h3 h4 h5 h6 h7 h8 h9
      · exact sym_mid P H F enc cf lt hS g cb eg blk off cap d0 w0 hcmp R a m b d w hm hb (fun a' m' b' d' w' h => symMerge_k P H F enc cf lt hS g cb eg blk off cap d0 w0 hcmp R N a' m' b' d' w' (by omega)) h1 h2 h3 h4 h5 h6 h7 h8 h9
end Go.Proofs.Ytnncalhpbfmgoaa.S1
