/-
  slices.symMergeCmpFunc, at elements of k cells: the merge of two runs. slices.stableCmpFunc, at elements of k cells: a stable sort.
-/
import Derived.Test.YtoidgdbgpbcebaaK29
import Derived.Deep.Cut
namespace Go.Proofs.Ytoidgdbgpbcebaa.S
open Go Go.Shelf Go.RowKit Go.Lib Go.Sort Go.Proofs
set_option linter.unusedVariables false

/-- What the merge of two runs asks, and what it does. -/
def SymOk (P : Program) (k : Nat) {α : Type} [Inhabited α] (enc : α → List Value) (cf : α → α → Int) (lt : α → α → Bool) (g : Nat) (cb : Array Value) (blk off cap : Nat) (d0 : Array α) (w0 : World) (a m b : Nat) (d : Array α) (w : World) : Prop :=
  d0.size = d.size → SWK enc k w0 blk off d w → a < m → m < b → b ≤ d.size → d.size < 4611686018427387904 → SortedIn lt a m d → SortedIn lt m b d → (∀ i j, a ≤ i → i < m → m ≤ j → j < b → ltOf cf d[j]! d[i]! = lt d[j]! d[i]!) →
    Calls P 102 #[.slice (some ⟨blk, off, none⟩) d.size cap, .int .i64 a, .int .i64 m, .int .i64 b, .func (.func g) #[] cb] w fun e w' => e = .returned (.tuple #[]) ∧ ∃ d', SWK enc k w0 blk off d' w' ∧ PermIn a b d d' ∧ SortedIn lt a b d' 
set_option maxHeartbeats 40000000 in
set_option maxRecDepth 1000000 in
theorem sym_mid (P : Program) (k : Nat) (H : StP P k) (F : StF P) {α : Type} [Inhabited α] (enc : α → List Value) (cf : α → α → Int) (lt : α → α → Bool) (hS : SWO lt) (g : Nat) (cb : Array Value) (eg : ∀ args w, (callFunc g args).run P w = .ok (.enter g args) w) (blk off cap : Nat) (d0 : Array α) (w0 : World) (hcmp : CmpLays P g cb enc k cf blk off d0.size w0) (R : RowK enc k w0 blk off d0) (a m b : Nat) (d : Array α) (w : World) (hm : m ≠ a + 1) (hbm : b ≠ m + 1) (ih : ∀ a' m' b' (d' : Array α) (w' : World), b' - a' < b - a → SymOk P k enc cf lt g cb blk off cap d0 w0 a' m' b' d' w')
    (hs : d0.size = d.size) (S : SWK enc k w0 blk off d w) (ham : a < m) (hmb : m < b) (hb : b ≤ d.size) (hsz : d.size < 4611686018427387904) (hL : SortedIn lt a m d) (hR : SortedIn lt m b d) (hX : ∀ i j, a ≤ i → i < m → m ≤ j → j < b → ltOf cf d[j]! d[i]! = lt d[j]! d[i]!) :
    Calls P 102 #[.slice (some ⟨blk, off, none⟩) d.size cap, .int .i64 a, .int .i64 m, .int .i64 b, .func (.func g) #[] cb] w fun e w' => e = .returned (.tuple #[]) ∧ ∃ d', SWK enc k w0 blk off d' w' ∧ PermIn a b d d' ∧ SortedIn lt a b d' := by
  have mixed := H.mixed; have t3 := H.t3; have a3 := H.a3; have z3 := H.z3; have v3 := H.v3; have t4 := H.t4; have a4 := H.a4; have z4 := H.z4; have v4 := H.v4; have t22 := H.t22; have a22 := H.a22; have z22 := H.z22; have v22 := H.v22; have t25 := H.t25; have a25 := H.a25; have z25 := H.z25; have v25 := H.v25; have tU := H.tU; have aU := H.aU; have zU := H.zU; have vU := H.vU; have aE := H.aE; have zE := H.zE
  have FG := F.fSym
  have eR := F.eRot
  have eS := F.eSym
  have HC : Aside _ := hcmp
  have S0 : Aside (SWK enc k w0 blk off d w) := S
  have HL : Hid _ := hL
  have HR : Hid _ := hR
  have HX : Hid _ := hX
  have IH : Hid _ := ih
  clear S hcmp hL hR hX ih
  have hmz : ¬ (m : Int) - (a : Int) = 1 := by omega
  have hmw : IntKind.i64.wrap ((m : Int) - (a : Int)) = (m : Int) - (a : Int) := by rw [IntKind.wrap_i64]; omega
  have hmzb : ((m : Int) - (a : Int) == 1) = false := by simpa using hmz
  have hbz : ¬ (b : Int) - (m : Int) = 1 := by omega
  have hbzb : ((b : Int) - (m : Int) == 1) = false := by simpa using hbz
  obtain ⟨mid, hmid⟩ : ∃ mid, mid = (a + b) / 2 := ⟨_, rfl⟩
  have hmidz : ((a : Int) + (b : Int)) / 2 = (mid : Int) := by omega
  have hm1 : a + b ≤ 2 * mid + 1 := by omega
  have hm2 : 2 * mid ≤ a + b := by omega
  clear hmid
  go_enter FG, Try.ntmps102
  go_upto_if 140 with fail
  go_cut [20, 21] from 25 (fun v20 v21 wc => ∃ s0 r0 : Nat, v20 = .int .i64 s0 ∧ v21 = .int .i64 r0 ∧ a ≤ s0 ∧ s0 ≤ r0 ∧ r0 ≤ m ∧ r0 ≤ mid ∧ mid + m ≤ b + s0 ∧ (s0 = a ∨ s0 + b = mid + m) ∧ (r0 = m ∨ r0 = mid) ∧ Aside (SWK enc k w0 blk off d wc))
  case first =>
    by_cases hmm : mid < m
    · have hmmz : (m : Int) > (mid : Int) := by omega
      have hmmz' : (mid : Int) < (m : Int) := by omega
      go_wp2
      go_meet
      case rel => exact ⟨mid + m - b, mid, by congr 1; omega, rfl, by omega, by omega, by omega, by omega, by omega, by omega, by omega, S0⟩
    · have hmmz : ¬ (m : Int) > (mid : Int) := by omega
      have hmmz' : ¬ (mid : Int) < (m : Int) := by omega
      go_wp2
      go_meet
      case rel => exact ⟨a, m, rfl, rfl, by omega, by omega, by omega, by omega, by omega, by omega, by omega, S0⟩
  case rest =>
    clear S0 hmidz
    obtain ⟨s0, r0, rfl, rfl, f1, hsr, hrm, hrmid, hnb, hsA, hrA, S0⟩ := hcut
    have HSA : Hid _ := hsA
    have HRA : Hid _ := hrA
    clear hsA hrA
    go_wp2
    go_loopg [20, 21] (r0 - s0) (fun kx vs vr wr => ∃ (s r : Nat), vs = .int .i64 s ∧ vr = .int .i64 r ∧ s0 ≤ s ∧ s ≤ r ∧ r ≤ r0 ∧ r - s ≤ kx ∧ Aside (SWK enc k w0 blk off d wr) ∧ Hid (s = s0 ∨ lt d[mid + m - s]! d[s - 1]! = false) ∧ Hid (r = r0 ∨ lt d[mid + m - 1 - r]! d[r]! = true))
    case atStart => exact ⟨s0, r0, rfl, rfl, Nat.le_refl _, hsr, Nat.le_refl _, Nat.le_refl _, S0, .inl rfl, .inl rfl⟩
    case round =>
      clear S0
      obtain ⟨s, r, rfl, rfl, hs0s, hsr2, hrr0, hkx, S1, HI, HJ⟩ := hrel
      by_cases hlt : s < r
      · have hltz : (s : Int) < (r : Int) := by omega
        obtain ⟨c, hh⟩ : ∃ c, c = (s + r) / 2 := ⟨_, rfl⟩
        have hh1 : s ≤ c := by omega
        have hh2 : c < r := by omega
        have hhz : ((s : Int) + (r : Int)) / 2 = (c : Int) := by omega
        obtain ⟨pc, hpc⟩ : ∃ pc, pc = mid + m - 1 - c := ⟨_, rfl⟩
        have hpz : (mid : Int) + (m : Int) - 1 - (c : Int) = (pc : Int) := by omega
        have hp2 : pc + c + 1 = mid + m := by omega
        have hp3 : mid + m - (c + 1) = pc := by omega
        have HP4 : Hid (mid + m - 1 - c = pc) := hpc.symm
        have HP3 : Hid _ := hp3
        have HP2 : Hid _ := hp2
        have hpm : m ≤ pc := by omega
        have hpb : pc < b := by omega
        clear hh hpc hp2 hp3
        go_wp2_with fail
        try simp only [hhz]
        clear hhz
        cases hl : ltOf cf d[pc]! d[c]! with
        | true =>
          as_aux_lemma =>
            have eaxi : ((pc : Int)).toNat = pc := by omega
            have paxi : (0 : Int) ≤ (pc : Int) := by omega
            have baxi : (pc : Int) < (d.size : Int) := by omega
            have raxi : IntKind.i64.wrap ((pc : Int)) = (pc : Int) := by rw [IntKind.wrap_i64]; omega
            have eaxj : ((c : Int)).toNat = c := by omega
            have paxj : (0 : Int) ≤ (c : Int) := by omega
            have baxj : (c : Int) < (d.size : Int) := by omega
            have raxj : IntKind.i64.wrap ((c : Int)) = (c : Int) := by rw [IntKind.wrap_i64]; omega
            obtain ⟨xx, hxx⟩ : ∃ x, x = d[pc]! := ⟨_, rfl⟩
            obtain ⟨yx, hyx⟩ : ∃ x, x = d[c]! := ⟨_, rfl⟩
            have lxa := S1.out.ld R (by omega) P (pc) (by omega)
            have lxb := S1.out.ld R (by omega) P (c) (by omega)
            rw [← hxx] at lxa
            rw [← hyx] at lxb
            have hcx := S1.out.cmp HC.out (by omega) xx yx
            have hvx : cf xx yx < 0 := by rw [hxx, hyx]; exact of_decide_eq_true hl
            have hdx : decide (cf xx yx < 0) = true := decide_eq_true hvx
            have nax : (enc xx).length = k := R.hk _
            have nbx : (enc yx).length = k := R.hk _
            clear hxx hyx
            go_wp2_with fail
            go_quiet_grown (first | (go_at_fn g; refine Calls.grown_of (hcx _ _)))
            have S2 : Aside (SWK enc k w0 blk off d (grow (wr.drewN nq) osq)) := S1.out.grown nq osq
            clear lxa lxb hcx S1
            generalize grow (wr.drewN nq) osq = w2 at S2 ⊢
            clear nq osq eaxi paxi baxi raxi eaxj paxj baxj raxj
            go_wp2
            go_roundg (c - s)
            case measure => omega
            case rel => exact ⟨s, c, rfl, rfl, hs0s, by omega, by omega, Nat.le_refl _, S2, HI, .inr (by rw [HP4.out, ← HX.out c pc (by omega) (by omega) (by omega) (by omega)]; exact hl)⟩
        | false =>
          as_aux_lemma =>
            have eaxi : ((pc : Int)).toNat = pc := by omega
            have paxi : (0 : Int) ≤ (pc : Int) := by omega
            have baxi : (pc : Int) < (d.size : Int) := by omega
            have raxi : IntKind.i64.wrap ((pc : Int)) = (pc : Int) := by rw [IntKind.wrap_i64]; omega
            have eaxj : ((c : Int)).toNat = c := by omega
            have paxj : (0 : Int) ≤ (c : Int) := by omega
            have baxj : (c : Int) < (d.size : Int) := by omega
            have raxj : IntKind.i64.wrap ((c : Int)) = (c : Int) := by rw [IntKind.wrap_i64]; omega
            obtain ⟨xx, hxx⟩ : ∃ x, x = d[pc]! := ⟨_, rfl⟩
            obtain ⟨yx, hyx⟩ : ∃ x, x = d[c]! := ⟨_, rfl⟩
            have lxa := S1.out.ld R (by omega) P (pc) (by omega)
            have lxb := S1.out.ld R (by omega) P (c) (by omega)
            rw [← hxx] at lxa
            rw [← hyx] at lxb
            have hcx := S1.out.cmp HC.out (by omega) xx yx
            have hvx : ¬ cf xx yx < 0 := by rw [hxx, hyx]; exact of_decide_eq_false hl
            have hdx : decide (cf xx yx < 0) = false := decide_eq_false hvx
            have nax : (enc xx).length = k := R.hk _
            have nbx : (enc yx).length = k := R.hk _
            clear hxx hyx
            go_wp2_with fail
            go_quiet_grown (first | (go_at_fn g; refine Calls.grown_of (hcx _ _)))
            have S2 : Aside (SWK enc k w0 blk off d (grow (wr.drewN nq) osq)) := S1.out.grown nq osq
            clear lxa lxb hcx S1
            generalize grow (wr.drewN nq) osq = w2 at S2 ⊢
            clear nq osq eaxi paxi baxi raxi eaxj paxj baxj raxj
            go_wp2
            go_roundg (r - (c + 1))
            case measure => omega
            case rel => exact ⟨c + 1, r, by go_num, rfl, by omega, by omega, hrr0, Nat.le_refl _, S2, .inr (by rw [Nat.add_sub_cancel, HP3.out, ← HX.out c pc (by omega) (by omega) (by omega) (by omega)]; exact hl), HJ⟩
      · have hltz : ¬ (s : Int) < (r : Int) := by omega
        obtain rfl : s = r := by omega
        obtain ⟨q, hq⟩ : ∃ q, q = mid + m - s := ⟨_, rfl⟩
        have hqz : (mid : Int) + (m : Int) - (s : Int) = (q : Int) := by omega
        have hmq : m ≤ q := by omega
        have hqb : q ≤ b := by omega
        have PA : Hid (Parts lt a s m q b d) := by
          refine parts_of hS (by omega) (by omega) hmq hqb HL.out HR.out ?_ ?_
          · rcases HI.out with e | e
            · rcases HSA.out with e2 | e2
              · exact .inl (by omega)
              · exact .inr (.inl (by omega))
            · rw [← hq] at e
              exact .inr (.inr e)
          · rcases HJ.out with e | e
            · rcases HRA.out with e2 | e2
              · exact .inl (by omega)
              · exact .inr (.inl (by omega))
            · rw [show mid + m - 1 - s = q - 1 by omega] at e
              exact .inr (.inr e)
        have HQ : Hid (mid + m = q + s) := by rw [Hid]; omega
        have hsmid : s ≤ mid := by omega
        have hsm : s ≤ m := by omega
        have has : a ≤ s := by omega
        clear hq HI HJ HSA HRA
        go_upto_region 39 with fail
        go_cut [185] from 25 (fun v wx => v = .bool (decide (s < m ∧ m < q)) ∧ wx = wr)
        case first =>
          as_aux_lemma =>
            by_cases gx : s < m
            · have gx1 : (s : Int) < (m : Int) := by omega
              by_cases gy : m < q
              · have gy1 : (m : Int) < (q : Int) := by omega
                go_wp2
                go_meet
                case rel => exact ⟨by rw [decide_eq_true ⟨gx, gy⟩], rfl⟩
              · have gy1 : ¬ (m : Int) < (q : Int) := by omega
                go_wp2
                go_meet
                case rel => exact ⟨by rw [decide_eq_false (fun h => gy h.2)], rfl⟩
            · have gx1 : ¬ (s : Int) < (m : Int) := by omega
              go_wp2
              go_meet
              case rel => exact ⟨by rw [decide_eq_false (fun h => gx h.1)], rfl⟩
        case rest =>
          obtain ⟨rfl, rfl⟩ := hcut
          go_upto_if 185 with fail
          go_cut [] from 25 (fun wd => ∃ d1 : Array α, SWK enc k w0 blk off d1 wd ∧ Via (rotI s m q) d d1 ∧ Perms a b d d1)
          case first =>
            by_cases hyes : s < m ∧ m < q
            · have hdec : decide (s < m ∧ m < q) = true := decide_eq_true hyes
              rw [hdec]
              have hc1 := rotate_k P k H F enc g cb blk off cap s m q d0 d w0 wc R hs S1.out hyes.1 hyes.2 (by omega) hsz
              go_wp2_with (go_at_fn 114; refine hc1.mono ?_; rintro e w1 ⟨rfl, d1, s1, v1, p1⟩)
              go_meet
              case rel => exact ⟨d1, s1, v1, p1.wide (by omega) (by omega)⟩
            · have hdec : decide (s < m ∧ m < q) = false := decide_eq_false hyes
              rw [hdec]
              go_wp2
              go_meet
              case rel =>
                refine ⟨d, S1.out, (Via.id d).congr fun t => ?_, Perms.refl _ _ _⟩
                rcases Nat.lt_or_ge s m with e | e
                · rw [show q = m by omega, rotI_right]
                · rw [show s = m by omega, rotI_left]
          case rest =>
            clear S1
            obtain ⟨d1, s1, v1, p1⟩ := hcut
            have S1 : Aside (SWK enc k w0 blk off d1 wc) := s1
            have PM1 : Hid (Perms a b d d1) := p1
            have hds1 : d1.size = d.size := v1.size
            have emid : s + (q - m) = mid := by have := HQ.out; omega
            have PAR : Hid (∀ x y, a ≤ x → x < mid → mid ≤ y → y < b → lt d1[y]! d1[x]! = false) := by
              have := rot_parts (by omega) (by omega) (by omega) (by omega) PA.out v1
              rw [emid] at this
              exact this
            have hru := rot_runs (by omega) (by omega) (by omega) (by omega) HL.out HR.out v1
            have hcr := rot_cross (l1 := ltOf cf) (by omega) (by omega) (by omega) (by omega) v1 HX.out
            rw [emid] at hru hcr
            have RUNA : Hid (SortedIn lt a s d1) := hru.1
            have RUNB : Hid (SortedIn lt s mid d1) := hru.2.1
            have RUNC : Hid (SortedIn lt mid q d1) := hru.2.2.1
            have RUND : Hid (SortedIn lt q b d1) := hru.2.2.2
            have CRSL : Hid (∀ i j, a ≤ i → i < s → s ≤ j → j < mid → ltOf cf d1[j]! d1[i]! = lt d1[j]! d1[i]!) := hcr.1
            have CRSR : Hid (∀ i j, mid ≤ i → i < q → q ≤ j → j < b → ltOf cf d1[j]! d1[i]! = lt d1[j]! d1[i]!) := hcr.2
            have hmidq : mid ≤ q := by omega
            clear hru hcr emid s1 p1 v1 hqz
            go_upto_region 41 with fail
            go_cut [199] from 25 (fun v wx => v = .bool (decide (a < s ∧ s < mid)) ∧ wx = wc)
            case first =>
              as_aux_lemma =>
                by_cases gx : a < s
                · have gx1 : (a : Int) < (s : Int) := by omega
                  by_cases gy : s < mid
                  · have gy1 : (s : Int) < (mid : Int) := by omega
                    go_wp2
                    go_meet
                    case rel => exact ⟨by rw [decide_eq_true ⟨gx, gy⟩], rfl⟩
                  · have gy1 : ¬ (s : Int) < (mid : Int) := by omega
                    go_wp2
                    go_meet
                    case rel => exact ⟨by rw [decide_eq_false (fun h => gy h.2)], rfl⟩
                · have gx1 : ¬ (a : Int) < (s : Int) := by omega
                  go_wp2
                  go_meet
                  case rel => exact ⟨by rw [decide_eq_false (fun h => gx h.1)], rfl⟩
            case rest =>
              obtain ⟨rfl, rfl⟩ := hcut
              go_upto_if 199 with fail
              go_cut [] from 25 (fun wd => ∃ d2 : Array α, SWK enc k w0 blk off d2 wd ∧ PermIn a mid d1 d2 ∧ SortedIn lt a mid d2)
              case first =>
                by_cases hyes : a < s ∧ s < mid
                · have hdec : decide (a < s ∧ s < mid) = true := decide_eq_true hyes
                  rw [hdec]
                  have hc2 := IH.out a s mid d1 wc (by omega) (by omega) S1.out hyes.1 hyes.2 (by omega) (by omega) RUNA.out RUNB.out CRSL.out
                  rw [hds1] at hc2
                  go_wp2_with (go_at_fn 102; refine hc2.mono ?_; rintro e w2 ⟨rfl, d2, s2, p2, o2⟩)
                  go_meet
                  case rel => exact ⟨d2, s2, p2, o2⟩
                · have hdec : decide (a < s ∧ s < mid) = false := decide_eq_false hyes
                  rw [hdec]
                  go_wp2
                  go_meet
                  case rel => exact ⟨d1, S1.out, permIn_refl _ _ _, one_side hyes (by omega) (by omega) RUNA.out RUNB.out⟩
              case rest =>
                clear S1
                obtain ⟨d2, s2, p2, o2⟩ := hcut
                have S2 : Aside (SWK enc k w0 blk off d2 wc) := s2
                have PM2 : Hid (PermIn a mid d1 d2) := p2
                have OR2 : Hid (SortedIn lt a mid d2) := o2
                have RUN3 : Hid (SortedIn lt mid q d2) := sorted_else p2 (Nat.le_refl _) RUNC.out
                have RUN4 : Hid (SortedIn lt q b d2) := sorted_else p2 (by omega) RUND.out
                have CRS2 : Hid (∀ i j, mid ≤ i → i < q → q ≤ j → j < b → ltOf cf d2[j]! d2[i]! = lt d2[j]! d2[i]!) := cross_else p2 CRSR.out (by omega)
                have hds2 : d2.size = d.size := p2.1.trans hds1
                clear s2 p2 o2
                go_upto_region 43 with fail
                go_cut [213] from 25 (fun v wx => v = .bool (decide (mid < q ∧ q < b)) ∧ wx = wc)
                case first =>
                  as_aux_lemma =>
                    by_cases gx : mid < q
                    · have gx1 : (mid : Int) < (q : Int) := by omega
                      by_cases gy : q < b
                      · have gy1 : (q : Int) < (b : Int) := by omega
                        go_wp2
                        go_meet
                        case rel => exact ⟨by rw [decide_eq_true ⟨gx, gy⟩], rfl⟩
                      · have gy1 : ¬ (q : Int) < (b : Int) := by omega
                        go_wp2
                        go_meet
                        case rel => exact ⟨by rw [decide_eq_false (fun h => gy h.2)], rfl⟩
                    · have gx1 : ¬ (mid : Int) < (q : Int) := by omega
                      go_wp2
                      go_meet
                      case rel => exact ⟨by rw [decide_eq_false (fun h => gx h.1)], rfl⟩
                case rest =>
                  obtain ⟨rfl, rfl⟩ := hcut
                  go_upto_if 213 with fail
                  as_aux_lemma =>
                    by_cases hyes : mid < q ∧ q < b
                    · have hdec : decide (mid < q ∧ q < b) = true := decide_eq_true hyes
                      rw [hdec]
                      have hc3 := IH.out mid q b d2 wc (by omega) (by omega) S2.out hyes.1 hyes.2 (by omega) (by omega) RUN3.out RUN4.out CRS2.out
                      rw [hds2] at hc3
                      go_wp2_with (go_at_fn 102; refine hc3.mono ?_; rintro e w3 ⟨rfl, d3, s3, p3, o3⟩)
                      go_end0
                      have hh := halves (by omega) (by omega) (by omega) PAR.out PM2.out OR2.out p3 o3
                      exact ⟨rfl, d3, s3, permIn_trans _ _ _ _ _ (PM1.out a b (by omega) (by omega) hb) hh.1, hh.2⟩
                    · have hdec : decide (mid < q ∧ q < b) = false := decide_eq_false hyes
                      rw [hdec]
                      go_wp2
                      go_end0
                      have hh := halves (by omega) (by omega) (by omega) PAR.out PM2.out OR2.out (permIn_refl _ _ _) (one_side hyes (by omega) (by omega) RUN3.out RUN4.out)
                      exact ⟨rfl, d2, S2.out, permIn_trans _ _ _ _ _ (PM1.out a b (by omega) (by omega) hb) hh.1, hh.2⟩
theorem symMerge_k (P : Program) (k : Nat) (H : StP P k) (F : StF P) {α : Type} [Inhabited α] (enc : α → List Value) (cf : α → α → Int) (lt : α → α → Bool) (hS : SWO lt) (g : Nat) (cb : Array Value) (eg : ∀ args w, (callFunc g args).run P w = .ok (.enter g args) w) (blk off cap : Nat) (d0 : Array α) (w0 : World) (hcmp : CmpLays P g cb enc k cf blk off d0.size w0) (R : RowK enc k w0 blk off d0) : ∀ (N a m b : Nat) (d : Array α) (w : World), b - a ≤ N → SymOk P k enc cf lt g cb blk off cap d0 w0 a m b d w
  | 0, a, m, b, d, w, hN => fun _ _ h1 h2 => by omega
  | N + 1, a, m, b, d, w, hN => by
    intro h1 h2 h3 h4 h5 h6 h7 h8 h9
    by_cases hm : m = a + 1
    · exact sym_left P k H F enc cf lt hS g cb eg blk off cap d0 w0 hcmp R a m b d w hm h1 h2 h3 h4 h5 h6 h7 h8 h9
    · by_cases hb : b = m + 1
      · exact sym_right P k H F enc cf lt hS g cb eg blk off cap d0 w0 hcmp R a m b d w hm hb h1 h2 h3 h4 h5 h6 h7 h8 h9
      · exact sym_mid P k H F enc cf lt hS g cb eg blk off cap d0 w0 hcmp R a m b d w hm hb (fun a' m' b' d' w' h => symMerge_k P k H F enc cf lt hS g cb eg blk off cap d0 w0 hcmp R N a' m' b' d' w' (by omega)) h1 h2 h3 h4 h5 h6 h7 h8 h9
end Go.Proofs.Ytoidgdbgpbcebaa.S
namespace Go.Proofs.Ytoidgdbgpbcebaa.S
open Go Go.Shelf Go.RowKit Go.Lib Go.Sort Go.Proofs
set_option linter.unusedVariables false

set_option maxHeartbeats 16000000 in
set_option maxRecDepth 1000000 in
theorem stable_k (P : Program) (k : Nat) (H : StP P k) (F : StF P) {α : Type} [Inhabited α] (enc : α → List Value) (cf : α → α → Int) (lt : α → α → Bool) (hS : SWO lt) (g : Nat) (cb : Array Value) (eg : ∀ args w, (callFunc g args).run P w = .ok (.enter g args) w) (blk off cap : Nat) (d0 : Array α) (w0 : World) (hcmp : CmpLays P g cb enc k cf blk off d0.size w0) (R : RowK enc k w0 blk off d0) (idx : α → Nat) (hg : ∀ x y, idx x < idx y → ltOf cf y x = lt y x) (hidx : ∀ t, t < d0.size → idx d0[t]! = t) (w : World) (S : SWK enc k w0 blk off d0 w) (hsz : d0.size < 1152921504606846976) :
    Calls P 78 #[.slice (some ⟨blk, off, none⟩) d0.size cap, .int .i64 d0.size, .func (.func g) #[] cb] w fun e w' => e = .returned (.tuple #[]) ∧ ∃ d', SWK enc k w0 blk off d' w' ∧ PermIn 0 d0.size d0 d' ∧ SortedIn lt 0 d0.size d' := by
  have mixed := H.mixed; have t3 := H.t3; have a3 := H.a3; have z3 := H.z3; have v3 := H.v3; have t4 := H.t4; have a4 := H.a4; have z4 := H.z4; have v4 := H.v4; have t22 := H.t22; have a22 := H.a22; have z22 := H.z22; have v22 := H.v22; have t25 := H.t25; have a25 := H.a25; have z25 := H.z25; have v25 := H.v25; have tU := H.tU; have aU := H.aU; have zU := H.zU; have vU := H.vU; have aE := H.aE; have zE := H.zE
  have FG := F.fSta
  have eI := F.eIns
  have eS := F.eSym
  have HC : Aside _ := hcmp
  have S0 : Aside (SWK enc k w0 blk off d0 w) := S
  have HIX : Hid _ := hidx
  have HG : Hid _ := hg
  clear S hcmp hidx hg
  obtain ⟨n, hn⟩ : ∃ n, n = d0.size := ⟨_, rfl⟩
  rw [← hn] at hsz
  have HN : Hid _ := hn
  rw [← hn]
  clear hn
  go_enter FG, Try.ntmps78
  go_wp2
  go_loopg [7, 8] n (fun kx va vb wr => ∃ (a b : Nat) (dk : Array α), va = .int .i64 a ∧ vb = .int .i64 b ∧ Hid (b = a + 20) ∧ Hid (20 ∣ a) ∧ a ≤ n ∧ n - a ≤ kx ∧ dk.size = n ∧ Aside (SWK enc k w0 blk off dk wr) ∧ Hid (Blocks lt idx n 20 a d0 dk))
  case atStart => exact ⟨0, 20, d0, rfl, rfl, rfl, Nat.dvd_zero _, Nat.zero_le _, by omega, HN.out.symm, S0, Blocks.start (fun t ht => HIX.out t (by rw [← HN.out]; exact ht))⟩
  case round =>
    clear S0
    obtain ⟨a, b, dk, rfl, rfl, HB, HD, han, hkx, hds, S1, BL⟩ := hrel
    have hba := HB.out
    by_cases hle : b ≤ n
    · have hlez : (b : Int) ≤ (n : Int) := by omega
      have hc := ins_k P k H F enc cf g cb eg blk off cap a b d0 dk w0 wr HC.out R (by rw [hds]; exact HN.out.symm) S1.out (by omega) (by omega) (by omega)
      rw [hds] at hc
      have BL2 : Hid _ := BL.out.ins (l1 := ltOf cf) hS HG.out (b := b) (by omega) (by omega) HD.out (by omega) (by omega) (by omega) (.inl (by rw [hba]; exact Nat.dvd_add HD.out (Nat.dvd_refl _)))
      clear hba
      go_wp2_with (go_at_fn 101; refine hc.mono ?_; rintro e w1 ⟨rfl, s1⟩)
      have hba := HB.out
      go_roundg (n - b)
      case measure => omega
      case rel => exact ⟨b, b + 20, _, rfl, by go_num, rfl, by rw [hba]; exact Nat.dvd_add HD.out (Nat.dvd_refl _), by omega, Nat.le_refl _, by rw [← hds]; exact BL2.out.perm.1.trans (HN.out.symm.trans hds.symm), s1, BL2.out⟩
    · have hlez : ¬ (b : Int) ≤ (n : Int) := by omega
      have hc := ins_k P k H F enc cf g cb eg blk off cap a n d0 dk w0 wr HC.out R (by rw [hds]; exact HN.out.symm) S1.out (by omega) (by omega) (by omega)
      rw [hds] at hc
      have BL2 : Hid _ := (BL.out.ins (l1 := ltOf cf) hS HG.out (b := n) (by omega) (by omega) HD.out (by omega) (by omega) (by omega) (.inr rfl)).level
      clear hba
      go_wp2_with (go_at_fn 101; refine hc.mono ?_; rintro e w1 ⟨rfl, s1⟩)
      have S2 : Aside _ := s1
      have hds2 : (insertionSort (ltOf cf) dk a n).size = n := BL2.out.perm.1.trans HN.out.symm
      generalize insertionSort (ltOf cf) dk a n = d1 at BL2 S2 hds2
      clear s1 hc S1 BL HB HD
      go_loopg [6] n (fun kx v6 wr => ∃ (s : Nat) (dk : Array α), v6 = .int .i64 s ∧ 0 < s ∧ n - s ≤ kx ∧ dk.size = n ∧ Aside (SWK enc k w0 blk off dk wr) ∧ Hid (Level lt idx n s d0 dk))
      case atStart => exact ⟨20, d1, rfl, by omega, by omega, hds2, S2, BL2⟩
      case round =>
        clear S2 BL2 hds2
        obtain ⟨s, dk, rfl, hs0, hkx2, hds2, S1, LV⟩ := hrel
        by_cases hsn : s < n
        · have hsnz : (s : Int) < (n : Int) := by omega
          go_wp2
          go_loopg [7, 8] n (fun kx va vb wr => ∃ (a b : Nat) (dj : Array α), va = .int .i64 a ∧ vb = .int .i64 b ∧ Hid (b = a + 2 * s) ∧ Hid (2 * s ∣ a) ∧ a ≤ n ∧ n - a ≤ kx ∧ dj.size = n ∧ Aside (SWK enc k w0 blk off dj wr) ∧ Hid (Midway lt idx n s a d0 dj))
          case atStart => exact ⟨0, 2 * s, dk, rfl, by first | rfl | go_num | (congr 1; omega), (Nat.zero_add _).symm, Nat.dvd_zero _, Nat.zero_le _, by omega, hds2, S1, LV.out.midway⟩
          case round =>
            clear S1 LV
            obtain ⟨a2, b2, dj, rfl, rfl, HB2, HD2, han2, hkx3, hdj, S1, MW⟩ := hrel
            have hba2 := HB2.out
            by_cases hle2 : b2 ≤ n
            · have hlez2 : (b2 : Int) ≤ (n : Int) := by omega
              obtain ⟨pr1, pr2, pr3⟩ := MW.out.pre (b := b2) hs0 HD2.out (by omega) hle2 (by omega)
              have hc2 := symMerge_k P k H F enc cf lt hS g cb eg blk off cap d0 w0 HC.out R (b2 - a2) a2 (a2 + s) b2 dj wr (Nat.le_refl _) (by rw [hdj]; exact HN.out.symm) S1.out (by omega) (by omega) (by omega) (by omega) pr1 pr2 (fun i j i1 i2 i3 i4 => HG.out _ _ (pr3 i j i1 i2 i3 i4))
              have ec : ((a2 + s : Nat) : Int) = (a2 : Int) + (s : Int) := by omega
              rw [hdj, ec] at hc2
              clear hba2 pr1 pr2 pr3 ec
              go_wp2_with (go_at_fn 102; refine hc2.mono ?_; rintro e w1 ⟨rfl, d2, s2, p2, o2⟩)
              have hba2 := HB2.out
              rw [hba2] at p2 o2
              go_roundg (n - b2)
              case measure => omega
              case rel => exact ⟨b2, b2 + 2 * s, d2, rfl, by first | rfl | go_num | (congr 1; omega), rfl, by rw [hba2]; exact Nat.dvd_add HD2.out (Nat.dvd_refl _), hle2, Nat.le_refl _, p2.1.trans hdj, s2, by rw [hba2]; exact MW.out.step (by omega) HD2.out (by omega) p2 o2⟩
            · have hlez2 : ¬ (b2 : Int) ≤ (n : Int) := by omega
              by_cases hmn : a2 + s < n
              · have hmnz : (a2 : Int) + (s : Int) < (n : Int) := by omega
                obtain ⟨pr1, pr2, pr3⟩ := MW.out.pre (b := n) hs0 HD2.out (by omega) (Nat.le_refl _) (by omega)
                have hc2 := symMerge_k P k H F enc cf lt hS g cb eg blk off cap d0 w0 HC.out R (n - a2) a2 (a2 + s) n dj wr (Nat.le_refl _) (by rw [hdj]; exact HN.out.symm) S1.out (by omega) (by omega) (by omega) (by omega) pr1 pr2 (fun i j i1 i2 i3 i4 => HG.out _ _ (pr3 i j i1 i2 i3 i4))
                have ec : ((a2 + s : Nat) : Int) = (a2 : Int) + (s : Int) := by omega
                rw [hdj, ec] at hc2
                clear hba2 pr1 pr2 pr3 ec
                go_wp2_with (go_at_fn 102; refine hc2.mono ?_; rintro e w1 ⟨rfl, d2, s2, p2, o2⟩)
                have hba2 := HB2.out
                go_roundg (n - 2 * s)
                case measure => omega
                case rel => exact ⟨2 * s, d2, by first | rfl | go_num | (congr 1; omega), by omega, Nat.le_refl _, p2.1.trans hdj, s2, MW.out.last (by omega) HD2.out han2 (by omega) p2 o2⟩
              · have hmnz : ¬ (a2 : Int) + (s : Int) < (n : Int) := by omega
                clear hba2
                go_wp2
                have hba2 := HB2.out
                go_roundg (n - 2 * s)
                case measure => omega
                case rel => exact ⟨2 * s, dj, by first | rfl | go_num | (congr 1; omega), by omega, Nat.le_refl _, hdj, S1, MW.out.none (by omega) hs0 HD2.out han2 (by omega)⟩
        · have hsnz : ¬ (s : Int) < (n : Int) := by omega
          go_wp2
          go_end0
          exact ⟨rfl, dk, S1.out, LV.out.end_ (by omega)⟩
end Go.Proofs.Ytoidgdbgpbcebaa.S
