/-
  slices.symMergeCmpFunc, at elements of one cell: a run of one entry.
-/
import Derived.Test.YtnncalhpbfmgoaaSoRot
namespace Go.Proofs.Ytnncalhpbfmgoaa.S1
open Go Go.Shelf Go.RowKit Go.Lib Go.Sort Go.Proofs Go.Proofs.Ytnncalhpbfmgoaa.S
set_option linter.unusedVariables false

set_option maxHeartbeats 8000000 in
set_option maxRecDepth 1000000 in
theorem sym_left (P : Program) (H : StP P) (F : StF P) {α : Type} [Inhabited α] (enc : α → Value) (cf : α → α → Int) (lt : α → α → Bool) (hS : SWO lt) (g : Nat) (cb : Array Value) (eg : ∀ args w, (callFunc g args).run P w = .ok (.enter g args) w) (blk off cap : Nat) (d0 : Array α) (w0 : World) (hcmp : CmpLays1 P g cb enc cf blk off d0.size w0) (R : Row1 enc w0 blk off d0) (a m b : Nat) (d : Array α) (w : World) (hm : m = a + 1)
    (hs : d0.size = d.size) (S : SW enc w0 blk off d w) (ham : a < m) (hmb : m < b) (hb : b ≤ d.size) (hsz : d.size < 4611686018427387904) (hL : SortedIn lt a m d) (hR : SortedIn lt m b d) (hX : ∀ i j, a ≤ i → i < m → m ≤ j → j < b → ltOf cf d[j]! d[i]! = lt d[j]! d[i]!) :
    Calls P 68 #[.slice (some ⟨blk, off, none⟩) d.size cap, .int .i64 a, .int .i64 m, .int .i64 b, .func (.func g) #[] cb] w fun e w' => e = .returned (.tuple #[]) ∧ ∃ d', SW enc w0 blk off d' w' ∧ PermIn a b d d' ∧ SortedIn lt a b d' := by
  have mixed := H.mixed; have t3 := H.t3; have a3 := H.a3; have z3 := H.z3; have v3 := H.v3; have t4 := H.t4; have a4 := H.a4; have z4 := H.z4; have v4 := H.v4; have t22 := H.t22; have a22 := H.a22; have z22 := H.z22; have v22 := H.v22; have t25 := H.t25; have a25 := H.a25; have z25 := H.z25; have v25 := H.v25; have tU := H.tU; have aU := H.aU; have zU := H.zU; have vU := H.vU; have u22 := run_underlying H.t22; have hcl0 := R.hO.cells; have hst := R.hO.store P
  simp only [Value.cells] at hcl0
  have FG := F.fSym
  have HC : Aside _ := hcmp
  have S0 : Aside (SW enc w0 blk off d w) := S
  have HL : Hid _ := hL
  have HR : Hid _ := hR
  have HX : Hid _ := hX
  clear S hcmp hL hR hX
  have hmz : (m : Int) - (a : Int) = 1 := by omega
  have HM : Hid _ := hm
  clear hm
  go_enter FG, Try.ntmps68
  go_wp2
  go_loopg [10, 11] (b - m) (fun kx vi vj wr => ∃ (i j : Nat), vi = .int .i64 i ∧ vj = .int .i64 j ∧ m ≤ i ∧ i ≤ j ∧ j ≤ b ∧ j - i ≤ kx ∧ Aside (SW enc w0 blk off d wr) ∧ Hid (i = m ∨ lt d[i - 1]! d[a]! = true) ∧ Hid (j = b ∨ lt d[j]! d[a]! = false))
  case atStart => exact ⟨m, b, rfl, rfl, Nat.le_refl _, by omega, Nat.le_refl _, by omega, S0, .inl rfl, .inl rfl⟩
  case round =>
    clear S0
    obtain ⟨i, j, rfl, rfl, hmi, hij, hjb, hkx, S1, HI, HJ⟩ := hrel
    by_cases hlt : i < j
    · have hltz : (i : Int) < (j : Int) := by omega
      obtain ⟨h, hh⟩ : ∃ h, h = (i + j) / 2 := ⟨_, rfl⟩
      have hh1 : i ≤ h := by omega
      have hh2 : h < j := by omega
      have hhz : ((i : Int) + (j : Int)) / 2 = (h : Int) := by omega
      clear hh
      go_wp2_with fail
      try simp only [hhz]
      clear hhz
      cases hl : ltOf cf d[h]! d[a]! with
      | true =>
        obtain ⟨iNx, hiNx⟩ : ∃ zz, zz = h := ⟨_, rfl⟩
        obtain ⟨jNx, hjNx⟩ : ∃ zz, zz = a := ⟨_, rfl⟩
        have eaxi : ((h : Int)).toNat = iNx := by omega
        have paxi : (0 : Int) ≤ (h : Int) := by omega
        have baxi : (h : Int) < (d.size : Int) := by omega
        have raxi : IntKind.i64.wrap ((h : Int)) = (h : Int) := by rw [IntKind.wrap_i64]; omega
        have eaxj : ((a : Int)).toNat = jNx := by omega
        have paxj : (0 : Int) ≤ (a : Int) := by omega
        have baxj : (a : Int) < (d.size : Int) := by omega
        have raxj : IntKind.i64.wrap ((a : Int)) = (a : Int) := by rw [IntKind.wrap_i64]; omega
        obtain ⟨xx, hxx⟩ : ∃ zx, zx = d[h]! := ⟨_, rfl⟩
        obtain ⟨yx, hyx⟩ : ∃ zx, zx = d[a]! := ⟨_, rfl⟩
        have lxa : ∀ (n : Nat) (os : Array Obj), (grow (wr.drewN n) os).cell? ⟨blk, off + iNx, none⟩ = some (enc xx) := by rw [hiNx, hxx]; exact S1.out.cl R (by omega) (h) (by omega)
        have lxb : ∀ (n : Nat) (os : Array Obj), (grow (wr.drewN n) os).cell? ⟨blk, off + jNx, none⟩ = some (enc yx) := by rw [hjNx, hyx]; exact S1.out.cl R (by omega) (a) (by omega)
        have hcx := S1.out.cmp HC.out (by omega) xx yx
        have hvx : cf xx yx < 0 := by rw [hxx, hyx]; exact of_decide_eq_true hl
        have hdx : decide (cf xx yx < 0) = true := decide_eq_true hvx
        clear hxx hyx hiNx hjNx
        go_wp2_with fail
        go_quiet_grown (first | (go_at_fn g; refine Calls.grown_of (hcx _ _)))
        have S2 : Aside (SW enc w0 blk off d (grow (wr.drewN nq) osq)) := S1.out.grown nq osq
        clear lxa lxb hcx S1
        generalize grow (wr.drewN nq) osq = w2 at S2 ⊢
        clear nq osq eaxi paxi baxi raxi eaxj paxj baxj raxj
        go_wp2
        go_roundg (j - (h + 1))
        case measure => omega
        case rel => exact ⟨h + 1, j, by go_num, rfl, by omega, by omega, hjb, Nat.le_refl _, S2, .inr (by rw [Nat.add_sub_cancel, ← HX.out a h (by omega) (by omega) (by omega) (by omega)]; exact hl), HJ⟩
      | false =>
        obtain ⟨iNx, hiNx⟩ : ∃ zz, zz = h := ⟨_, rfl⟩
        obtain ⟨jNx, hjNx⟩ : ∃ zz, zz = a := ⟨_, rfl⟩
        have eaxi : ((h : Int)).toNat = iNx := by omega
        have paxi : (0 : Int) ≤ (h : Int) := by omega
        have baxi : (h : Int) < (d.size : Int) := by omega
        have raxi : IntKind.i64.wrap ((h : Int)) = (h : Int) := by rw [IntKind.wrap_i64]; omega
        have eaxj : ((a : Int)).toNat = jNx := by omega
        have paxj : (0 : Int) ≤ (a : Int) := by omega
        have baxj : (a : Int) < (d.size : Int) := by omega
        have raxj : IntKind.i64.wrap ((a : Int)) = (a : Int) := by rw [IntKind.wrap_i64]; omega
        obtain ⟨xx, hxx⟩ : ∃ zx, zx = d[h]! := ⟨_, rfl⟩
        obtain ⟨yx, hyx⟩ : ∃ zx, zx = d[a]! := ⟨_, rfl⟩
        have lxa : ∀ (n : Nat) (os : Array Obj), (grow (wr.drewN n) os).cell? ⟨blk, off + iNx, none⟩ = some (enc xx) := by rw [hiNx, hxx]; exact S1.out.cl R (by omega) (h) (by omega)
        have lxb : ∀ (n : Nat) (os : Array Obj), (grow (wr.drewN n) os).cell? ⟨blk, off + jNx, none⟩ = some (enc yx) := by rw [hjNx, hyx]; exact S1.out.cl R (by omega) (a) (by omega)
        have hcx := S1.out.cmp HC.out (by omega) xx yx
        have hvx : ¬ cf xx yx < 0 := by rw [hxx, hyx]; exact of_decide_eq_false hl
        have hdx : decide (cf xx yx < 0) = false := decide_eq_false hvx
        clear hxx hyx hiNx hjNx
        go_wp2_with fail
        go_quiet_grown (first | (go_at_fn g; refine Calls.grown_of (hcx _ _)))
        have S2 : Aside (SW enc w0 blk off d (grow (wr.drewN nq) osq)) := S1.out.grown nq osq
        clear lxa lxb hcx S1
        generalize grow (wr.drewN nq) osq = w2 at S2 ⊢
        clear nq osq eaxi paxi baxi raxi eaxj paxj baxj raxj
        go_wp2
        go_roundg (h - i)
        case measure => omega
        case rel => exact ⟨i, h, rfl, rfl, hmi, by omega, by omega, Nat.le_refl _, S2, HI, .inr (by rw [← HX.out a h (by omega) (by omega) (by omega) (by omega)]; exact hl)⟩
    · have hltz : ¬ (i : Int) < (j : Int) := by omega
      obtain rfl : i = j := by omega
      go_wp2
      go_loopg [13] (i - a) (fun kx v13 wr => ∃ (t : Nat) (dk : Array α), v13 = .int .i64 t ∧ a ≤ t ∧ t + 1 ≤ i ∧ i - t ≤ kx ∧ dk.size = d.size ∧ Aside (SW enc w0 blk off dk wr) ∧ Hid (Via (rotI a (a + 1) (t + 1)) d dk) ∧ Hid (Perms a b d dk))
      case atStart => exact ⟨a, d, rfl, Nat.le_refl _, by omega, by omega, rfl, S1, (Via.id d).congr (fun t => (rotI_right a (a + 1) t).symm), Perms.refl _ _ _⟩
      case round =>
        clear S1
        obtain ⟨t, dk, rfl, hat, hti, hkt, hds, S1, HV, HP⟩ := hrel
        by_cases htl : t + 1 < i
        · have htz : (t : Int) < (i : Int) - 1 := by omega
          go_wp2_with fail
          obtain ⟨iNy, hiNy⟩ : ∃ zz, zz = t := ⟨_, rfl⟩
          obtain ⟨jNy, hjNy⟩ : ∃ zz, zz = t + 1 := ⟨_, rfl⟩
          have eayi : ((t : Int)).toNat = iNy := by omega
          have payi : (0 : Int) ≤ (t : Int) := by omega
          have bayi : (t : Int) < (d.size : Int) := by omega
          have rayi : IntKind.i64.wrap ((t : Int)) = (t : Int) := by rw [IntKind.wrap_i64]; omega
          have eayj : ((t : Int) + 1).toNat = jNy := by omega
          have payj : (0 : Int) ≤ (t : Int) + 1 := by omega
          have bayj : (t : Int) + 1 < (d.size : Int) := by omega
          have rayj : IntKind.i64.wrap ((t : Int) + 1) = (t : Int) + 1 := by rw [IntKind.wrap_i64]; omega
          obtain ⟨xy, hxy⟩ : ∃ zx, zx = dk[t]! := ⟨_, rfl⟩
          obtain ⟨yy, hyy⟩ : ∃ zx, zx = dk[t + 1]! := ⟨_, rfl⟩
          have S3 : Aside (SW enc w0 blk off (swp dk (t) (t + 1)) ((wr.setCell ⟨blk, off + iNy, none⟩ (enc yy)).setCell ⟨blk, off + jNy, none⟩ (enc xy)).drew) := by rw [hiNy, hjNy, hxy, hyy]; exact S1.out.swapped R (t) (t + 1) (by omega) (by omega)
          have cya : wr.cell? ⟨blk, off + iNy, none⟩ = some (enc xy) := by rw [hiNy, hxy]; exact S1.out.c1 R (by omega) (t) (by omega)
          have cyb : wr.cell? ⟨blk, off + jNy, none⟩ = some (enc yy) := by rw [hjNy, hyy]; exact S1.out.c1 R (by omega) (t + 1) (by omega)
          have fya : wr.frozen? ⟨blk, off + iNy, none⟩ = false := by rw [hiNy]; exact S1.out.f1 R (by omega) (t) (by omega)
          have fyb : wr.frozen? ⟨blk, off + jNy, none⟩ = false := by rw [hjNy]; exact S1.out.f1 R (by omega) (t + 1) (by omega)
          obtain ⟨uy, cyc⟩ : ∃ u, (wr.setCell ⟨blk, off + iNy, none⟩ (enc yy)).cell? ⟨blk, off + jNy, none⟩ = some u := by rw [hiNy, hjNy]; exact S1.out.c2 R (by omega) (t) (t + 1) (by omega) (by omega) (enc yy)
          clear S1 hxy hyy hiNy hjNy
          go_wp2_with fail
          go_big_region_o
          clear cya cyb cyc fya fyb
          generalize ((wr.setCell ⟨blk, off + iNy, none⟩ (enc yy)).setCell ⟨blk, off + jNy, none⟩ (enc xy)).drew = w3 at S3 ⊢
          clear eayi payi bayi rayi eayj payj bayj rayj
          go_wp2
          go_roundg (i - (t + 1))
          case measure => omega
          case rel => exact ⟨t + 1, swp dk t (t + 1), by go_num, by omega, by omega, Nat.le_refl _, by rw [size_swp]; exact hds, S3, (HV.out.trans (via_swp dk (by omega) (by omega))).congr (fun u => up_step (by omega) u), HP.out.swp hds (by omega) (by omega) (by omega) (by omega)⟩
        · have htz : ¬ (t : Int) < (i : Int) - 1 := by omega
          obtain rfl : i = t + 1 := by omega
          go_wp2
          refine bodyPost_ret (results_none Try.results68 _ _ _) rfl ?_
          refine ⟨rfl, dk, S1.out, HP.out a b (Nat.le_refl _) (Nat.le_refl _) hb, ?_⟩
          have hm := HM.out
          subst hm
          exact rot_one_left hS (by omega) hjb HL.out HR.out (by rcases HJ.out with c | c; exact .inl c; exact .inr c) (by rcases HI.out with c | c; exact .inl c; exact .inr c) HV.out
set_option maxHeartbeats 8000000 in
set_option maxRecDepth 1000000 in
theorem sym_right (P : Program) (H : StP P) (F : StF P) {α : Type} [Inhabited α] (enc : α → Value) (cf : α → α → Int) (lt : α → α → Bool) (hS : SWO lt) (g : Nat) (cb : Array Value) (eg : ∀ args w, (callFunc g args).run P w = .ok (.enter g args) w) (blk off cap : Nat) (d0 : Array α) (w0 : World) (hcmp : CmpLays1 P g cb enc cf blk off d0.size w0) (R : Row1 enc w0 blk off d0) (a m b : Nat) (d : Array α) (w : World) (hm : m ≠ a + 1) (hbm : b = m + 1)
    (hs : d0.size = d.size) (S : SW enc w0 blk off d w) (ham : a < m) (hmb : m < b) (hb : b ≤ d.size) (hsz : d.size < 4611686018427387904) (hL : SortedIn lt a m d) (hR : SortedIn lt m b d) (hX : ∀ i j, a ≤ i → i < m → m ≤ j → j < b → ltOf cf d[j]! d[i]! = lt d[j]! d[i]!) :
    Calls P 68 #[.slice (some ⟨blk, off, none⟩) d.size cap, .int .i64 a, .int .i64 m, .int .i64 b, .func (.func g) #[] cb] w fun e w' => e = .returned (.tuple #[]) ∧ ∃ d', SW enc w0 blk off d' w' ∧ PermIn a b d d' ∧ SortedIn lt a b d' := by
  have mixed := H.mixed; have t3 := H.t3; have a3 := H.a3; have z3 := H.z3; have v3 := H.v3; have t4 := H.t4; have a4 := H.a4; have z4 := H.z4; have v4 := H.v4; have t22 := H.t22; have a22 := H.a22; have z22 := H.z22; have v22 := H.v22; have t25 := H.t25; have a25 := H.a25; have z25 := H.z25; have v25 := H.v25; have tU := H.tU; have aU := H.aU; have zU := H.zU; have vU := H.vU; have u22 := run_underlying H.t22; have hcl0 := R.hO.cells; have hst := R.hO.store P
  simp only [Value.cells] at hcl0
  have FG := F.fSym
  have HC : Aside _ := hcmp
  have S0 : Aside (SW enc w0 blk off d w) := S
  have HL : Hid _ := hL
  have HR : Hid _ := hR
  have HX : Hid _ := hX
  clear S hcmp hL hR hX
  have hmz : ¬ (m : Int) - (a : Int) = 1 := by omega
  have hmw : IntKind.i64.wrap ((m : Int) - (a : Int)) = (m : Int) - (a : Int) := by rw [IntKind.wrap_i64]; omega
  have hmzb : ((m : Int) - (a : Int) == 1) = false := by simpa using hmz
  have hbz : (b : Int) - (m : Int) = 1 := by omega
  have HBM : Hid _ := hbm
  clear hbm
  go_enter FG, Try.ntmps68
  go_wp2
  go_loopg [14, 15] (m - a) (fun kx vi vj wr => ∃ (i j : Nat), vi = .int .i64 i ∧ vj = .int .i64 j ∧ a ≤ i ∧ i ≤ j ∧ j ≤ m ∧ j - i ≤ kx ∧ Aside (SW enc w0 blk off d wr) ∧ Hid (i = a ∨ lt d[m]! d[i - 1]! = false) ∧ Hid (j = m ∨ lt d[m]! d[j]! = true))
  case atStart => exact ⟨a, m, rfl, rfl, Nat.le_refl _, by omega, Nat.le_refl _, by omega, S0, .inl rfl, .inl rfl⟩
  case round =>
    clear S0
    obtain ⟨i, j, rfl, rfl, hmi, hij, hjb, hkx, S1, HI, HJ⟩ := hrel
    by_cases hlt : i < j
    · have hltz : (i : Int) < (j : Int) := by omega
      obtain ⟨h, hh⟩ : ∃ h, h = (i + j) / 2 := ⟨_, rfl⟩
      have hh1 : i ≤ h := by omega
      have hh2 : h < j := by omega
      have hhz : ((i : Int) + (j : Int)) / 2 = (h : Int) := by omega
      clear hh
      go_wp2_with fail
      try simp only [hhz]
      clear hhz
      cases hl : ltOf cf d[m]! d[h]! with
      | true =>
        obtain ⟨iNx, hiNx⟩ : ∃ zz, zz = m := ⟨_, rfl⟩
        obtain ⟨jNx, hjNx⟩ : ∃ zz, zz = h := ⟨_, rfl⟩
        have eaxi : ((m : Int)).toNat = iNx := by omega
        have paxi : (0 : Int) ≤ (m : Int) := by omega
        have baxi : (m : Int) < (d.size : Int) := by omega
        have raxi : IntKind.i64.wrap ((m : Int)) = (m : Int) := by rw [IntKind.wrap_i64]; omega
        have eaxj : ((h : Int)).toNat = jNx := by omega
        have paxj : (0 : Int) ≤ (h : Int) := by omega
        have baxj : (h : Int) < (d.size : Int) := by omega
        have raxj : IntKind.i64.wrap ((h : Int)) = (h : Int) := by rw [IntKind.wrap_i64]; omega
        obtain ⟨xx, hxx⟩ : ∃ zx, zx = d[m]! := ⟨_, rfl⟩
        obtain ⟨yx, hyx⟩ : ∃ zx, zx = d[h]! := ⟨_, rfl⟩
        have lxa : ∀ (n : Nat) (os : Array Obj), (grow (wr.drewN n) os).cell? ⟨blk, off + iNx, none⟩ = some (enc xx) := by rw [hiNx, hxx]; exact S1.out.cl R (by omega) (m) (by omega)
        have lxb : ∀ (n : Nat) (os : Array Obj), (grow (wr.drewN n) os).cell? ⟨blk, off + jNx, none⟩ = some (enc yx) := by rw [hjNx, hyx]; exact S1.out.cl R (by omega) (h) (by omega)
        have hcx := S1.out.cmp HC.out (by omega) xx yx
        have hvx : cf xx yx < 0 := by rw [hxx, hyx]; exact of_decide_eq_true hl
        have hdx : decide (cf xx yx < 0) = true := decide_eq_true hvx
        clear hxx hyx hiNx hjNx
        go_wp2_with fail
        go_quiet_grown (first | (go_at_fn g; refine Calls.grown_of (hcx _ _)))
        have S2 : Aside (SW enc w0 blk off d (grow (wr.drewN nq) osq)) := S1.out.grown nq osq
        clear lxa lxb hcx S1
        generalize grow (wr.drewN nq) osq = w2 at S2 ⊢
        clear nq osq eaxi paxi baxi raxi eaxj paxj baxj raxj
        go_wp2
        go_roundg (h - i)
        case measure => omega
        case rel => exact ⟨i, h, rfl, rfl, hmi, by omega, by omega, Nat.le_refl _, S2, HI, .inr (by rw [← HX.out h m (by omega) (by omega) (by omega) (by omega)]; exact hl)⟩
      | false =>
        obtain ⟨iNx, hiNx⟩ : ∃ zz, zz = m := ⟨_, rfl⟩
        obtain ⟨jNx, hjNx⟩ : ∃ zz, zz = h := ⟨_, rfl⟩
        have eaxi : ((m : Int)).toNat = iNx := by omega
        have paxi : (0 : Int) ≤ (m : Int) := by omega
        have baxi : (m : Int) < (d.size : Int) := by omega
        have raxi : IntKind.i64.wrap ((m : Int)) = (m : Int) := by rw [IntKind.wrap_i64]; omega
        have eaxj : ((h : Int)).toNat = jNx := by omega
        have paxj : (0 : Int) ≤ (h : Int) := by omega
        have baxj : (h : Int) < (d.size : Int) := by omega
        have raxj : IntKind.i64.wrap ((h : Int)) = (h : Int) := by rw [IntKind.wrap_i64]; omega
        obtain ⟨xx, hxx⟩ : ∃ zx, zx = d[m]! := ⟨_, rfl⟩
        obtain ⟨yx, hyx⟩ : ∃ zx, zx = d[h]! := ⟨_, rfl⟩
        have lxa : ∀ (n : Nat) (os : Array Obj), (grow (wr.drewN n) os).cell? ⟨blk, off + iNx, none⟩ = some (enc xx) := by rw [hiNx, hxx]; exact S1.out.cl R (by omega) (m) (by omega)
        have lxb : ∀ (n : Nat) (os : Array Obj), (grow (wr.drewN n) os).cell? ⟨blk, off + jNx, none⟩ = some (enc yx) := by rw [hjNx, hyx]; exact S1.out.cl R (by omega) (h) (by omega)
        have hcx := S1.out.cmp HC.out (by omega) xx yx
        have hvx : ¬ cf xx yx < 0 := by rw [hxx, hyx]; exact of_decide_eq_false hl
        have hdx : decide (cf xx yx < 0) = false := decide_eq_false hvx
        clear hxx hyx hiNx hjNx
        go_wp2_with fail
        go_quiet_grown (first | (go_at_fn g; refine Calls.grown_of (hcx _ _)))
        have S2 : Aside (SW enc w0 blk off d (grow (wr.drewN nq) osq)) := S1.out.grown nq osq
        clear lxa lxb hcx S1
        generalize grow (wr.drewN nq) osq = w2 at S2 ⊢
        clear nq osq eaxi paxi baxi raxi eaxj paxj baxj raxj
        go_wp2
        go_roundg (j - (h + 1))
        case measure => omega
        case rel => exact ⟨h + 1, j, by go_num, rfl, by omega, by omega, hjb, Nat.le_refl _, S2, .inr (by rw [Nat.add_sub_cancel, ← HX.out h m (by omega) (by omega) (by omega) (by omega)]; exact hl), HJ⟩
    · have hltz : ¬ (i : Int) < (j : Int) := by omega
      obtain rfl : i = j := by omega
      go_wp2
      go_loopg [17] (m - i) (fun kx v17 wr => ∃ (t : Nat) (dk : Array α), v17 = .int .i64 t ∧ i ≤ t ∧ t ≤ m ∧ t - i ≤ kx ∧ dk.size = d.size ∧ Aside (SW enc w0 blk off dk wr) ∧ Hid (Via (rotI t m (m + 1)) d dk) ∧ Hid (Perms a b d dk))
      case atStart => exact ⟨m, d, rfl, by omega, Nat.le_refl _, Nat.le_refl _, rfl, S1, (Via.id d).congr (fun t => (rotI_left m (m + 1) t).symm), Perms.refl _ _ _⟩
      case round =>
        clear S1
        obtain ⟨t, dk, rfl, hat, hti, hkt, hds, S1, HV, HP⟩ := hrel
        by_cases htl : i < t
        · have htz : (t : Int) > (i : Int) := by omega
          have htz' : (i : Int) < (t : Int) := by omega
          obtain ⟨q, rfl⟩ : ∃ q, t = q + 1 := ⟨t - 1, by omega⟩
          go_wp2_with fail
          obtain ⟨iNy, hiNy⟩ : ∃ zz, zz = q + 1 := ⟨_, rfl⟩
          obtain ⟨jNy, hjNy⟩ : ∃ zz, zz = q := ⟨_, rfl⟩
          have eayi : ((q : Int) + 1).toNat = iNy := by omega
          have payi : (0 : Int) ≤ (q : Int) + 1 := by omega
          have bayi : (q : Int) + 1 < (d.size : Int) := by omega
          have rayi : IntKind.i64.wrap ((q : Int) + 1) = (q : Int) + 1 := by rw [IntKind.wrap_i64]; omega
          have eayj : ((q : Int)).toNat = jNy := by omega
          have payj : (0 : Int) ≤ (q : Int) := by omega
          have bayj : (q : Int) < (d.size : Int) := by omega
          have rayj : IntKind.i64.wrap ((q : Int)) = (q : Int) := by rw [IntKind.wrap_i64]; omega
          obtain ⟨xy, hxy⟩ : ∃ zx, zx = dk[q + 1]! := ⟨_, rfl⟩
          obtain ⟨yy, hyy⟩ : ∃ zx, zx = dk[q]! := ⟨_, rfl⟩
          have S3 : Aside (SW enc w0 blk off (swp dk (q + 1) (q)) ((wr.setCell ⟨blk, off + iNy, none⟩ (enc yy)).setCell ⟨blk, off + jNy, none⟩ (enc xy)).drew) := by rw [hiNy, hjNy, hxy, hyy]; exact S1.out.swapped R (q + 1) (q) (by omega) (by omega)
          have cya : wr.cell? ⟨blk, off + iNy, none⟩ = some (enc xy) := by rw [hiNy, hxy]; exact S1.out.c1 R (by omega) (q + 1) (by omega)
          have cyb : wr.cell? ⟨blk, off + jNy, none⟩ = some (enc yy) := by rw [hjNy, hyy]; exact S1.out.c1 R (by omega) (q) (by omega)
          have fya : wr.frozen? ⟨blk, off + iNy, none⟩ = false := by rw [hiNy]; exact S1.out.f1 R (by omega) (q + 1) (by omega)
          have fyb : wr.frozen? ⟨blk, off + jNy, none⟩ = false := by rw [hjNy]; exact S1.out.f1 R (by omega) (q) (by omega)
          obtain ⟨uy, cyc⟩ : ∃ u, (wr.setCell ⟨blk, off + iNy, none⟩ (enc yy)).cell? ⟨blk, off + jNy, none⟩ = some u := by rw [hiNy, hjNy]; exact S1.out.c2 R (by omega) (q + 1) (q) (by omega) (by omega) (enc yy)
          clear S1 hxy hyy hiNy hjNy
          go_wp2_with fail
          go_big_region_o
          clear cya cyb cyc fya fyb
          generalize ((wr.setCell ⟨blk, off + iNy, none⟩ (enc yy)).setCell ⟨blk, off + jNy, none⟩ (enc xy)).drew = w3 at S3 ⊢
          clear eayi payi bayi rayi eayj payj bayj rayj
          go_wp2
          go_roundg (q - i)
          case measure => omega
          case rel => exact ⟨q, swp dk (q + 1) q, by first | rfl | go_num | (congr 1; omega), by omega, by omega, Nat.le_refl _, by rw [size_swp]; exact hds, S3, (HV.out.trans (via_swp dk (by omega) (by omega))).congr (fun u => down_step (by omega) u), HP.out.swp hds (by omega) (by omega) (by omega) (by omega)⟩
        · have htz : ¬ (t : Int) > (i : Int) := by omega
          have htz' : ¬ (i : Int) < (t : Int) := by omega
          obtain rfl : t = i := by omega
          go_wp2
          refine bodyPost_ret (results_none Try.results68 _ _ _) rfl ?_
          refine ⟨rfl, dk, S1.out, HP.out a b (Nat.le_refl _) (Nat.le_refl _) hb, ?_⟩
          have hbm := HBM.out
          subst hbm
          exact rot_one_right hS hmi hti HL.out HR.out HI.out HJ.out HV.out
end Go.Proofs.Ytnncalhpbfmgoaa.S1
