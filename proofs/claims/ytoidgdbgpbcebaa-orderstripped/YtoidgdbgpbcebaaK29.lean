/-
  slices.swapRangeCmpFunc, at elements of k cells. slices.rotateCmpFunc, at elements of k cells. slices.symMergeCmpFunc, at elements of k cells: a run of one entry. slices.insertionSortCmpFunc, at elements of k cells.
-/
import Derived.Test.YtoidgdbgpbcebaaStMath
import Derived.Test.YtoidgdbgpbcebaaChecked
import Derived.Shelf.SlSortCmp.KitK
import Derived.Sort.WalkB2
import Derived.Sort.WalkB12
import Derived.Deep.LoopGhost
namespace Go.Proofs.Ytoidgdbgpbcebaa.S
open Go Go.Shelf Go.RowKit Go.Lib Go.Sort Go.Proofs
set_option linter.unusedVariables false

/-- What the sort's functions ask of a program: its types. -/
structure StP (P : Program) (k : Nat) : Prop where
  mixed : P.follows .mixedOrders = true
  t3 : P.underlying 3 = some (TypeDesc.int IntKind.i64)
  a3 : ∀ w, (isAgg 3).run P w = .ok false w
  z3 : ∀ w, (Go.sizeOf 3).run P w = .ok 1 w
  v3 : ∀ w, (zeroValue 3).run P w = .ok (Value.int IntKind.i64 0) w
  t4 : P.underlying 4 = some (TypeDesc.bool)
  a4 : ∀ w, (isAgg 4).run P w = .ok false w
  z4 : ∀ w, (Go.sizeOf 4).run P w = .ok 1 w
  v4 : ∀ w, (zeroValue 4).run P w = .ok (Value.bool false) w
  t22 : P.underlying 48 = some (TypeDesc.slice 59)
  a22 : ∀ w, (isAgg 48).run P w = .ok false w
  z22 : ∀ w, (Go.sizeOf 48).run P w = .ok 1 w
  v22 : ∀ w, (zeroValue 48).run P w = .ok (Value.slice none 0 0) w
  t25 : P.underlying 84 = some (TypeDesc.func #[59, 59] #[3] false)
  a25 : ∀ w, (isAgg 84).run P w = .ok false w
  z25 : ∀ w, (Go.sizeOf 84).run P w = .ok 1 w
  v25 : ∀ w, (zeroValue 84).run P w = .ok (Value.nilFunc) w
  tU : P.underlying 166 = some (TypeDesc.int IntKind.u64)
  aU : ∀ w, (isAgg 166).run P w = .ok false w
  zU : ∀ w, (Go.sizeOf 166).run P w = .ok 1 w
  vU : ∀ w, (zeroValue 166).run P w = .ok (Value.int IntKind.u64 0) w
  aE : ∀ w, (isAgg 59).run P w = .ok true w
  zE : ∀ w, (Go.sizeOf 59).run P w = .ok k w
/-- All within a wider part is a permutation. -/
def Perms {α : Type} [Inhabited α] (a b : Nat) (d d' : Array α) : Prop := ∀ lo hi, lo ≤ a → b ≤ hi → hi ≤ d.size → PermIn lo hi d d'
theorem Perms.refl {α : Type} [Inhabited α] (a b : Nat) (d : Array α) : Perms a b d d := fun _ _ _ _ _ => permIn_refl _ _ _
theorem Perms.swp {α : Type} [Inhabited α] {a b i j : Nat} {d d' : Array α} (h : Perms a b d d') (hs : d'.size = d.size) (h1 : a ≤ i) (h2 : i < b) (h3 : a ≤ j) (h4 : j < b) : Perms a b d (swp d' i j) := fun lo hi e1 e2 e3 =>
  permIn_trans _ _ _ _ _ (h lo hi e1 e2 e3) (swp_permIn _ _ _ _ _ (by omega) (by omega) (by omega) (by omega) (by omega))
theorem Perms.trans {α : Type} [Inhabited α] {a b : Nat} {d d' d'' : Array α} (h : Perms a b d d') (hs : d'.size = d.size) (h2 : Perms a b d' d'') : Perms a b d d'' := fun lo hi e1 e2 e3 => permIn_trans _ _ _ _ _ (h lo hi e1 e2 e3) (h2 lo hi e1 e2 (by omega))
theorem Perms.wide {α : Type} [Inhabited α] {a b a' b' : Nat} {d d' : Array α} (h : Perms a b d d') (h1 : a' ≤ a) (h2 : b ≤ b') : Perms a' b' d d' := fun lo hi e1 e2 e3 => h lo hi (by omega) (by omega) e3
set_option maxHeartbeats 4000000 in
set_option maxRecDepth 1000000 in
theorem swapRange_k (P : Program) (k : Nat) (H : StP P k) (FG : P.funcs[118]? = some Try.f118) {α : Type} [Inhabited α] (enc : α → List Value) (g : Nat) (cb : Array Value) (blk off cap a b n : Nat) (d0 d : Array α) (w0 w : World)
    (R : RowK enc k w0 blk off d0) (hs : d0.size = d.size) (S : SWK enc k w0 blk off d w) (hab : a + n ≤ b) (hb : b + n ≤ d.size) (hsz : d.size < 4611686018427387904) :
    Calls P 118 #[.slice (some ⟨blk, off, none⟩) d.size cap, .int .i64 a, .int .i64 b, .int .i64 n, .func (.func g) #[] cb] w fun e w' => e = .returned (.tuple #[]) ∧ ∃ d', SWK enc k w0 blk off d' w' ∧ Via (swR a b n) d d' ∧ Perms a (b + n) d d' := by
  have mixed := H.mixed; have t3 := H.t3; have a3 := H.a3; have z3 := H.z3; have v3 := H.v3; have t4 := H.t4; have a4 := H.a4; have z4 := H.z4; have v4 := H.v4; have t22 := H.t22; have a22 := H.a22; have z22 := H.z22; have v22 := H.v22; have t25 := H.t25; have a25 := H.a25; have z25 := H.z25; have v25 := H.v25; have tU := H.tU; have aU := H.aU; have zU := H.zU; have vU := H.vU; have aE := H.aE; have zE := H.zE
  have S0 : Aside (SWK enc k w0 blk off d w) := S
  clear S
  go_enter FG, Try.ntmps118
  go_wp2
  go_loopg [10] n (fun kx s10 wr => ∃ (i : Nat) (dk : Array α), s10 = .int .i64 i ∧ i ≤ n ∧ n - i ≤ kx ∧ dk.size = d.size ∧ Aside (SWK enc k w0 blk off dk wr) ∧ Hid (Via (swR a b i) d dk) ∧ Hid (Perms a (b + n) d dk))
  case atStart => exact ⟨0, d, rfl, Nat.zero_le _, by omega, rfl, S0, (Via.id d).congr (fun t => (swR_zero a b t).symm), Perms.refl _ _ _⟩
  case round =>
    clear S0
    obtain ⟨i, dk, rfl, hi, hkx, hds, S1, HV, HP⟩ := hrel
    by_cases hlt : i < n
    · have hltz : (i : Int) < (n : Int) := by omega
      go_wp2_with fail
      have eaxi : ((a : Int) + (i : Int)).toNat = a + i := by omega
      have paxi : (0 : Int) ≤ (a : Int) + (i : Int) := by omega
      have baxi : (a : Int) + (i : Int) < (d.size : Int) := by omega
      have raxi : IntKind.i64.wrap ((a : Int) + (i : Int)) = (a : Int) + (i : Int) := by rw [IntKind.wrap_i64]; omega
      have eaxj : ((b : Int) + (i : Int)).toNat = b + i := by omega
      have paxj : (0 : Int) ≤ (b : Int) + (i : Int) := by omega
      have baxj : (b : Int) + (i : Int) < (d.size : Int) := by omega
      have raxj : IntKind.i64.wrap ((b : Int) + (i : Int)) = (b : Int) + (i : Int) := by rw [IntKind.wrap_i64]; omega
      have S2 : Aside (SWK enc k w0 blk off (swp dk (a + i) (b + i)) ((wr.drew.setCells blk (off + (a + i) * k) (enc dk[b + i]!)).setCells blk (off + (b + i) * k) (enc dk[a + i]!))) := S1.out.swapped R (a + i) (b + i) (by omega) (by omega)
      have lxa := S1.out.ld1 R (by omega) P (a + i) (by omega)
      have lxb := S1.out.ld1 R (by omega) P (b + i) (by omega)
      have sxa := S1.out.st1 R (by omega) P (a + i) (by omega) dk[b + i]!
      have sxb := S1.out.st2 R (by omega) P (a + i) (b + i) (by omega) (by omega) dk[b + i]! dk[a + i]!
      have nxa : (enc dk[a + i]!).length = k := R.hk _
      have nxb : (enc dk[b + i]!).length = k := R.hk _
      generalize enc dk[a + i]! = cIx at S2 lxa sxb nxa
      generalize enc dk[b + i]! = cJx at S2 lxb sxa sxb nxb
      clear S1
      go_wp2_with fail
      go_big_region_o
      clear lxa lxb sxa sxb
      generalize (wr.drew.setCells blk (off + (a + i) * k) cJx).setCells blk (off + (b + i) * k) cIx = w2 at S2 ⊢
      clear eaxi paxi baxi raxi eaxj paxj baxj raxj
      go_wp2
      go_roundg (n - (i + 1))
      case measure => omega
      case rel => exact ⟨i + 1, swp dk (a + i) (b + i), by simp, by omega, Nat.le_refl _, by rw [size_swp]; exact hds, S2, (HV.out.trans (via_swp dk (by omega) (by omega))).congr (fun t => swR_step (by omega) t), HP.out.swp hds (by omega) (by omega) (by omega) (by omega)⟩
    · have hltz : ¬ (i : Int) < (n : Int) := by omega
      obtain rfl : i = n := by omega
      go_wp2
      go_end0
      exact ⟨rfl, dk, S1.out, HV.out, HP.out⟩
end Go.Proofs.Ytoidgdbgpbcebaa.S
namespace Go.Proofs.Ytoidgdbgpbcebaa.S
open Go Go.Shelf Go.RowKit Go.Lib Go.Sort Go.Proofs
set_option linter.unusedVariables false

/-- The sort's functions, as the program P has them. -/
structure StF (P : Program) : Prop where
  fSwap : P.funcs[118]? = some Try.f118
  fRot : P.funcs[114]? = some Try.f114
  fSym : P.funcs[102]? = some Try.f102
  fSta : P.funcs[78]? = some Try.f78
  fIns : P.funcs[101]? = some Try.f101
  eSwap : ∀ args w, (callFunc 118 args).run P w = .ok (.enter 118 args) w
  eRot : ∀ args w, (callFunc 114 args).run P w = .ok (.enter 114 args) w
  eSym : ∀ args w, (callFunc 102 args).run P w = .ok (.enter 102 args) w
  eSta : ∀ args w, (callFunc 78 args).run P w = .ok (.enter 78 args) w
  eIns : ∀ args w, (callFunc 101 args).run P w = .ok (.enter 101 args) w
set_option maxHeartbeats 4000000 in
set_option maxRecDepth 1000000 in
theorem rotate_k (P : Program) (k : Nat) (H : StP P k) (F : StF P) {α : Type} [Inhabited α] (enc : α → List Value) (g : Nat) (cb : Array Value) (blk off cap a m b : Nat) (d0 d : Array α) (w0 w : World)
    (R : RowK enc k w0 blk off d0) (hs : d0.size = d.size) (S : SWK enc k w0 blk off d w) (ham : a < m) (hmb : m < b) (hb : b ≤ d.size) (hsz : d.size < 4611686018427387904) :
    Calls P 114 #[.slice (some ⟨blk, off, none⟩) d.size cap, .int .i64 a, .int .i64 m, .int .i64 b, .func (.func g) #[] cb] w fun e w' => e = .returned (.tuple #[]) ∧ ∃ d', SWK enc k w0 blk off d' w' ∧ Via (rotI a m b) d d' ∧ Perms a b d d' := by
  have mixed := H.mixed; have t3 := H.t3; have a3 := H.a3; have z3 := H.z3; have v3 := H.v3; have t4 := H.t4; have a4 := H.a4; have z4 := H.z4; have v4 := H.v4; have t22 := H.t22; have a22 := H.a22; have z22 := H.z22; have v22 := H.v22; have t25 := H.t25; have a25 := H.a25; have z25 := H.z25; have v25 := H.v25; have tU := H.tU; have aU := H.aU; have zU := H.zU; have vU := H.vU; have aE := H.aE; have zE := H.zE
  have FG := F.fRot
  have eS := F.eSwap
  have S0 : Aside (SWK enc k w0 blk off d w) := S
  clear S
  go_enter FG, Try.ntmps114
  go_wp2
  go_loopg [10, 11] (b - a) (fun kx vi vj wr => ∃ (i j : Nat) (dk : Array α) (f : Nat → Nat), vi = .int .i64 i ∧ vj = .int .i64 j ∧ 0 < i ∧ 0 < j ∧ a + i ≤ m ∧ m + j ≤ b ∧ i + j ≤ kx ∧ dk.size = d.size ∧ Aside (SWK enc k w0 blk off dk wr) ∧ Hid (Via f d dk) ∧ Hid (∀ t, f (rotI (m - i) m (m + j) t) = rotI a m b t) ∧ Hid (Perms a b d dk))
  case atStart => exact ⟨m - a, b - m, d, fun t => t, by congr 1; omega, by congr 1; omega, by omega, by omega, by omega, by omega, by omega, rfl, S0, Via.id d, fun t => by rw [show m - (m - a) = a by omega, show m + (b - m) = b by omega], Perms.refl _ _ _⟩
  case round =>
    clear S0
    obtain ⟨i, j, dk, f, rfl, rfl, hi, hj, hai, hjb, hkx, hds, S1, HV, HF, HP⟩ := hrel
    by_cases hij : i = j
    · subst hij
      have hc := swapRange_k P k H F.fSwap enc g cb blk off cap (m - i) m i d0 dk w0 wr R (by omega) S1.out (by omega) (by omega) (by omega)
      have ec : ((m - i : Nat) : Int) = (m : Int) - (i : Int) := by omega
      rw [ec, hds] at hc
      clear S1
      go_wp2_with (go_at_fn 118; refine hc.mono ?_; rintro e w1 ⟨rfl, d2, S2, hv2, hp2⟩)
      go_end0
      refine ⟨rfl, d2, S2, (HV.out.trans hv2).congr fun t => ?_, HP.out.trans hds (hp2.wide (by omega) (by omega))⟩
      rw [rot_eq (by omega), HF.out]
    · have hne : ¬ (i : Int) = (j : Int) := by omega
      by_cases hlt : j < i
      · have hltz : (i : Int) > (j : Int) := by omega
        have hltz' : (j : Int) < (i : Int) := by omega
        have hc := swapRange_k P k H F.fSwap enc g cb blk off cap (m - i) m j d0 dk w0 wr R (by omega) S1.out (by omega) (by omega) (by omega)
        have ec : ((m - i : Nat) : Int) = (m : Int) - (i : Int) := by omega
        rw [ec, hds] at hc
        clear S1
        go_wp2_with (go_at_fn 118; refine hc.mono ?_; rintro e w1 ⟨rfl, d2, S2, hv2, hp2⟩)
        go_roundg (i - j + j)
        case measure => omega
        case rel => exact ⟨i - j, j, d2, _, by congr 1; omega, rfl, by omega, hj, by omega, hjb, Nat.le_refl _, hv2.size.trans hds, S2, HV.out.trans hv2, fun t => by show f _ = _; rw [rot_gt (by omega) hlt, HF.out], HP.out.trans hds (hp2.wide (by omega) (by omega))⟩
      · have hltz : ¬ (i : Int) > (j : Int) := by omega
        have hltz' : ¬ (j : Int) < (i : Int) := by omega
        have hc := swapRange_k P k H F.fSwap enc g cb blk off cap (m - i) (m + j - i) i d0 dk w0 wr R (by omega) S1.out (by omega) (by omega) (by omega)
        have ec : ((m - i : Nat) : Int) = (m : Int) - (i : Int) := by omega
        have ec2 : ((m + j - i : Nat) : Int) = (m : Int) + (j : Int) - (i : Int) := by omega
        rw [ec, ec2, hds] at hc
        clear S1
        go_wp2_with (go_at_fn 118; refine hc.mono ?_; rintro e w1 ⟨rfl, d2, S2, hv2, hp2⟩)
        go_roundg (i + (j - i))
        case measure => omega
        case rel => exact ⟨i, j - i, d2, _, rfl, by congr 1; omega, hi, by omega, hai, by omega, Nat.le_refl _, hv2.size.trans hds, S2, HV.out.trans hv2, fun t => by show f _ = _; rw [rot_lt (by omega) (by omega), HF.out], HP.out.trans hds (hp2.wide (by omega) (by omega))⟩
end Go.Proofs.Ytoidgdbgpbcebaa.S
namespace Go.Proofs.Ytoidgdbgpbcebaa.S
open Go Go.Shelf Go.RowKit Go.Lib Go.Sort Go.Proofs
set_option linter.unusedVariables false

set_option maxHeartbeats 8000000 in
set_option maxRecDepth 1000000 in
theorem sym_left (P : Program) (k : Nat) (H : StP P k) (F : StF P) {α : Type} [Inhabited α] (enc : α → List Value) (cf : α → α → Int) (lt : α → α → Bool) (hS : SWO lt) (g : Nat) (cb : Array Value) (eg : ∀ args w, (callFunc g args).run P w = .ok (.enter g args) w) (blk off cap : Nat) (d0 : Array α) (w0 : World) (hcmp : CmpLays P g cb enc k cf blk off d0.size w0) (R : RowK enc k w0 blk off d0) (a m b : Nat) (d : Array α) (w : World) (hm : m = a + 1)
    (hs : d0.size = d.size) (S : SWK enc k w0 blk off d w) (ham : a < m) (hmb : m < b) (hb : b ≤ d.size) (hsz : d.size < 4611686018427387904) (hL : SortedIn lt a m d) (hR : SortedIn lt m b d) (hX : ∀ i j, a ≤ i → i < m → m ≤ j → j < b → ltOf cf d[j]! d[i]! = lt d[j]! d[i]!) :
    Calls P 102 #[.slice (some ⟨blk, off, none⟩) d.size cap, .int .i64 a, .int .i64 m, .int .i64 b, .func (.func g) #[] cb] w fun e w' => e = .returned (.tuple #[]) ∧ ∃ d', SWK enc k w0 blk off d' w' ∧ PermIn a b d d' ∧ SortedIn lt a b d' := by
  have mixed := H.mixed; have t3 := H.t3; have a3 := H.a3; have z3 := H.z3; have v3 := H.v3; have t4 := H.t4; have a4 := H.a4; have z4 := H.z4; have v4 := H.v4; have t22 := H.t22; have a22 := H.a22; have z22 := H.z22; have v22 := H.v22; have t25 := H.t25; have a25 := H.a25; have z25 := H.z25; have v25 := H.v25; have tU := H.tU; have aU := H.aU; have zU := H.zU; have vU := H.vU; have aE := H.aE; have zE := H.zE
  have FG := F.fSym
  have HC : Aside _ := hcmp
  have S0 : Aside (SWK enc k w0 blk off d w) := S
  have HL : Hid _ := hL
  have HR : Hid _ := hR
  have HX : Hid _ := hX
  clear S hcmp hL hR hX
  have hmz : (m : Int) - (a : Int) = 1 := by omega
  have HM : Hid _ := hm
  clear hm
  go_enter FG, Try.ntmps102
  go_wp2
  go_loopg [10, 11] (b - m) (fun kx vi vj wr => ∃ (i j : Nat), vi = .int .i64 i ∧ vj = .int .i64 j ∧ m ≤ i ∧ i ≤ j ∧ j ≤ b ∧ j - i ≤ kx ∧ Aside (SWK enc k w0 blk off d wr) ∧ Hid (i = m ∨ lt d[i - 1]! d[a]! = true) ∧ Hid (j = b ∨ lt d[j]! d[a]! = false))
  case atStart => exact ⟨m, b, rfl, rfl, Nat.le_refl _, by omega, Nat.le_refl _, by omega, S0, .inl rfl, .inl rfl⟩
  case round =>
    clear S0
    obtain ⟨i, j, rfl, rfl, hmi, hij, hjb, hkx, S1, HI, HJ⟩ := hrel
    by_cases hlt : i < j
    · have hltz : (i : Int) < (j : Int) := by omega
      obtain ⟨h, hh⟩ : ∃ h, h = (i + j) / 2 := ⟨_, rfl⟩
      have hh1 : i ≤ h := by omega
      have hh2 : h < j := by omega
      have hhz : ((i : Int) + (j : Int)) / 2 = (h : Int) := by omega
      clear hh
      go_wp2_with fail
      try simp only [hhz]
      clear hhz
      cases hl : ltOf cf d[h]! d[a]! with
      | true =>
        have eaxi : ((h : Int)).toNat = h := by omega
        have paxi : (0 : Int) ≤ (h : Int) := by omega
        have baxi : (h : Int) < (d.size : Int) := by omega
        have raxi : IntKind.i64.wrap ((h : Int)) = (h : Int) := by rw [IntKind.wrap_i64]; omega
        have eaxj : ((a : Int)).toNat = a := by omega
        have paxj : (0 : Int) ≤ (a : Int) := by omega
        have baxj : (a : Int) < (d.size : Int) := by omega
        have raxj : IntKind.i64.wrap ((a : Int)) = (a : Int) := by rw [IntKind.wrap_i64]; omega
        obtain ⟨xx, hxx⟩ : ∃ x, x = d[h]! := ⟨_, rfl⟩
        obtain ⟨yx, hyx⟩ : ∃ x, x = d[a]! := ⟨_, rfl⟩
        have lxa := S1.out.ld R (by omega) P (h) (by omega)
        have lxb := S1.out.ld R (by omega) P (a) (by omega)
        rw [← hxx] at lxa
        rw [← hyx] at lxb
        have hcx := S1.out.cmp HC.out (by omega) xx yx
        have hvx : cf xx yx < 0 := by rw [hxx, hyx]; exact of_decide_eq_true hl
        have hdx : decide (cf xx yx < 0) = true := decide_eq_true hvx
        have nax : (enc xx).length = k := R.hk _
        have nbx : (enc yx).length = k := R.hk _
        clear hxx hyx
        go_wp2_with fail
        go_quiet_grown (first | (go_at_fn g; refine Calls.grown_of (hcx _ _)))
        have S2 : Aside (SWK enc k w0 blk off d (grow (wr.drewN nq) osq)) := S1.out.grown nq osq
        clear lxa lxb hcx S1
        generalize grow (wr.drewN nq) osq = w2 at S2 ⊢
        clear nq osq eaxi paxi baxi raxi eaxj paxj baxj raxj
        go_wp2
        go_roundg (j - (h + 1))
        case measure => omega
        case rel => exact ⟨h + 1, j, by go_num, rfl, by omega, by omega, hjb, Nat.le_refl _, S2, .inr (by rw [Nat.add_sub_cancel, ← HX.out a h (by omega) (by omega) (by omega) (by omega)]; exact hl), HJ⟩
      | false =>
        have eaxi : ((h : Int)).toNat = h := by omega
        have paxi : (0 : Int) ≤ (h : Int) := by omega
        have baxi : (h : Int) < (d.size : Int) := by omega
        have raxi : IntKind.i64.wrap ((h : Int)) = (h : Int) := by rw [IntKind.wrap_i64]; omega
        have eaxj : ((a : Int)).toNat = a := by omega
        have paxj : (0 : Int) ≤ (a : Int) := by omega
        have baxj : (a : Int) < (d.size : Int) := by omega
        have raxj : IntKind.i64.wrap ((a : Int)) = (a : Int) := by rw [IntKind.wrap_i64]; omega
        obtain ⟨xx, hxx⟩ : ∃ x, x = d[h]! := ⟨_, rfl⟩
        obtain ⟨yx, hyx⟩ : ∃ x, x = d[a]! := ⟨_, rfl⟩
        have lxa := S1.out.ld R (by omega) P (h) (by omega)
        have lxb := S1.out.ld R (by omega) P (a) (by omega)
        rw [← hxx] at lxa
        rw [← hyx] at lxb
        have hcx := S1.out.cmp HC.out (by omega) xx yx
        have hvx : ¬ cf xx yx < 0 := by rw [hxx, hyx]; exact of_decide_eq_false hl
        have hdx : decide (cf xx yx < 0) = false := decide_eq_false hvx
        have nax : (enc xx).length = k := R.hk _
        have nbx : (enc yx).length = k := R.hk _
        clear hxx hyx
        go_wp2_with fail
        go_quiet_grown (first | (go_at_fn g; refine Calls.grown_of (hcx _ _)))
        have S2 : Aside (SWK enc k w0 blk off d (grow (wr.drewN nq) osq)) := S1.out.grown nq osq
        clear lxa lxb hcx S1
        generalize grow (wr.drewN nq) osq = w2 at S2 ⊢
        clear nq osq eaxi paxi baxi raxi eaxj paxj baxj raxj
        go_wp2
        go_roundg (h - i)
        case measure => omega
        case rel => exact ⟨i, h, rfl, rfl, hmi, by omega, by omega, Nat.le_refl _, S2, HI, .inr (by rw [← HX.out a h (by omega) (by omega) (by omega) (by omega)]; exact hl)⟩
    · have hltz : ¬ (i : Int) < (j : Int) := by omega
      obtain rfl : i = j := by omega
      go_wp2
      go_loopg [13] (i - a) (fun kx v13 wr => ∃ (t : Nat) (dk : Array α), v13 = .int .i64 t ∧ a ≤ t ∧ t + 1 ≤ i ∧ i - t ≤ kx ∧ dk.size = d.size ∧ Aside (SWK enc k w0 blk off dk wr) ∧ Hid (Via (rotI a (a + 1) (t + 1)) d dk) ∧ Hid (Perms a b d dk))
      case atStart => exact ⟨a, d, rfl, Nat.le_refl _, by omega, by omega, rfl, S1, (Via.id d).congr (fun t => (rotI_right a (a + 1) t).symm), Perms.refl _ _ _⟩
      case round =>
        clear S1
        obtain ⟨t, dk, rfl, hat, hti, hkt, hds, S1, HV, HP⟩ := hrel
        by_cases htl : t + 1 < i
        · have htz : (t : Int) < (i : Int) - 1 := by omega
          go_wp2_with fail
          have eayi : ((t : Int)).toNat = t := by omega
          have payi : (0 : Int) ≤ (t : Int) := by omega
          have bayi : (t : Int) < (d.size : Int) := by omega
          have rayi : IntKind.i64.wrap ((t : Int)) = (t : Int) := by rw [IntKind.wrap_i64]; omega
          have eayj : ((t : Int) + 1).toNat = t + 1 := by omega
          have payj : (0 : Int) ≤ (t : Int) + 1 := by omega
          have bayj : (t : Int) + 1 < (d.size : Int) := by omega
          have rayj : IntKind.i64.wrap ((t : Int) + 1) = (t : Int) + 1 := by rw [IntKind.wrap_i64]; omega
          have S3 : Aside (SWK enc k w0 blk off (swp dk (t) (t + 1)) ((wr.drew.setCells blk (off + (t) * k) (enc dk[t + 1]!)).setCells blk (off + (t + 1) * k) (enc dk[t]!))) := S1.out.swapped R (t) (t + 1) (by omega) (by omega)
          have lya := S1.out.ld1 R (by omega) P (t) (by omega)
          have lyb := S1.out.ld1 R (by omega) P (t + 1) (by omega)
          have sya := S1.out.st1 R (by omega) P (t) (by omega) dk[t + 1]!
          have syb := S1.out.st2 R (by omega) P (t) (t + 1) (by omega) (by omega) dk[t + 1]! dk[t]!
          have nya : (enc dk[t]!).length = k := R.hk _
          have nyb : (enc dk[t + 1]!).length = k := R.hk _
          generalize enc dk[t]! = cIy at S3 lya syb nya
          generalize enc dk[t + 1]! = cJy at S3 lyb sya syb nyb
          clear S1
          go_wp2_with fail
          go_big_region_o
          clear lya lyb sya syb
          generalize (wr.drew.setCells blk (off + (t) * k) cJy).setCells blk (off + (t + 1) * k) cIy = w3 at S3 ⊢
          clear eayi payi bayi rayi eayj payj bayj rayj
          go_wp2
          go_roundg (i - (t + 1))
          case measure => omega
          case rel => exact ⟨t + 1, swp dk t (t + 1), by go_num, by omega, by omega, Nat.le_refl _, by rw [size_swp]; exact hds, S3, (HV.out.trans (via_swp dk (by omega) (by omega))).congr (fun u => up_step (by omega) u), HP.out.swp hds (by omega) (by omega) (by omega) (by omega)⟩
        · have htz : ¬ (t : Int) < (i : Int) - 1 := by omega
          obtain rfl : i = t + 1 := by omega
          go_wp2
          refine bodyPost_ret (results_none Try.results102 _ _ _) rfl ?_
          refine ⟨rfl, dk, S1.out, HP.out a b (Nat.le_refl _) (Nat.le_refl _) hb, ?_⟩
          have hm := HM.out
          subst hm
          exact rot_one_left hS (by omega) hjb HL.out HR.out (by rcases HJ.out with c | c; exact .inl c; exact .inr c) (by rcases HI.out with c | c; exact .inl c; exact .inr c) HV.out
set_option maxHeartbeats 8000000 in
set_option maxRecDepth 1000000 in
theorem sym_right (P : Program) (k : Nat) (H : StP P k) (F : StF P) {α : Type} [Inhabited α] (enc : α → List Value) (cf : α → α → Int) (lt : α → α → Bool) (hS : SWO lt) (g : Nat) (cb : Array Value) (eg : ∀ args w, (callFunc g args).run P w = .ok (.enter g args) w) (blk off cap : Nat) (d0 : Array α) (w0 : World) (hcmp : CmpLays P g cb enc k cf blk off d0.size w0) (R : RowK enc k w0 blk off d0) (a m b : Nat) (d : Array α) (w : World) (hm : m ≠ a + 1) (hbm : b = m + 1)
    (hs : d0.size = d.size) (S : SWK enc k w0 blk off d w) (ham : a < m) (hmb : m < b) (hb : b ≤ d.size) (hsz : d.size < 4611686018427387904) (hL : SortedIn lt a m d) (hR : SortedIn lt m b d) (hX : ∀ i j, a ≤ i → i < m → m ≤ j → j < b → ltOf cf d[j]! d[i]! = lt d[j]! d[i]!) :
    Calls P 102 #[.slice (some ⟨blk, off, none⟩) d.size cap, .int .i64 a, .int .i64 m, .int .i64 b, .func (.func g) #[] cb] w fun e w' => e = .returned (.tuple #[]) ∧ ∃ d', SWK enc k w0 blk off d' w' ∧ PermIn a b d d' ∧ SortedIn lt a b d' := by
  have mixed := H.mixed; have t3 := H.t3; have a3 := H.a3; have z3 := H.z3; have v3 := H.v3; have t4 := H.t4; have a4 := H.a4; have z4 := H.z4; have v4 := H.v4; have t22 := H.t22; have a22 := H.a22; have z22 := H.z22; have v22 := H.v22; have t25 := H.t25; have a25 := H.a25; have z25 := H.z25; have v25 := H.v25; have tU := H.tU; have aU := H.aU; have zU := H.zU; have vU := H.vU; have aE := H.aE; have zE := H.zE
  have FG := F.fSym
  have HC : Aside _ := hcmp
  have S0 : Aside (SWK enc k w0 blk off d w) := S
  have HL : Hid _ := hL
  have HR : Hid _ := hR
  have HX : Hid _ := hX
  clear S hcmp hL hR hX
  have hmz : ¬ (m : Int) - (a : Int) = 1 := by omega
  have hmw : IntKind.i64.wrap ((m : Int) - (a : Int)) = (m : Int) - (a : Int) := by rw [IntKind.wrap_i64]; omega
  have hmzb : ((m : Int) - (a : Int) == 1) = false := by simpa using hmz
  have hbz : (b : Int) - (m : Int) = 1 := by omega
  have HBM : Hid _ := hbm
  clear hbm
  go_enter FG, Try.ntmps102
  go_wp2
  go_loopg [14, 15] (m - a) (fun kx vi vj wr => ∃ (i j : Nat), vi = .int .i64 i ∧ vj = .int .i64 j ∧ a ≤ i ∧ i ≤ j ∧ j ≤ m ∧ j - i ≤ kx ∧ Aside (SWK enc k w0 blk off d wr) ∧ Hid (i = a ∨ lt d[m]! d[i - 1]! = false) ∧ Hid (j = m ∨ lt d[m]! d[j]! = true))
  case atStart => exact ⟨a, m, rfl, rfl, Nat.le_refl _, by omega, Nat.le_refl _, by omega, S0, .inl rfl, .inl rfl⟩
  case round =>
    clear S0
    obtain ⟨i, j, rfl, rfl, hmi, hij, hjb, hkx, S1, HI, HJ⟩ := hrel
    by_cases hlt : i < j
    · have hltz : (i : Int) < (j : Int) := by omega
      obtain ⟨h, hh⟩ : ∃ h, h = (i + j) / 2 := ⟨_, rfl⟩
      have hh1 : i ≤ h := by omega
      have hh2 : h < j := by omega
      have hhz : ((i : Int) + (j : Int)) / 2 = (h : Int) := by omega
      clear hh
      go_wp2_with fail
      try simp only [hhz]
      clear hhz
      cases hl : ltOf cf d[m]! d[h]! with
      | true =>
        have eaxi : ((m : Int)).toNat = m := by omega
        have paxi : (0 : Int) ≤ (m : Int) := by omega
        have baxi : (m : Int) < (d.size : Int) := by omega
        have raxi : IntKind.i64.wrap ((m : Int)) = (m : Int) := by rw [IntKind.wrap_i64]; omega
        have eaxj : ((h : Int)).toNat = h := by omega
        have paxj : (0 : Int) ≤ (h : Int) := by omega
        have baxj : (h : Int) < (d.size : Int) := by omega
        have raxj : IntKind.i64.wrap ((h : Int)) = (h : Int) := by rw [IntKind.wrap_i64]; omega
        obtain ⟨xx, hxx⟩ : ∃ x, x = d[m]! := ⟨_, rfl⟩
        obtain ⟨yx, hyx⟩ : ∃ x, x = d[h]! := ⟨_, rfl⟩
        have lxa := S1.out.ld R (by omega) P (m) (by omega)
        have lxb := S1.out.ld R (by omega) P (h) (by omega)
        rw [← hxx] at lxa
        rw [← hyx] at lxb
        have hcx := S1.out.cmp HC.out (by omega) xx yx
        have hvx : cf xx yx < 0 := by rw [hxx, hyx]; exact of_decide_eq_true hl
        have hdx : decide (cf xx yx < 0) = true := decide_eq_true hvx
        have nax : (enc xx).length = k := R.hk _
        have nbx : (enc yx).length = k := R.hk _
        clear hxx hyx
        go_wp2_with fail
        go_quiet_grown (first | (go_at_fn g; refine Calls.grown_of (hcx _ _)))
        have S2 : Aside (SWK enc k w0 blk off d (grow (wr.drewN nq) osq)) := S1.out.grown nq osq
        clear lxa lxb hcx S1
        generalize grow (wr.drewN nq) osq = w2 at S2 ⊢
        clear nq osq eaxi paxi baxi raxi eaxj paxj baxj raxj
        go_wp2
        go_roundg (h - i)
        case measure => omega
        case rel => exact ⟨i, h, rfl, rfl, hmi, by omega, by omega, Nat.le_refl _, S2, HI, .inr (by rw [← HX.out h m (by omega) (by omega) (by omega) (by omega)]; exact hl)⟩
      | false =>
        have eaxi : ((m : Int)).toNat = m := by omega
        have paxi : (0 : Int) ≤ (m : Int) := by omega
        have baxi : (m : Int) < (d.size : Int) := by omega
        have raxi : IntKind.i64.wrap ((m : Int)) = (m : Int) := by rw [IntKind.wrap_i64]; omega
        have eaxj : ((h : Int)).toNat = h := by omega
        have paxj : (0 : Int) ≤ (h : Int) := by omega
        have baxj : (h : Int) < (d.size : Int) := by omega
        have raxj : IntKind.i64.wrap ((h : Int)) = (h : Int) := by rw [IntKind.wrap_i64]; omega
        obtain ⟨xx, hxx⟩ : ∃ x, x = d[m]! := ⟨_, rfl⟩
        obtain ⟨yx, hyx⟩ : ∃ x, x = d[h]! := ⟨_, rfl⟩
        have lxa := S1.out.ld R (by omega) P (m) (by omega)
        have lxb := S1.out.ld R (by omega) P (h) (by omega)
        rw [← hxx] at lxa
        rw [← hyx] at lxb
        have hcx := S1.out.cmp HC.out (by omega) xx yx
        have hvx : ¬ cf xx yx < 0 := by rw [hxx, hyx]; exact of_decide_eq_false hl
        have hdx : decide (cf xx yx < 0) = false := decide_eq_false hvx
        have nax : (enc xx).length = k := R.hk _
        have nbx : (enc yx).length = k := R.hk _
        clear hxx hyx
        go_wp2_with fail
        go_quiet_grown (first | (go_at_fn g; refine Calls.grown_of (hcx _ _)))
        have S2 : Aside (SWK enc k w0 blk off d (grow (wr.drewN nq) osq)) := S1.out.grown nq osq
        clear lxa lxb hcx S1
        generalize grow (wr.drewN nq) osq = w2 at S2 ⊢
        clear nq osq eaxi paxi baxi raxi eaxj paxj baxj raxj
        go_wp2
        go_roundg (j - (h + 1))
        case measure => omega
        case rel => exact ⟨h + 1, j, by go_num, rfl, by omega, by omega, hjb, Nat.le_refl _, S2, .inr (by rw [Nat.add_sub_cancel, ← HX.out h m (by omega) (by omega) (by omega) (by omega)]; exact hl), HJ⟩
    · have hltz : ¬ (i : Int) < (j : Int) := by omega
      obtain rfl : i = j := by omega
      go_wp2
      go_loopg [17] (m - i) (fun kx v17 wr => ∃ (t : Nat) (dk : Array α), v17 = .int .i64 t ∧ i ≤ t ∧ t ≤ m ∧ t - i ≤ kx ∧ dk.size = d.size ∧ Aside (SWK enc k w0 blk off dk wr) ∧ Hid (Via (rotI t m (m + 1)) d dk) ∧ Hid (Perms a b d dk))
      case atStart => exact ⟨m, d, rfl, by omega, Nat.le_refl _, Nat.le_refl _, rfl, S1, (Via.id d).congr (fun t => (rotI_left m (m + 1) t).symm), Perms.refl _ _ _⟩
      case round =>
        clear S1
        obtain ⟨t, dk, rfl, hat, hti, hkt, hds, S1, HV, HP⟩ := hrel
        by_cases htl : i < t
        · have htz : (t : Int) > (i : Int) := by omega
          have htz' : (i : Int) < (t : Int) := by omega
          obtain ⟨q, rfl⟩ : ∃ q, t = q + 1 := ⟨t - 1, by omega⟩
          go_wp2_with fail
          have eayi : ((q : Int) + 1).toNat = q + 1 := by omega
          have payi : (0 : Int) ≤ (q : Int) + 1 := by omega
          have bayi : (q : Int) + 1 < (d.size : Int) := by omega
          have rayi : IntKind.i64.wrap ((q : Int) + 1) = (q : Int) + 1 := by rw [IntKind.wrap_i64]; omega
          have eayj : ((q : Int)).toNat = q := by omega
          have payj : (0 : Int) ≤ (q : Int) := by omega
          have bayj : (q : Int) < (d.size : Int) := by omega
          have rayj : IntKind.i64.wrap ((q : Int)) = (q : Int) := by rw [IntKind.wrap_i64]; omega
          have S3 : Aside (SWK enc k w0 blk off (swp dk (q + 1) (q)) ((wr.drew.setCells blk (off + (q + 1) * k) (enc dk[q]!)).setCells blk (off + (q) * k) (enc dk[q + 1]!))) := S1.out.swapped R (q + 1) (q) (by omega) (by omega)
          have lya := S1.out.ld1 R (by omega) P (q + 1) (by omega)
          have lyb := S1.out.ld1 R (by omega) P (q) (by omega)
          have sya := S1.out.st1 R (by omega) P (q + 1) (by omega) dk[q]!
          have syb := S1.out.st2 R (by omega) P (q + 1) (q) (by omega) (by omega) dk[q]! dk[q + 1]!
          have nya : (enc dk[q + 1]!).length = k := R.hk _
          have nyb : (enc dk[q]!).length = k := R.hk _
          generalize enc dk[q + 1]! = cIy at S3 lya syb nya
          generalize enc dk[q]! = cJy at S3 lyb sya syb nyb
          clear S1
          go_wp2_with fail
          go_big_region_o
          clear lya lyb sya syb
          generalize (wr.drew.setCells blk (off + (q + 1) * k) cJy).setCells blk (off + (q) * k) cIy = w3 at S3 ⊢
          clear eayi payi bayi rayi eayj payj bayj rayj
          go_wp2
          go_roundg (q - i)
          case measure => omega
          case rel => exact ⟨q, swp dk (q + 1) q, by first | rfl | go_num | (congr 1; omega), by omega, by omega, Nat.le_refl _, by rw [size_swp]; exact hds, S3, (HV.out.trans (via_swp dk (by omega) (by omega))).congr (fun u => down_step (by omega) u), HP.out.swp hds (by omega) (by omega) (by omega) (by omega)⟩
        · have htz : ¬ (t : Int) > (i : Int) := by omega
          have htz' : ¬ (i : Int) < (t : Int) := by omega
          obtain rfl : t = i := by omega
          go_wp2
          refine bodyPost_ret (results_none Try.results102 _ _ _) rfl ?_
          refine ⟨rfl, dk, S1.out, HP.out a b (Nat.le_refl _) (Nat.le_refl _) hb, ?_⟩
          have hbm := HBM.out
          subst hbm
          exact rot_one_right hS hmi hti HL.out HR.out HI.out HJ.out HV.out
end Go.Proofs.Ytoidgdbgpbcebaa.S
namespace Go.Proofs.Ytoidgdbgpbcebaa.S
open Go Go.Shelf Go.RowKit Go.Lib Go.Sort Go.Proofs
set_option linter.unusedVariables false

set_option maxHeartbeats 16000000 in
set_option maxRecDepth 1000000 in
theorem ins_k (P : Program) (k : Nat) (H : StP P k) (F : StF P) {α : Type} [Inhabited α] (enc : α → List Value) (cf : α → α → Int) (g : Nat) (cb : Array Value) (eg : ∀ args w, (callFunc g args).run P w = .ok (.enter g args) w) (blk off cap a b : Nat) (d0 d : Array α) (w0 w : World) (hcmp : CmpLays P g cb enc k cf blk off d0.size w0) (R : RowK enc k w0 blk off d0)
    (hs : d0.size = d.size) (S : SWK enc k w0 blk off d w) (hab : a ≤ b) (hb : b ≤ d.size) (hsz : d.size < 4611686018427387904) :
    Calls P 101 #[.slice (some ⟨blk, off, none⟩) d.size cap, .int .i64 a, .int .i64 b, .func (.func g) #[] cb] w fun e w' => e = .returned (.tuple #[]) ∧ SWK enc k w0 blk off (Sort.insertionSort (ltOf cf) d a b) w' := by
  have mixed := H.mixed; have t3 := H.t3; have a3 := H.a3; have z3 := H.z3; have v3 := H.v3; have t4 := H.t4; have a4 := H.a4; have z4 := H.z4; have v4 := H.v4; have t22 := H.t22; have a22 := H.a22; have z22 := H.z22; have v22 := H.v22; have t25 := H.t25; have a25 := H.a25; have z25 := H.z25; have v25 := H.v25; have tU := H.tU; have aU := H.aU; have zU := H.zU; have vU := H.vU; have aE := H.aE; have zE := H.zE
  have FG := F.fIns
  have HC : Aside _ := hcmp
  have S0 : Aside (SWK enc k w0 blk off d w) := S
  clear S hcmp
  go_enter FG, Try.ntmps101
  go_wp2
  go_loopg [8] (b - a) (fun g1 vi wr => ∃ (i : Nat) (dk : Array α), vi = .int .i64 i ∧ a < i ∧ i ≤ b + 1 ∧ b + 1 - i ≤ g1 + 1 ∧ dk.size = d.size ∧ Aside (SWK enc k w0 blk off dk wr) ∧ Hid (insOuter (ltOf cf) a b i dk = insOuter (ltOf cf) a b (a + 1) d))
  case atStart => exact ⟨a + 1, d, by go_num, by omega, by omega, by omega, rfl, S0, rfl⟩
  case round =>
    clear S0
    obtain ⟨i, dk, rfl, hai, hib, hg1, hsk, S1, HO⟩ := hrel
    by_cases hlt : i < b
    · have hltz : (i : Int) < (b : Int) := by omega
      go_wp2
      go_loopg [9] i (fun g2 vj wr2 => ∃ (j : Nat) (dj : Array α), vj = .int .i64 j ∧ a ≤ j ∧ j ≤ i ∧ j ≤ g2 ∧ dj.size = d.size ∧ Aside (SWK enc k w0 blk off dj wr2) ∧ Hid (insInner (ltOf cf) a j dj = insInner (ltOf cf) a i dk))
      case atStart => exact ⟨i, dk, rfl, by omega, Nat.le_refl _, Nat.le_refl _, hsk, S1, rfl⟩
      case round =>
        clear S1
        obtain ⟨j, dj, rfl, haj, hji, hg2, hsj, SJ, HI⟩ := hrel
        have OUT : Hid ((j ≤ a ∨ (ltOf cf) dj[j]! dj[j - 1]! = false) → insOuter (ltOf cf) a b (i + 1) dj = insOuter (ltOf cf) a b (a + 1) d) := fun hs => by
          rw [← HO.out, insOuter_go _ _ _ _ _ hlt, ← HI.out, insInner_stop _ _ _ _ hs]
        by_cases hja : a < j
        · obtain ⟨q, rfl⟩ : ∃ q, j = q + 1 := ⟨j - 1, by omega⟩
          have hjaz : (a : Int) < (q : Int) + 1 := by omega
          have hjad : decide ((q : Int) + 1 > (a : Int)) = true := decide_eq_true (by omega)
          have hqw : IntKind.i64.wrap (q : Int) = (q : Int) := by rw [IntKind.wrap_i64]; omega
          cases hl : (ltOf cf) dj[q + 1]! dj[q]! with
          | true =>
            have eaxi : ((q : Int) + 1).toNat = q + 1 := by omega
            have paxi : (0 : Int) ≤ (q : Int) + 1 := by omega
            have baxi : (q : Int) + 1 < (d.size : Int) := by omega
            have raxi : IntKind.i64.wrap ((q : Int) + 1) = (q : Int) + 1 := by rw [IntKind.wrap_i64]; omega
            have eaxj : ((q : Int)).toNat = q := by omega
            have paxj : (0 : Int) ≤ (q : Int) := by omega
            have baxj : (q : Int) < (d.size : Int) := by omega
            have raxj : IntKind.i64.wrap ((q : Int)) = (q : Int) := by rw [IntKind.wrap_i64]; omega
            obtain ⟨xx, hxx⟩ : ∃ x, x = dj[q + 1]! := ⟨_, rfl⟩
            obtain ⟨yx, hyx⟩ : ∃ x, x = dj[q]! := ⟨_, rfl⟩
            have lxa := SJ.out.ld R (by omega) P (q + 1) (by omega)
            have lxb := SJ.out.ld R (by omega) P (q) (by omega)
            rw [← hxx] at lxa
            rw [← hyx] at lxb
            have hcx := SJ.out.cmp HC.out (by omega) xx yx
            have hvx : cf xx yx < 0 := by rw [hxx, hyx]; exact of_decide_eq_true hl
            have hdx : decide (cf xx yx < 0) = true := decide_eq_true hvx
            have nax : (enc xx).length = k := R.hk _
            have nbx : (enc yx).length = k := R.hk _
            clear hxx hyx
            go_wp2_with fail
            go_quiet_grown (first | (go_at_fn g; refine Calls.grown_of (hcx _ _)))
            have S2 : Aside (SWK enc k w0 blk off dj (grow (wr.drewN nq) osq)) := SJ.out.grown nq osq
            clear lxa lxb hcx SJ
            generalize grow (wr.drewN nq) osq = w2 at S2 ⊢
            clear nq osq eaxi paxi baxi raxi eaxj paxj baxj raxj
            go_wp2_with fail
            have eayi : ((q : Int) + 1).toNat = q + 1 := by omega
            have payi : (0 : Int) ≤ (q : Int) + 1 := by omega
            have bayi : (q : Int) + 1 < (d.size : Int) := by omega
            have rayi : IntKind.i64.wrap ((q : Int) + 1) = (q : Int) + 1 := by rw [IntKind.wrap_i64]; omega
            have eayj : ((q : Int)).toNat = q := by omega
            have payj : (0 : Int) ≤ (q : Int) := by omega
            have bayj : (q : Int) < (d.size : Int) := by omega
            have rayj : IntKind.i64.wrap ((q : Int)) = (q : Int) := by rw [IntKind.wrap_i64]; omega
            have S3 : Aside (SWK enc k w0 blk off (swp dj (q + 1) (q)) ((w2.drew.setCells blk (off + (q + 1) * k) (enc dj[q]!)).setCells blk (off + (q) * k) (enc dj[q + 1]!))) := S2.out.swapped R (q + 1) (q) (by omega) (by omega)
            have lya := S2.out.ld1 R (by omega) P (q + 1) (by omega)
            have lyb := S2.out.ld1 R (by omega) P (q) (by omega)
            have sya := S2.out.st1 R (by omega) P (q + 1) (by omega) dj[q]!
            have syb := S2.out.st2 R (by omega) P (q + 1) (q) (by omega) (by omega) dj[q]! dj[q + 1]!
            have nya : (enc dj[q + 1]!).length = k := R.hk _
            have nyb : (enc dj[q]!).length = k := R.hk _
            generalize enc dj[q + 1]! = cIy at S3 lya syb nya
            generalize enc dj[q]! = cJy at S3 lyb sya syb nyb
            clear S2
            go_wp2_with fail
            go_big_region_o
            clear lya lyb sya syb
            generalize (w2.drew.setCells blk (off + (q + 1) * k) cJy).setCells blk (off + (q) * k) cIy = w3 at S3 ⊢
            clear eayi payi bayi rayi eayj payj bayj rayj
            go_wp2
            go_roundg q
            case measure => omega
            case rel => exact ⟨q, swp dj (q + 1) q, by first | rfl | go_num | (congr 1; omega), by omega, by omega, Nat.le_refl _, by rw [size_swp]; exact hsj, S3, (show Hid _ from by rw [← HI.out, insInner_go (ltOf cf) a (q + 1) dj hja hl]; exact rfl)⟩
          | false =>
            have eaxi : ((q : Int) + 1).toNat = q + 1 := by omega
            have paxi : (0 : Int) ≤ (q : Int) + 1 := by omega
            have baxi : (q : Int) + 1 < (d.size : Int) := by omega
            have raxi : IntKind.i64.wrap ((q : Int) + 1) = (q : Int) + 1 := by rw [IntKind.wrap_i64]; omega
            have eaxj : ((q : Int)).toNat = q := by omega
            have paxj : (0 : Int) ≤ (q : Int) := by omega
            have baxj : (q : Int) < (d.size : Int) := by omega
            have raxj : IntKind.i64.wrap ((q : Int)) = (q : Int) := by rw [IntKind.wrap_i64]; omega
            obtain ⟨xx, hxx⟩ : ∃ x, x = dj[q + 1]! := ⟨_, rfl⟩
            obtain ⟨yx, hyx⟩ : ∃ x, x = dj[q]! := ⟨_, rfl⟩
            have lxa := SJ.out.ld R (by omega) P (q + 1) (by omega)
            have lxb := SJ.out.ld R (by omega) P (q) (by omega)
            rw [← hxx] at lxa
            rw [← hyx] at lxb
            have hcx := SJ.out.cmp HC.out (by omega) xx yx
            have hvx : ¬ cf xx yx < 0 := by rw [hxx, hyx]; exact of_decide_eq_false hl
            have hdx : decide (cf xx yx < 0) = false := decide_eq_false hvx
            have nax : (enc xx).length = k := R.hk _
            have nbx : (enc yx).length = k := R.hk _
            clear hxx hyx
            go_wp2_with fail
            go_quiet_grown (first | (go_at_fn g; refine Calls.grown_of (hcx _ _)))
            have S2 : Aside (SWK enc k w0 blk off dj (grow (wr.drewN nq) osq)) := SJ.out.grown nq osq
            clear lxa lxb hcx SJ
            generalize grow (wr.drewN nq) osq = w2 at S2 ⊢
            clear nq osq eaxi paxi baxi raxi eaxj paxj baxj raxj
            go_wp2
            go_roundg (b - (i + 1))
            case measure => omega
            case rel => exact ⟨i + 1, dj, by go_num, by omega, by omega, by omega, hsj, S2, OUT.out (Or.inr hl)⟩
        · have hjaz : decide ((j : Int) > (a : Int)) = false := decide_eq_false (by omega)
          have hjaz' : ¬ (a : Int) < (j : Int) := by omega
          go_wp2_with fail
          go_big_region_o
          have S2 : Aside (SWK enc k w0 blk off dj wr.drew) := SJ.out.drew
          clear SJ
          generalize wr.drew = w2 at S2 ⊢
          go_wp2
          go_roundg (b - (i + 1))
          case measure => omega
          case rel => exact ⟨i + 1, dj, by go_num, by omega, by omega, by omega, hsj, S2, OUT.out (Or.inl (by omega))⟩
    · have hltz : ¬ (i : Int) < (b : Int) := by omega
      go_wp2
      go_end0
      exact ⟨rfl, by unfold Sort.insertionSort; rw [← HO.out, insOuter_stop _ _ _ _ _ hlt]; exact S1.out⟩
end Go.Proofs.Ytoidgdbgpbcebaa.S
