/-
  slices.swapRangeCmpFunc, at elements of one cell.
-/
import Derived.Test.YtnncalhpbfmgoaaStMath
import Derived.Test.YtnncalhpbfmgoaaChecked
import Derived.Shelf.SlSortCmp.Kit1
import Derived.Sort.WalkB2
import Derived.Sort.WalkB12
import Derived.Deep.LoopGhost
namespace Go.Proofs.Ytnncalhpbfmgoaa.S1
open Go Go.Shelf Go.RowKit Go.Lib Go.Sort Go.Proofs Go.Proofs.Ytnncalhpbfmgoaa.S
set_option linter.unusedVariables false

/-- What the sort's functions ask of a program: its types. -/
structure StP (P : Program) : Prop where
  mixed : P.follows .mixedOrders = true
  t3 : P.underlying 3 = some (TypeDesc.int IntKind.i64)
  a3 : ∀ w, (isAgg 3).run P w = .ok false w
  z3 : ∀ w, (Go.sizeOf 3).run P w = .ok 1 w
  v3 : ∀ w, (zeroValue 3).run P w = .ok (Value.int IntKind.i64 0) w
  t4 : P.underlying 4 = some (TypeDesc.bool)
  a4 : ∀ w, (isAgg 4).run P w = .ok false w
  z4 : ∀ w, (Go.sizeOf 4).run P w = .ok 1 w
  v4 : ∀ w, (zeroValue 4).run P w = .ok (Value.bool false) w
  t22 : P.underlying 27 = some (TypeDesc.slice 3)
  a22 : ∀ w, (isAgg 27).run P w = .ok false w
  z22 : ∀ w, (Go.sizeOf 27).run P w = .ok 1 w
  v22 : ∀ w, (zeroValue 27).run P w = .ok (Value.slice none 0 0) w
  t25 : P.underlying 66 = some (TypeDesc.func #[3, 3] #[3] false)
  a25 : ∀ w, (isAgg 66).run P w = .ok false w
  z25 : ∀ w, (Go.sizeOf 66).run P w = .ok 1 w
  v25 : ∀ w, (zeroValue 66).run P w = .ok (Value.nilFunc) w
  tU : P.underlying 81 = some (TypeDesc.int IntKind.u64)
  aU : ∀ w, (isAgg 81).run P w = .ok false w
  zU : ∀ w, (Go.sizeOf 81).run P w = .ok 1 w
  vU : ∀ w, (zeroValue 81).run P w = .ok (Value.int IntKind.u64 0) w
/-- All within a wider part is a permutation. -/
def Perms {α : Type} [Inhabited α] (a b : Nat) (d d' : Array α) : Prop := ∀ lo hi, lo ≤ a → b ≤ hi → hi ≤ d.size → PermIn lo hi d d'
theorem Perms.refl {α : Type} [Inhabited α] (a b : Nat) (d : Array α) : Perms a b d d := fun _ _ _ _ _ => permIn_refl _ _ _
theorem Perms.swp {α : Type} [Inhabited α] {a b i j : Nat} {d d' : Array α} (h : Perms a b d d') (hs : d'.size = d.size) (h1 : a ≤ i) (h2 : i < b) (h3 : a ≤ j) (h4 : j < b) : Perms a b d (swp d' i j) := fun lo hi e1 e2 e3 =>
  permIn_trans _ _ _ _ _ (h lo hi e1 e2 e3) (swp_permIn _ _ _ _ _ (by omega) (by omega) (by omega) (by omega) (by omega))
theorem Perms.trans {α : Type} [Inhabited α] {a b : Nat} {d d' d'' : Array α} (h : Perms a b d d') (hs : d'.size = d.size) (h2 : Perms a b d' d'') : Perms a b d d'' := fun lo hi e1 e2 e3 => permIn_trans _ _ _ _ _ (h lo hi e1 e2 e3) (h2 lo hi e1 e2 (by omega))
theorem Perms.wide {α : Type} [Inhabited α] {a b a' b' : Nat} {d d' : Array α} (h : Perms a b d d') (h1 : a' ≤ a) (h2 : b ≤ b') : Perms a' b' d d' := fun lo hi e1 e2 e3 => h lo hi (by omega) (by omega) e3
set_option maxHeartbeats 4000000 in
set_option maxRecDepth 1000000 in
theorem swapRange_k (P : Program) (H : StP P) (FG : P.funcs[76]? = some Try.f76) {α : Type} [Inhabited α] (enc : α → Value) (g : Nat) (cb : Array Value) (blk off cap a b n : Nat) (d0 d : Array α) (w0 w : World)
    (R : Row1 enc w0 blk off d0) (hs : d0.size = d.size) (S : SW enc w0 blk off d w) (hab : a + n ≤ b) (hb : b + n ≤ d.size) (hsz : d.size < 4611686018427387904) :
    Calls P 76 #[.slice (some ⟨blk, off, none⟩) d.size cap, .int .i64 a, .int .i64 b, .int .i64 n, .func (.func g) #[] cb] w fun e w' => e = .returned (.tuple #[]) ∧ ∃ d', SW enc w0 blk off d' w' ∧ Via (swR a b n) d d' ∧ Perms a (b + n) d d' := by
  have mixed := H.mixed; have t3 := H.t3; have a3 := H.a3; have z3 := H.z3; have v3 := H.v3; have t4 := H.t4; have a4 := H.a4; have z4 := H.z4; have v4 := H.v4; have t22 := H.t22; have a22 := H.a22; have z22 := H.z22; have v22 := H.v22; have t25 := H.t25; have a25 := H.a25; have z25 := H.z25; have v25 := H.v25; have tU := H.tU; have aU := H.aU; have zU := H.zU; have vU := H.vU; have u22 := run_underlying H.t22; have hcl0 := R.hO.cells; have hst := R.hO.store P
  simp only [Value.cells] at hcl0
  have S0 : Aside (SW enc w0 blk off d w) := S
  clear S
  go_enter FG, Try.ntmps76
  go_wp2
  go_loopg [10] n (fun kx s10 wr => ∃ (i : Nat) (dk : Array α), s10 = .int .i64 i ∧ i ≤ n ∧ n - i ≤ kx ∧ dk.size = d.size ∧ Aside (SW enc w0 blk off dk wr) ∧ Hid (Via (swR a b i) d dk) ∧ Hid (Perms a (b + n) d dk))
  case atStart => exact ⟨0, d, rfl, Nat.zero_le _, by omega, rfl, S0, (Via.id d).congr (fun t => (swR_zero a b t).symm), Perms.refl _ _ _⟩
  case round =>
    clear S0
    obtain ⟨i, dk, rfl, hi, hkx, hds, S1, HV, HP⟩ := hrel
    by_cases hlt : i < n
    · have hltz : (i : Int) < (n : Int) := by omega
      go_wp2_with fail
      obtain ⟨iNx, hiNx⟩ : ∃ q, q = a + i := ⟨_, rfl⟩
      obtain ⟨jNx, hjNx⟩ : ∃ q, q = b + i := ⟨_, rfl⟩
      have eaxi : ((a : Int) + (i : Int)).toNat = iNx := by omega
      have paxi : (0 : Int) ≤ (a : Int) + (i : Int) := by omega
      have baxi : (a : Int) + (i : Int) < (d.size : Int) := by omega
      have raxi : IntKind.i64.wrap ((a : Int) + (i : Int)) = (a : Int) + (i : Int) := by rw [IntKind.wrap_i64]; omega
      have eaxj : ((b : Int) + (i : Int)).toNat = jNx := by omega
      have paxj : (0 : Int) ≤ (b : Int) + (i : Int) := by omega
      have baxj : (b : Int) + (i : Int) < (d.size : Int) := by omega
      have raxj : IntKind.i64.wrap ((b : Int) + (i : Int)) = (b : Int) + (i : Int) := by rw [IntKind.wrap_i64]; omega
      obtain ⟨xx, hxx⟩ : ∃ x, x = dk[a + i]! := ⟨_, rfl⟩
      obtain ⟨yx, hyx⟩ : ∃ x, x = dk[b + i]! := ⟨_, rfl⟩
      have S2 : Aside (SW enc w0 blk off (swp dk (a + i) (b + i)) ((wr.setCell ⟨blk, off + iNx, none⟩ (enc yx)).setCell ⟨blk, off + jNx, none⟩ (enc xx)).drew) := by rw [hiNx, hjNx, hxx, hyx]; exact S1.out.swapped R (a + i) (b + i) (by omega) (by omega)
      have cxa := S1.out.c1 R (by omega) (a + i) (by omega)
      have cxb := S1.out.c1 R (by omega) (b + i) (by omega)
      have fxa := S1.out.f1 R (by omega) (a + i) (by omega)
      have fxb := S1.out.f1 R (by omega) (b + i) (by omega)
      obtain ⟨ux, cxc⟩ := S1.out.c2 R (by omega) (a + i) (b + i) (by omega) (by omega) (enc yx)
      rw [← hjNx, ← hiNx] at cxc
      rw [← hxx, ← hiNx] at cxa
      rw [← hyx, ← hjNx] at cxb
      rw [← hiNx] at fxa
      rw [← hjNx] at fxb
      clear S1 hxx hyx hiNx hjNx
      go_wp2_with fail
      go_big_region_o
      clear cxa cxb cxc fxa fxb
      generalize ((wr.setCell ⟨blk, off + iNx, none⟩ (enc yx)).setCell ⟨blk, off + jNx, none⟩ (enc xx)).drew = w2 at S2 ⊢
      clear eaxi paxi baxi raxi eaxj paxj baxj raxj
      go_wp2
      go_roundg (n - (i + 1))
      case measure => omega
      case rel => exact ⟨i + 1, swp dk (a + i) (b + i), by simp, by omega, Nat.le_refl _, by rw [size_swp]; exact hds, S2, (HV.out.trans (via_swp dk (by omega) (by omega))).congr (fun t => swR_step (by omega) t), HP.out.swp hds (by omega) (by omega) (by omega) (by omega)⟩
    · have hltz : ¬ (i : Int) < (n : Int) := by omega
      obtain rfl : i = n := by omega
      go_wp2
      go_end0
      exact ⟨rfl, dk, S1.out, HV.out, HP.out⟩
end Go.Proofs.Ytnncalhpbfmgoaa.S1
