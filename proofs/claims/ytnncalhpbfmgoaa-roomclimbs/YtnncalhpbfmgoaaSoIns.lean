/-
  slices.insertionSortCmpFunc, at elements of one cell.
-/
import Derived.Test.YtnncalhpbfmgoaaSoRot
namespace Go.Proofs.Ytnncalhpbfmgoaa.S1
open Go Go.Shelf Go.RowKit Go.Lib Go.Sort Go.Proofs Go.Proofs.Ytnncalhpbfmgoaa.S
set_option linter.unusedVariables false

set_option maxHeartbeats 16000000 in
set_option maxRecDepth 1000000 in
theorem ins_k (P : Program) (H : StP P) (F : StF P) {α : Type} [Inhabited α] (enc : α → Value) (cf : α → α → Int) (g : Nat) (cb : Array Value) (eg : ∀ args w, (callFunc g args).run P w = .ok (.enter g args) w) (blk off cap a b : Nat) (d0 d : Array α) (w0 w : World) (hcmp : CmpLays1 P g cb enc cf blk off d0.size w0) (R : Row1 enc w0 blk off d0)
    (hs : d0.size = d.size) (S : SW enc w0 blk off d w) (hab : a ≤ b) (hb : b ≤ d.size) (hsz : d.size < 4611686018427387904) :
    Calls P 67 #[.slice (some ⟨blk, off, none⟩) d.size cap, .int .i64 a, .int .i64 b, .func (.func g) #[] cb] w fun e w' => e = .returned (.tuple #[]) ∧ SW enc w0 blk off (Sort.insertionSort (ltOf cf) d a b) w' := by
  have mixed := H.mixed; have t3 := H.t3; have a3 := H.a3; have z3 := H.z3; have v3 := H.v3; have t4 := H.t4; have a4 := H.a4; have z4 := H.z4; have v4 := H.v4; have t22 := H.t22; have a22 := H.a22; have z22 := H.z22; have v22 := H.v22; have t25 := H.t25; have a25 := H.a25; have z25 := H.z25; have v25 := H.v25; have tU := H.tU; have aU := H.aU; have zU := H.zU; have vU := H.vU; have u22 := run_underlying H.t22; have hcl0 := R.hO.cells; have hst := R.hO.store P
  simp only [Value.cells] at hcl0
  have FG := F.fIns
  have HC : Aside _ := hcmp
  have S0 : Aside (SW enc w0 blk off d w) := S
  clear S hcmp
  go_enter FG, Try.ntmps67
  go_wp2
  go_loopg [8] (b - a) (fun g1 vi wr => ∃ (i : Nat) (dk : Array α), vi = .int .i64 i ∧ a < i ∧ i ≤ b + 1 ∧ b + 1 - i ≤ g1 + 1 ∧ dk.size = d.size ∧ Aside (SW enc w0 blk off dk wr) ∧ Hid (insOuter (ltOf cf) a b i dk = insOuter (ltOf cf) a b (a + 1) d))
  case atStart => exact ⟨a + 1, d, by go_num, by omega, by omega, by omega, rfl, S0, rfl⟩
  case round =>
    clear S0
    obtain ⟨i, dk, rfl, hai, hib, hg1, hsk, S1, HO⟩ := hrel
    by_cases hlt : i < b
    · have hltz : (i : Int) < (b : Int) := by omega
      go_wp2
      go_loopg [9] i (fun g2 vj wr2 => ∃ (j : Nat) (dj : Array α), vj = .int .i64 j ∧ a ≤ j ∧ j ≤ i ∧ j ≤ g2 ∧ dj.size = d.size ∧ Aside (SW enc w0 blk off dj wr2) ∧ Hid (insInner (ltOf cf) a j dj = insInner (ltOf cf) a i dk))
      case atStart => exact ⟨i, dk, rfl, by omega, Nat.le_refl _, Nat.le_refl _, hsk, S1, rfl⟩
      case round =>
        clear S1
        obtain ⟨j, dj, rfl, haj, hji, hg2, hsj, SJ, HI⟩ := hrel
        have OUT : Hid ((j ≤ a ∨ (ltOf cf) dj[j]! dj[j - 1]! = false) → insOuter (ltOf cf) a b (i + 1) dj = insOuter (ltOf cf) a b (a + 1) d) := fun hs => by
          rw [← HO.out, insOuter_go _ _ _ _ _ hlt, ← HI.out, insInner_stop _ _ _ _ hs]
        by_cases hja : a < j
        · obtain ⟨q, rfl⟩ : ∃ q, j = q + 1 := ⟨j - 1, by omega⟩
          have hjaz : (a : Int) < (q : Int) + 1 := by omega
          have hjad : decide ((q : Int) + 1 > (a : Int)) = true := decide_eq_true (by omega)
          have hqw : IntKind.i64.wrap (q : Int) = (q : Int) := by rw [IntKind.wrap_i64]; omega
          cases hl : (ltOf cf) dj[q + 1]! dj[q]! with
          | true =>
            obtain ⟨iNx, hiNx⟩ : ∃ zz, zz = q + 1 := ⟨_, rfl⟩
            obtain ⟨jNx, hjNx⟩ : ∃ zz, zz = q := ⟨_, rfl⟩
            have eaxi : ((q : Int) + 1).toNat = iNx := by omega
            have paxi : (0 : Int) ≤ (q : Int) + 1 := by omega
            have baxi : (q : Int) + 1 < (d.size : Int) := by omega
            have raxi : IntKind.i64.wrap ((q : Int) + 1) = (q : Int) + 1 := by rw [IntKind.wrap_i64]; omega
            have eaxj : ((q : Int)).toNat = jNx := by omega
            have paxj : (0 : Int) ≤ (q : Int) := by omega
            have baxj : (q : Int) < (d.size : Int) := by omega
            have raxj : IntKind.i64.wrap ((q : Int)) = (q : Int) := by rw [IntKind.wrap_i64]; omega
            obtain ⟨xx, hxx⟩ : ∃ zx, zx = dj[q + 1]! := ⟨_, rfl⟩
            obtain ⟨yx, hyx⟩ : ∃ zx, zx = dj[q]! := ⟨_, rfl⟩
            have lxa : ∀ (n : Nat) (os : Array Obj), (grow (wr.drewN n) os).cell? ⟨blk, off + iNx, none⟩ = some (enc xx) := by rw [hiNx, hxx]; exact SJ.out.cl R (by omega) (q + 1) (by omega)
            have lxb : ∀ (n : Nat) (os : Array Obj), (grow (wr.drewN n) os).cell? ⟨blk, off + jNx, none⟩ = some (enc yx) := by rw [hjNx, hyx]; exact SJ.out.cl R (by omega) (q) (by omega)
            have hcx := SJ.out.cmp HC.out (by omega) xx yx
            have hvx : cf xx yx < 0 := by rw [hxx, hyx]; exact of_decide_eq_true hl
            have hdx : decide (cf xx yx < 0) = true := decide_eq_true hvx
            clear hxx hyx hiNx hjNx
            go_wp2_with fail
            go_quiet_grown (first | (go_at_fn g; refine Calls.grown_of (hcx _ _)))
            have S2 : Aside (SW enc w0 blk off dj (grow (wr.drewN nq) osq)) := SJ.out.grown nq osq
            clear lxa lxb hcx SJ
            generalize grow (wr.drewN nq) osq = w2 at S2 ⊢
            clear nq osq eaxi paxi baxi raxi eaxj paxj baxj raxj
            go_wp2_with fail
            obtain ⟨iNy, hiNy⟩ : ∃ zz, zz = q + 1 := ⟨_, rfl⟩
            obtain ⟨jNy, hjNy⟩ : ∃ zz, zz = q := ⟨_, rfl⟩
            have eayi : ((q : Int) + 1).toNat = iNy := by omega
            have payi : (0 : Int) ≤ (q : Int) + 1 := by omega
            have bayi : (q : Int) + 1 < (d.size : Int) := by omega
            have rayi : IntKind.i64.wrap ((q : Int) + 1) = (q : Int) + 1 := by rw [IntKind.wrap_i64]; omega
            have eayj : ((q : Int)).toNat = jNy := by omega
            have payj : (0 : Int) ≤ (q : Int) := by omega
            have bayj : (q : Int) < (d.size : Int) := by omega
            have rayj : IntKind.i64.wrap ((q : Int)) = (q : Int) := by rw [IntKind.wrap_i64]; omega
            obtain ⟨xy, hxy⟩ : ∃ zx, zx = dj[q + 1]! := ⟨_, rfl⟩
            obtain ⟨yy, hyy⟩ : ∃ zx, zx = dj[q]! := ⟨_, rfl⟩
            have S3 : Aside (SW enc w0 blk off (swp dj (q + 1) (q)) ((w2.setCell ⟨blk, off + iNy, none⟩ (enc yy)).setCell ⟨blk, off + jNy, none⟩ (enc xy)).drew) := by rw [hiNy, hjNy, hxy, hyy]; exact S2.out.swapped R (q + 1) (q) (by omega) (by omega)
            have cya : w2.cell? ⟨blk, off + iNy, none⟩ = some (enc xy) := by rw [hiNy, hxy]; exact S2.out.c1 R (by omega) (q + 1) (by omega)
            have cyb : w2.cell? ⟨blk, off + jNy, none⟩ = some (enc yy) := by rw [hjNy, hyy]; exact S2.out.c1 R (by omega) (q) (by omega)
            have fya : w2.frozen? ⟨blk, off + iNy, none⟩ = false := by rw [hiNy]; exact S2.out.f1 R (by omega) (q + 1) (by omega)
            have fyb : w2.frozen? ⟨blk, off + jNy, none⟩ = false := by rw [hjNy]; exact S2.out.f1 R (by omega) (q) (by omega)
            obtain ⟨uy, cyc⟩ : ∃ u, (w2.setCell ⟨blk, off + iNy, none⟩ (enc yy)).cell? ⟨blk, off + jNy, none⟩ = some u := by rw [hiNy, hjNy]; exact S2.out.c2 R (by omega) (q + 1) (q) (by omega) (by omega) (enc yy)
            clear S2 hxy hyy hiNy hjNy
            go_wp2_with fail
            go_big_region_o
            clear cya cyb cyc fya fyb
            generalize ((w2.setCell ⟨blk, off + iNy, none⟩ (enc yy)).setCell ⟨blk, off + jNy, none⟩ (enc xy)).drew = w3 at S3 ⊢
            clear eayi payi bayi rayi eayj payj bayj rayj
            go_wp2
            go_roundg q
            case measure => omega
            case rel => exact ⟨q, swp dj (q + 1) q, by first | rfl | go_num | (congr 1; omega), by omega, by omega, Nat.le_refl _, by rw [size_swp]; exact hsj, S3, (show Hid _ from by rw [← HI.out, insInner_go (ltOf cf) a (q + 1) dj hja hl]; exact rfl)⟩
          | false =>
            obtain ⟨iNx, hiNx⟩ : ∃ zz, zz = q + 1 := ⟨_, rfl⟩
            obtain ⟨jNx, hjNx⟩ : ∃ zz, zz = q := ⟨_, rfl⟩
            have eaxi : ((q : Int) + 1).toNat = iNx := by omega
            have paxi : (0 : Int) ≤ (q : Int) + 1 := by omega
            have baxi : (q : Int) + 1 < (d.size : Int) := by omega
            have raxi : IntKind.i64.wrap ((q : Int) + 1) = (q : Int) + 1 := by rw [IntKind.wrap_i64]; omega
            have eaxj : ((q : Int)).toNat = jNx := by omega
            have paxj : (0 : Int) ≤ (q : Int) := by omega
            have baxj : (q : Int) < (d.size : Int) := by omega
            have raxj : IntKind.i64.wrap ((q : Int)) = (q : Int) := by rw [IntKind.wrap_i64]; omega
            obtain ⟨xx, hxx⟩ : ∃ zx, zx = dj[q + 1]! := ⟨_, rfl⟩
            obtain ⟨yx, hyx⟩ : ∃ zx, zx = dj[q]! := ⟨_, rfl⟩
            have lxa : ∀ (n : Nat) (os : Array Obj), (grow (wr.drewN n) os).cell? ⟨blk, off + iNx, none⟩ = some (enc xx) := by rw [hiNx, hxx]; exact SJ.out.cl R (by omega) (q + 1) (by omega)
            have lxb : ∀ (n : Nat) (os : Array Obj), (grow (wr.drewN n) os).cell? ⟨blk, off + jNx, none⟩ = some (enc yx) := by rw [hjNx, hyx]; exact SJ.out.cl R (by omega) (q) (by omega)
            have hcx := SJ.out.cmp HC.out (by omega) xx yx
            have hvx : ¬ cf xx yx < 0 := by rw [hxx, hyx]; exact of_decide_eq_false hl
            have hdx : decide (cf xx yx < 0) = false := decide_eq_false hvx
            clear hxx hyx hiNx hjNx
            go_wp2_with fail
            go_quiet_grown (first | (go_at_fn g; refine Calls.grown_of (hcx _ _)))
            have S2 : Aside (SW enc w0 blk off dj (grow (wr.drewN nq) osq)) := SJ.out.grown nq osq
            clear lxa lxb hcx SJ
            generalize grow (wr.drewN nq) osq = w2 at S2 ⊢
            clear nq osq eaxi paxi baxi raxi eaxj paxj baxj raxj
            go_wp2
            go_roundg (b - (i + 1))
            case measure => omega
            case rel => exact ⟨i + 1, dj, by go_num, by omega, by omega, by omega, hsj, S2, OUT.out (Or.inr hl)⟩
        · have hjaz : decide ((j : Int) > (a : Int)) = false := decide_eq_false (by omega)
          have hjaz' : ¬ (a : Int) < (j : Int) := by omega
          go_wp2_with fail
          go_big_region_o
          have S2 : Aside (SW enc w0 blk off dj wr.drew) := SJ.out.drew
          clear SJ
          generalize wr.drew = w2 at S2 ⊢
          go_wp2
          go_roundg (b - (i + 1))
          case measure => omega
          case rel => exact ⟨i + 1, dj, by go_num, by omega, by omega, by omega, hsj, S2, OUT.out (Or.inl (by omega))⟩
    · have hltz : ¬ (i : Int) < (b : Int) := by omega
      go_wp2
      go_end0
      exact ⟨rfl, by unfold Sort.insertionSort; rw [← HO.out, insOuter_stop _ _ _ _ _ hlt]; exact S1.out⟩
end Go.Proofs.Ytnncalhpbfmgoaa.S1
