/-
  Contract: array.join. What the law ArrayLinear needs besides: append onto one array, one0, linear. A list made in a drawn region: the fact, and append onto an empty list.
-/
import Derived.Test.YteoobeldmicjhaaGreatPCKArrayCuts43
import Derived.ArgAppend
import Derived.Laws.AppendOwnNone
namespace Go.Proofs.YteoobeldmicjhaaGreat.V
set_option maxRecDepth 20000
open Go.RowKit

set_option maxRecDepth 100000 in
set_option maxHeartbeats 4000000 in
theorem join_any (g N p B Wd fr Kt : Nat) (bz oz nz cz : Nat) (L : List Int) (b off m cap : Nat) (v : Nat → ArrV) (X : Nat → List Int) (K : Nat → Nat) (w : World)
    (hZ : Ints w (some ⟨bz, oz, none⟩) nz L) (hzc : nz ≤ cz) (hp : p < nz) (hn6 : nz ≤ 6) (hB : prod (L.drop (p + 1)) = (B : Int)) (hcnt : ∀ k, k ≤ (L.drop (p + 1)).length → 0 ≤ prod ((L.drop (p + 1)).take k) ∧ prod ((L.drop (p + 1)).take k) ≤ 9223372036854775807) (hKt : L[p]?.getD 0 = (Kt : Int)) (hWd : Wd = Kt * B)
    (hv : ∀ s, s < m → (w.cell? ⟨b, off + s * 2, none⟩ = some (v s).d ∧ w.cell? ⟨b, off + s * 2 + 1, none⟩ = some (v s).x) ∧ (Ints w (v s).da (v s).dl (v s).ds ∧ p < (v s).dl ∧ (v s).ds[p]?.getD 0 = (K s : Int) ∧ OffG g (v s).da) ∧ Ints w (v s).xa (v s).xl (X s) ∧ (v s).xl ≤ (v s).xc ∧ (v s).xl = fr * (K s * B) ∧ (0 < (v s).xl → OffG g (v s).xa))
    (hbeg : beg (fun s => K s * B) m = Wd) (hN : N = fr * Wd) (hpos : 0 < N) (h6 : N ≤ 65536) (hm : m ≤ 1048576) (hbg : b ≠ g) (hrow : w.rowIs g 2 N (fun _ => .int .i64 0)) :
    Calls Tryz.prog 45 #[.agg #[.slice (some ⟨bz, oz, none⟩) nz cz, .slice (some ⟨g, 0, none⟩) N N], .int .i64 (p : Int), .slice (some ⟨b, off, none⟩) m cap] w fun e w' => e = .returned (.tuple #[]) ∧ w'.rowIs g 2 N (fun j => .int .i64 (jF X (fun s => K s * B) m (j / Wd) (j % Wd))) ∧ Save g w w' := by
  have hgl : g < w.heap.size := hrow.lt
  have HB1 := hide ((Below.refl w.heap.size w).alloc (Nat.le_refl _) (.cells #[.slice (some ⟨bz, oz, none⟩) nz cz, .slice (some ⟨g, 0, none⟩) N N] 25))
  have HAR := hide (ArrAt.new w (.slice (some ⟨bz, oz, none⟩) nz cz) (.slice (some ⟨g, 0, none⟩) N N))
  have HZ := hide hZ
  have HV := hide hv
  have HBG := hide hbeg
  have HN := hide hN
  have HR := hide hrow
  have HCN := hide hcnt
  have HBB := hide hB
  have HKT := hide hKt
  have HWD := hide hWd
  have hW0 : 0 < Wd := Nat.pos_of_ne_zero (fun e => by rw [hN, e, Nat.mul_zero] at hpos; omega)
  have hf0 : 0 < fr := Nat.pos_of_ne_zero (fun e => by rw [hN, e, Nat.zero_mul] at hpos; omega)
  have hW6 : Wd ≤ 65536 := Nat.le_trans (by rw [hN]; exact Nat.le_mul_of_pos_left _ hf0) h6
  have hB6 : B ≤ 65536 := Nat.le_trans (by rw [hWd]; exact Nat.le_mul_of_pos_left _ (Nat.pos_of_ne_zero (fun e => by rw [hWd, e, Nat.zero_mul] at hW0; omega))) hW6
  have hK6 : Kt ≤ 65536 := Nat.le_trans (by rw [hWd]; exact Nat.le_mul_of_pos_right _ (Nat.pos_of_ne_zero (fun e => by rw [hWd, e, Nat.mul_zero] at hW0; omega))) hW6
  obtain ⟨_, _, hze, _, hzcell⟩ := hZ.at (by omega)
  cases hze
  have hz0 := hzcell p hp
  rw [hKt] at hz0
  have HZ0 := hide hz0
  have HSL := hide (ints_sub hZ (p + 1) (nz - (p + 1)) (by omega))
  have w1 : IntKind.i64.wrap ((Kt : Int) * (B : Int)) = (Wd : Int) := by rw [hWd, ← Int.natCast_mul, wrap_in _ (by rw [← hWd]; omega) (by rw [← hWd]; omega)]
  have hdrop : sub L (p + 1) (nz - (p + 1)) = L.drop (p + 1) := by unfold sub; rw [List.take_of_length_le]; rw [List.length_drop, hZ.1]; exact Nat.le_refl _
  rw [hdrop] at HSL
  obtain ⟨W1, hW1⟩ : ∃ W1, W1 = w.alloc (.cells #[.slice (some ⟨bz, oz, none⟩) nz cz, .slice (some ⟨g, 0, none⟩) N N] 25) := ⟨_, rfl⟩
  rw [← hW1] at HB1 HAR
  have HW1 := hide hW1
  have hs1 : W1.heap.size = w.heap.size + 1 := by rw [hW1]; simp
  obtain ⟨⟨r0, r1⟩, _⟩ := HAR.out.cells
  have z0 := (HB1.out.cell (p := ⟨bz, oz + p, none⟩) (lt_of_cell hz0)).trans hz0
  clear hZ hv hbeg hN hrow hcnt hB hKt hWd hzcell hz0 hdrop hW1
  go_enter Tryz.func45, Tryz.ntmps45
  refine wp_seq_k (fun K0 hK0 => ?_)
  go_cut [3] (fun v wc => v = .pointer (some ⟨w.heap.size, 0, none⟩) ∧ wc = W1)
  case first =>
    go_wp2
    go_meet
    exact ⟨rfl, HW1.out.symm⟩
  case rest =>
    obtain ⟨rfl, hwc⟩ := hcut
    obtain rfl := hwc.symm
    refine hK0 _ _ ?_
    clear hK0 K0
    refine wp_seq_k (fun K1 hK1 => ?_)
    obtain ⟨P1, hP1⟩ : ∃ P1, P1 = p + 1 := ⟨_, rfl⟩
    have HP1 := hide hP1
    rw [← hP1] at HSL HCN HBB
    have w0 : IntKind.i64.wrap ((p : Int) + 1) = (P1 : Int) := by rw [wrap_in _ (by omega) (by omega), hP1]; omega
    have k1 : (P1 : Int) ≤ (nz : Int) := by omega
    have k2 : (P1 : Int) ≤ (cz : Int) := by omega
    have k3 : (0 : Int) ≤ (P1 : Int) := by omega
    have n1 : P1 ≤ nz := by omega
    have n2 : P1 ≤ cz := by omega
    clear hP1
    go_cut [6] (fun v wc => v = .int .i64 (B : Int) ∧ wc = W1)
    case first =>
      by_cases hcz : cz = P1
      · have hnp : nz - P1 = 0 := by omega
        have HS0 : Hid (Ints W1 (some ⟨bz, oz, none⟩) 0 (L.drop P1)) := by have h := HSL.out.below HB1.out; rw [hnp] at h; exact ⟨h.1, by omega, h.2.2.1, .inl rfl⟩
        subst hcz
        go_wp2_with (go_at_call 23; refine (count_any _ _ _ (L.drop cz) _ HS0.out HCN.out).mono ?_; rintro e w' ⟨rfl, hw'⟩; obtain rfl := hw'.symm; rw [HBB.out])
        go_meet
        exact ⟨rfl, rfl⟩
      · go_wp2_with (go_at_call 23; refine (count_any _ _ _ (L.drop P1) _ (HSL.out.below HB1.out) HCN.out).mono ?_; rintro e w' ⟨rfl, hw'⟩; obtain rfl := hw'.symm; rw [HBB.out])
        go_meet
        exact ⟨rfl, rfl⟩
    case rest =>
      obtain ⟨rfl, hwc⟩ := hcut
      obtain rfl := hwc.symm
      refine hK1 _ _ ?_
      clear hK1 K1 k1 k2 k3 n1 n2 w0 HSL HCN
      have i1 : (0 : Int) ≤ (p : Int) := Int.natCast_nonneg _
      have i2 : (p : Int) < (nz : Int) := by omega
      go_wp2
      go_loopw [8, 29] (fun bv i wr => ∃ s : Nat, s ≤ m ∧ i = .int .i64 s ∧ bv = .int .i64 ((beg (fun s => K s * B) s : Nat) : Int) ∧ wr.rowIs g 2 N (fun j => .int .i64 ((jL X (fun s => K s * B) Wd N s 0)[j]?.getD 0)) ∧ Save g W1 wr) (fun _ i _ => m - (intOf i).toNat)
      case atStart => exact ⟨0, Nat.zero_le _, rfl, rfl, (HR.out.of_block (HB1.out.block g hgl)).congr (fun j hj => by rw [jL_zero _ _ _ _ _ _ hj, jF]), ⟨fun _ _ _ => rfl, Below.refl _ _⟩⟩
      case round =>
        obtain ⟨s, hs, rfl, rfl, hrow, hsv⟩ := hrel
        have HRW := hide hrow
        have HSV := hide hsv
        have hsz := hsv.2.size
        have HAR2 : Hid (ArrAt wr w.heap.size _ _) := (hsv.1 w.heap.size (by omega) (by omega)).trans HAR.out
        clear hrow hsv r0 r1 z0
        by_cases hlt : s < m
        · obtain ⟨⟨c0, c1⟩, ⟨hdi, hpd, hKs, hod⟩, hxi, hxc, hxl, hox⟩ := HV.out s hlt
          obtain ⟨⟨da, dl, dc, ds, xa, xl, xc⟩, hvs⟩ : ∃ u, u = v s := ⟨_, rfl⟩
          rw [← hvs] at c0 c1 hdi hpd hKs hod hxi hxc hxl hox
          simp only [ArrV.d, ArrV.x] at c0 c1 hdi hpd hKs hod hxi hxc hxl hox
          have hbl := lt_of_cell c0
          simp only at hbl
          have s0 : wr.cell? ⟨b, off + s * 2, none⟩ = some (.slice da dl dc) := (World.cell?_of_block (w := W1) (HSV.out.1 b (by omega) hbg)).trans ((HB1.out.cell (p := ⟨b, off + s * 2, none⟩) hbl).trans c0)
          have s1 : wr.cell? ⟨b, off + s * 2 + 1, none⟩ = some (.slice xa xl xc) := (World.cell?_of_block (w := W1) (HSV.out.1 b (by omega) hbg)).trans ((HB1.out.cell (p := ⟨b, off + s * 2 + 1, none⟩) hbl).trans c1)
          have HDI := hide (ints_off hdi HB1.out HSV.out (fun _ => hod))
          have HXI := hide (ints_off hxi HB1.out HSV.out hox)
          obtain ⟨bd, od, rfl, _, hcd⟩ := HDI.out.at (by omega)
          have d0 := hcd p hpd
          rw [hKs] at d0
          have hdlm := HDI.out.2.1
          obtain ⟨lgs, hlgs⟩ : ∃ lgs, lgs = K s * B := ⟨_, rfl⟩
          have HLG := hide hlgs
          rw [← hlgs] at hxl
          have hb1 : beg (fun s => K s * B) s + lgs ≤ Wd := by rw [← HBG.out, hlgs]; exact beg_mono (fun s => K s * B) (s := s + 1) hlt
          have w2 : IntKind.i64.wrap ((K s : Int) * (B : Int)) = (lgs : Int) := by rw [hlgs, ← Int.natCast_mul, wrap_in _ (by omega) (by rw [← hlgs]; omega)]
          obtain ⟨BS, hBS⟩ : ∃ BS, BS = beg (fun s => K s * B) s := ⟨_, rfl⟩
          have HBS := hide hBS
          rw [← hBS] at hb1 ⊢
          have w3 : IntKind.i64.wrap ((BS : Int) + (lgs : Int)) = ((BS + lgs : Nat) : Int) := by rw [wrap_in _ (by omega) (by omega)]; omega
          have hxl6 : xl ≤ 65536 := by rw [hxl]; refine Nat.le_trans (Nat.mul_le_mul_left fr (show lgs ≤ Wd by omega)) ?_; rw [← HN.out]; exact h6
          have HXL := hide hxl
          have HOX := hide hox
          have i3 : (0 : Int) ≤ (s : Int) := Int.natCast_nonneg _
          have i4 : (s : Int) < (m : Int) := by omega
          have i5 : (p : Int) < (dl : Int) := by omega
          have HD0 := hide d0
          have HCD := hide hcd
          have hal := HAR2.out.lt
          have d0a := alloc_cell (o := .cells #[.slice (some ⟨bd, od, none⟩) dl dc, .slice xa xl xc] 25) d0
          have HNB := hide (ArrAt.new wr (.slice (some ⟨bd, od, none⟩) dl dc) (.slice xa xl xc))
          obtain ⟨⟨e0, e1⟩, _⟩ := HNB.out.cells
          clear hdi hKs hod hxi hox hvs c0 c1 hcd hlgs hBS hxl
          go_wp2
          obtain ⟨W2, hW2⟩ : ∃ W2, W2 = (wr.alloc (.cells #[.slice (some ⟨bd, od, none⟩) dl dc, .slice xa xl xc] 25)) := ⟨_, rfl⟩
          have hs2 : W2.heap.size = wr.heap.size + 1 := by rw [hW2]; simp
          rw [← hW2] at HNB e0 e1 d0a ⊢
          have hab : Below wr.heap.size wr W2 := by rw [hW2]; exact (Below.refl _ _).alloc (Nat.le_refl _) _
          have hgB := HRW.out.lt
          obtain ⟨BK, hBK0⟩ : ∃ BK, BK = wr.heap.size := ⟨_, rfl⟩
          have hBK := hBK0.symm
          rw [hBK] at HNB e0 e1 hab hs2 hsz hgB ⊢
          clear hBK0
          have HAB := hide hab
          clear hW2 s0 s1 d0 hab d0a
          go_loopw [12, 13] (fun fv tv wr => ∃ t : Nat, t ≤ fr ∧ fv = .int .i64 ((t * lgs : Nat) : Int) ∧ tv = .int .i64 ((BS + t * Wd : Nat) : Int) ∧ wr.rowIs g 2 N (fun j => .int .i64 ((jL X (fun s => K s * B) Wd N s t)[j]?.getD 0)) ∧ Save g W2 wr) (fun fv _ _ => xl - (intOf fv).toNat)
          case atStart => exact ⟨0, Nat.zero_le _, by simp, by simp, HRW.out.of_block (HAB.out.block g hgB), ⟨fun _ _ _ => rfl, Below.refl _ _⟩⟩
          case round =>
            obtain ⟨t, ht, rfl, rfl, hrow2, hsv2⟩ := hrel
            have HR2 := hide hrow2
            have HS2 := hide hsv2
            have hgl2 := hrow2.lt
            have hsz2 := hsv2.2.size
            have HA3 : Hid (ArrAt wr w.heap.size _ _) := (hsv2.1 w.heap.size (by omega) (by omega)).trans ((HAB.out.block _ (by omega)).trans HAR2.out)
            have HN3 : Hid (ArrAt wr BK _ _) := (hsv2.1 BK (by omega) (by omega)).trans HNB.out
            obtain ⟨⟨r0, r1⟩, _⟩ := HA3.out.cells
            obtain ⟨⟨e0, e1⟩, _⟩ := HN3.out.cells
            clear hrow2 hsv2
            obtain ⟨FR, hFR⟩ : ∃ FR, FR = t * lgs := ⟨_, rfl⟩
            obtain ⟨TO, hTO⟩ : ∃ TO, TO = BS + t * Wd := ⟨_, rfl⟩
            rw [← hFR, ← hTO]
            have HFR := hide hFR
            have HTO := hide hTO
            by_cases hlt2 : FR < xl
            · have htf : t < fr := by
                have h1 : t * lgs < fr * lgs := by rw [← hFR, ← HXL.out]; exact hlt2
                exact Nat.lt_of_mul_lt_mul_right h1
              have hfl : FR + lgs ≤ xl := by rw [hFR, HXL.out]; have h1 : (t + 1) * lgs ≤ fr * lgs := Nat.mul_le_mul_right _ htf; rw [Nat.add_mul, Nat.one_mul] at h1; exact h1
              have htw : t * Wd + Wd ≤ N := by rw [HN.out]; have h1 : (t + 1) * Wd ≤ fr * Wd := Nat.mul_le_mul_right _ htf; rw [Nat.add_mul, Nat.one_mul] at h1; exact h1
              have hTn : TO + lgs ≤ N := by omega
              have HTW := hide htw
              clear hFR hTO
              have hg0 : 0 < lgs := Nat.pos_of_ne_zero (fun e => by rw [HXL.out, e, Nat.mul_zero] at hlt2; omega)
              have HX3 := hide (ints_off HXI.out (hBK ▸ HAB.out) HS2.out (fun h => HOX.out h))
              obtain ⟨bx, ox, hxa, _, _⟩ := HX3.out.at (by omega)
              have HX4 : Hid (Ints wr (some ⟨bx, ox, none⟩) xl (X s)) := by rw [← hxa]; exact HX3.out
              have HXA := hide hxa
              clear hxa
              have j1 : (TO : Int) ≤ (N : Int) := by omega
              have j2 : (FR : Int) ≤ (FR : Int) + (lgs : Int) := by omega
              have j3 : (FR : Int) + (lgs : Int) ≤ (xc : Int) := by omega
              have j4 : (0 : Int) ≤ (TO : Int) := Int.natCast_nonneg _
              have j5 : (0 : Int) ≤ (FR : Int) := Int.natCast_nonneg _
              have j8 : IntKind.i64.wrap ((FR : Int) + (lgs : Int)) = (FR : Int) + (lgs : Int) := by rw [wrap_in _ (by omega) (by omega)]
              have j9 : ((FR : Int) + (lgs : Int)).toNat - FR = lgs := by omega
              have j6 : ¬ N = TO := by omega
              have j7 : ¬ xc = FR := by omega
              have j10 : IntKind.i64.wrap ((TO : Int) + (Wd : Int)) = ((TO + Wd : Nat) : Int) := by rw [wrap_in _ (by omega) (by omega)]; omega
              have j11 : (FR : Int) < (xl : Int) := by omega
              go_wp2_with fail
              refine region_made 11 13 [fIs (.pointer (some ⟨w.heap.size, 1, none⟩)), fIs (.slice (some ⟨g, 0, none⟩) N N), fIs (.int .i64 (TO : Int)), fIs (.slice (some ⟨g, TO, none⟩) (N - TO) (N - TO)), fIs (.pointer (some ⟨BK, 1, none⟩)), fIs (.slice xa xl xc), fIs (.int .i64 (FR : Int)), fIs (.int .i64 (FR : Int)), fIs (.int .i64 (lgs : Int)), fIs (.int .i64 ((FR : Int) + (lgs : Int))), fIs (.slice (some ⟨bx, ox + FR, none⟩) lgs (xc - FR))] (by kernel_rfl) (by kernel_rfl) (by kernel_rfl) ?hQ ⟨fIs_good _, fIs_good _, fIs_good _, fIs_good _, fIs_good _, fIs_good _, fIs_good _, fIs_good _, fIs_good _, fIs_good _, fIs_good _, trivial⟩ ?mk ?rest
              case hQ =>
                intro ch a a2 w2 e h
                have h2 : a2 = { a with tmps := a2.tmps } := by cases a2; cases a; simp only at e ⊢; rw [e]
                rw [h2]
                exact h
              case mk =>
                refine ⟨fun u wz hb hd => ?_, fun u wz hb hd => ?_, fun u wz hb hd => ?_, fun u wz hb hd => ?_, fun u wz hb hd => ?_, fun u wz hb hd => ?_, fun u wz hb hd => ?_, fun u wz hb hd => ?_, fun u wz hb hd => ?_, fun u wz hb hd => ?_, fun u wz hb hd => ?_, trivial⟩
                all_goals simp only [Act.put, List.setIfInBounds_toArray, List.set_cons_zero, List.set_cons_succ]
                · go_simp
                  exact ⟨rfl, Below.refl _ _, fun h => by cases h⟩
                · have e0 : u 0 = .pointer (some ⟨w.heap.size, 1, none⟩) := hd 0 (by omega) (by kernel_rfl)
                  rw [e0]
                  have r1' := (hb.cell (p := ⟨w.heap.size, 1, none⟩) (lt_of_cell r1)).trans r1
                  go_simp
                  exact ⟨rfl, Below.refl _ _, fun h => by cases h⟩
                · go_simp
                  exact ⟨rfl, Below.refl _ _, fun h => by cases h⟩
                · have e1 : u 1 = .slice (some ⟨g, 0, none⟩) N N := hd 1 (by omega) (by kernel_rfl)
                  have e2 : u 2 = .int .i64 (TO : Int) := hd 2 (by omega) (by kernel_rfl)
                  rw [e1, e2]
                  go_simp
                  exact ⟨rfl, Below.refl _ _, fun h => by cases h⟩
                · go_simp
                  exact ⟨rfl, Below.refl _ _, fun h => by cases h⟩
                · have e4 : u 4 = .pointer (some ⟨BK, 1, none⟩) := hd 4 (by omega) (by kernel_rfl)
                  rw [e4]
                  have e1' := (hb.cell (p := ⟨BK, 1, none⟩) (lt_of_cell e1)).trans e1
                  go_simp
                  exact ⟨rfl, Below.refl _ _, fun h => by cases h⟩
                · go_simp
                  exact ⟨rfl, Below.refl _ _, fun h => by cases h⟩
                · go_simp
                  exact ⟨rfl, Below.refl _ _, fun h => by cases h⟩
                · go_simp
                  exact ⟨rfl, Below.refl _ _, fun h => by cases h⟩
                · have e7 : u 7 = .int .i64 (FR : Int) := hd 7 (by omega) (by kernel_rfl)
                  have e8 : u 8 = .int .i64 (lgs : Int) := hd 8 (by omega) (by kernel_rfl)
                  rw [e7, e8]
                  go_simp
                  exact ⟨rfl, Below.refl _ _, fun h => by cases h⟩
                · have e5 : u 5 = .slice xa xl xc := hd 5 (by omega) (by kernel_rfl)
                  have e6 : u 6 = .int .i64 (FR : Int) := hd 6 (by omega) (by kernel_rfl)
                  have e9 : u 9 = .int .i64 ((FR : Int) + (lgs : Int)) := hd 9 (by omega) (by kernel_rfl)
                  rw [e5, e6, e9]
                  rw [HXA.out]
                  go_simp
                  exact ⟨rfl, Below.refl _ _, fun h => by cases h⟩
              case rest =>
                intro u wz hb hf hp
                have f0 : u 0 = .pointer (some ⟨w.heap.size, 1, none⟩) := hf 0 (by omega)
                have f1 : u 1 = .slice (some ⟨g, 0, none⟩) N N := hf 1 (by omega)
                have f2 : u 2 = .int .i64 (TO : Int) := hf 2 (by omega)
                have f3 : u 3 = .slice (some ⟨g, TO, none⟩) (N - TO) (N - TO) := hf 3 (by omega)
                have f4 : u 4 = .pointer (some ⟨BK, 1, none⟩) := hf 4 (by omega)
                have f5 : u 5 = .slice xa xl xc := hf 5 (by omega)
                have f6 : u 6 = .int .i64 (FR : Int) := hf 6 (by omega)
                have f7 : u 7 = .int .i64 (FR : Int) := hf 7 (by omega)
                have f8 : u 8 = .int .i64 (lgs : Int) := hf 8 (by omega)
                have f9 : u 9 = .int .i64 ((FR : Int) + (lgs : Int)) := hf 9 (by omega)
                have f10 : u 10 = .slice (some ⟨bx, ox + FR, none⟩) lgs (xc - FR) := hf 10 (by omega)
                refine UptoW.rest 1 11 (by rfl) (by kernel_rfl) ?_
                simp only [List.take, List.drop, putOps, Act.put, List.setIfInBounds_toArray, List.set_cons_zero, List.set_cons_succ, Nat.reduceAdd, f0, f1, f2, f3, f4, f5, f6, f7, f8, f9, f10]
                clear f0 f1 f2 f3 f4 f5 f6 f7 f8 f9 f10 hf hp
                have HXS := hide (ints_sub (HX4.out.below hb) FR lgs hfl)
                have hsl : (sub (X s) FR lgs).length = lgs := HXS.out.1
                have hrz : wz.rowIs g 2 N (fun j => .int .i64 ((jL X (fun s => K s * B) Wd N s t)[j]?.getD 0)) := HR2.out.of_block (hb.block g HR2.out.lt)
                have hmin : Nat.min lgs (N - TO) = lgs := Nat.min_eq_left (by omega)
                refine wpList_copy_row rfl (.tmp 55) (.tmp 62) 23 23 rfl 2 Tryz.underlying23 size_int64 (some ⟨g, TO, none⟩) (some ⟨bx, ox + FR, none⟩) (N - TO) (N - TO) lgs (xc - FR) rfl rfl g N 2 TO (jL X (fun s => K s * B) Wd N s t) (sub (X s) FR lgs) (sub (X s) FR lgs) hrz (jL_length _ _ _ _ _ _) HXS.out (by rw [hmin, List.take_of_length_le (by omega)]) (fun _ => rfl) (by omega) (fun w4 hr4 hbut h04 => wpList_nil ?_)
                have HRF : Hid (w4.rowIs g 2 N (fun j => .int .i64 ((jL X (fun s => K s * B) Wd N s (t + 1))[j]?.getD 0))) := hr4.congr (fun j hj => by have h := jL_copy (X := X) (lg := (fun s => K s * B)) (W := Wd) (N := N) (s := s) (t := t) (by rw [← HBS.out]; show BS + K s * B ≤ Wd; rw [← HLG.out]; exact hb1) HTW.out (by show t * (K s * B) + K s * B ≤ (X s).length; rw [← HLG.out, ← HFR.out, HXI.out.1]; exact hfl) j hj; rw [← HBS.out, ← HTO.out] at h; rw [← h]; show _ = Value.int .i64 ((copyL (jL X (fun s => K s * B) Wd N s t) TO (sub (X s) (t * (K s * B)) (K s * B)))[j]?.getD 0); rw [← HLG.out, ← HFR.out])
                have HS4 : Hid (Save g W2 w4) := ⟨fun c h1 h2 => ((hbut.1 c h2).trans (hb.block c (Nat.lt_of_lt_of_le h1 HS2.out.2.size))).trans (HS2.out.1 c h1 h2), (HS2.out.2.trans (hb.mono (Nat.zero_le _))).trans h04⟩
                clear hr4 hbut h04 hrz hmin hsl hb
                go_wp2
                go_roundw
                case rel => exact ⟨t + 1, htf, by rw [HFR.out, Nat.add_mul, Nat.one_mul]; push_cast; rfl, by rw [HTO.out, Nat.add_mul, Nat.one_mul, ← Nat.add_assoc]; push_cast; rfl, HRF.out, HS4.out⟩
                case measure => simp [intOf]; omega
            · have HRE : Hid (wr.rowIs g 2 N (fun j => .int .i64 ((jL X (fun s => K s * B) Wd N (s + 1) 0)[j]?.getD 0))) := HR2.out.congr (fun j hj => by
                by_cases h0 : lgs = 0
                · rw [jL_none (lg := (fun s => K s * B)) (by show K s * B = 0; rw [← HLG.out]; exact h0) hj]
                · have hte : t = fr := by
                    have h1 : ¬ t * lgs < fr * lgs := by rw [← HFR.out, ← HXL.out]; exact hlt2
                    have h2 : ¬ t < fr := fun h => h1 (Nat.mul_lt_mul_of_pos_right h (Nat.pos_of_ne_zero h0))
                    omega
                  rw [hte, jL_all HN.out hj])
              have HS5 : Hid (Save g W1 wr) := ⟨fun c h1 h2 => (HS2.out.1 c (by omega) h2).trans ((HAB.out.block c (by omega)).trans (HSV.out.1 c h1 h2)), (HSV.out.2.trans (HAB.out.mono (Nat.zero_le _))).trans HS2.out.2⟩
              have j11 : ¬ (FR : Int) < (xl : Int) := by omega
              clear hFR hTO
              go_wp2
              go_roundw
              case rel => exact ⟨s + 1, by omega, by go_num, by rw [beg]; show Value.int .i64 _ = Value.int .i64 ((beg (fun s => K s * B) s + K s * B : Nat) : Int); rw [← HBS.out, ← HLG.out]; push_cast; rfl, HRE.out, HS5.out⟩
              case measure => simp [intOf]; omega
        · obtain rfl : s = m := by omega
          go_wp2
          exact bodyPost_end (v := .tuple #[]) (by simp [results, Tryz.results45, go_sem]) rfl ⟨rfl, HRW.out.congr (fun j hj => by rw [jL_zero _ _ _ _ _ _ hj]), ⟨fun c h1 h2 => (HSV.out.1 c (by omega) h2).trans (HB1.out.block c h1), (HB1.out.mono (Nat.zero_le _)).trans HSV.out.2⟩⟩
end Go.Proofs.YteoobeldmicjhaaGreat.V
namespace Go.Proofs.YteoobeldmicjhaaGreat.V
set_option maxRecDepth 20000
open Go Go.RowKit

/-- More arrays lie behind the first one. -/
def MoreAt (W : World) (B q : Nat) (vm : Nat → ArrV) : Prop := ∀ j, j < q → W.cell? ⟨B, 2 + j * 2, none⟩ = some (vm j).d ∧ W.cell? ⟨B, 2 + j * 2 + 1, none⟩ = some (vm j).x
theorem MoreAt.below {W W' : World} {B q : Nat} {vm : Nat → ArrV} (h : MoreAt W B q vm) (hb : Below W.heap.size W W') : MoreAt W' B q vm := fun j hj => ⟨(hb.cell (p := ⟨B, 2 + j * 2, none⟩) (lt_of_cell (h j hj).1)).trans (h j hj).1, (hb.cell (p := ⟨B, 2 + j * 2 + 1, none⟩) (lt_of_cell (h j hj).2)).trans (h j hj).2⟩
end Go.Proofs.YteoobeldmicjhaaGreat.V
namespace Go.Proofs.YteoobeldmicjhaaGreat.V
set_option maxRecDepth 20000
open Go.RowKit

/-- A list of one's own, at the beginning of its block. -/
def NewL (N : Nat) (xs : List Int) (v : Value) (w : World) : Prop := ∃ (G c : Nat) (f : Nat → Value), v = .slice (some ⟨G, 0, none⟩) xs.length c ∧ xs.length ≤ c ∧ N ≤ G ∧ w.rowIs G 3 c f ∧ ∀ j, j < xs.length → f j = .int .i64 (xs[j]?.getD 0)
def fNewL (N : Nat) (xs : List Int) : Fact := ⟨NewL N xs, true⟩
theorem fNewL_good (N : Nat) (xs : List Int) : (fNewL N xs).Good := ⟨fun _ _ _ ⟨G, c, f, h1, h2, h3, h4, h5⟩ hb => ⟨G, c, f, h1, h2, h3, h4.of_block (hb.block G h4.lt), h5⟩, fun _ v w b ⟨G, c, f, h1, _, _, h4, _⟩ hb => by
  subst h1
  simp [blk] at hb
  rw [← hb]
  exact h4.lt⟩
/-- append([]int{}, list...). -/
theorem wp_append_fresh {w : World} {o : Oper} {a : Act} {K : Act → World → Prop} {Q : Exit → Act → World → Prop} (s x : Operand) (ho : o.op = .call { callee := .builtin .append, args := #[s, x], argTypes := #[22, 22] })
    (N B q c : Nat) (X : Option Addr) (ys : List Int) (hs : a.eval s = .slice (some ⟨B, 0, none⟩) 0 0) (hx : a.eval x = .slice X q c) (hI : Ints w X q ys) (hq : 0 < q) (hq6 : q ≤ 1048576) (hN : N ≤ w.heap.size)
    (h : ∀ v w', NewL N ys v w' → Below w.heap.size w w' → (∀ b, blk v = some b → w.heap.size ≤ b) → K (a.put o.dst v) w') : o.wp Tryz.prog a w K Q := by
  obtain ⟨i, hi1, hz, hsz, hby⟩ := info_parts info_int
  obtain ⟨b, off, rfl, _, hc⟩ := hI.at hq
  have hl := hI.1
  obtain ⟨v', w', hr, r1, r2⟩ := run_append_arg_grows (P := Tryz.prog) w 22 o.type 3 i (.int .i64 0) 1 8 Tryz.underlying22 hi1 hz hsz hby rfl (by omega) ⟨B, 0, none⟩ 0 0 [] rfl (fun j u hj => by simp at hj) ⟨b, off, none⟩ q c (ys.map (Value.int .i64)) (by simp [hl]) (fun j u hj => by
      have hjl : j < q := by have := (List.getElem?_eq_some_iff.1 hj).1; simpa [hl] using this
      have h3 : u = .int .i64 (ys[j]?.getD 0) := by
        have : j < ys.length := by rw [hl]; exact hjl
        simp [this] at hj ⊢
        exact hj.symm
      rw [h3, Addr.add_lit]
      exact hc j hjl) (by omega) (by unfold maxLen; omega) (by omega)
  have hb : Below w.heap.size w w' := (Below.refl _ w).grown r2 (Nat.le_refl _) (fun k hk => by cases hk)
  obtain ⟨g, cap, rfl, hg1, hg2⟩ := r1.form (by omega)
  rcases r1.2 with ⟨hv, _⟩ | ⟨g', cap', cur, hv, _, hgc, _, _, hcs, htk⟩
  · cases hv
  · cases hv
    unfold Oper.wp
    simp [execOp, ho, resolve, invoke, builtin, hs, hx, hr, Result.andThen]
    have hcell : ∀ j, j < q → w'.cell? ⟨g, j, none⟩ = some (.int .i64 (ys[j]?.getD 0)) := fun j hj => by
      have e : w'.cell? ⟨g, j, none⟩ = ([] ++ ys.map (Value.int .i64))[j]? := by
        rw [← htk, List.getElem?_take_of_lt (by omega), Array.getElem?_toList]
        simp [World.cell?, hgc]
      have hj2 : j < ys.length := by omega
      rw [e]
      simp [hj2]
    refine h _ _ ⟨g, cap, fun j => cur[j]?.getD undef, by rw [hl], by omega, by omega, ⟨cur, hgc, by omega, fun j hj => ?_⟩, fun j hj => ?_⟩ hb (fun b hb => by simp [blk] at hb; omega)
    · have : j < cur.size := by omega
      simp [this]
    · have hc1 := hcell j (by omega)
      simp [World.cell?, hgc] at hc1
      simp [hc1]
theorem newL_of_row {w : World} {G n N : Nat} (h : w.rowIs G 3 n (fun _ => .int .i64 0)) (hN : N ≤ G) : NewL N (List.replicate n 0) (.slice (some ⟨G, 0, none⟩) n n) w :=
  ⟨G, n, _, by simp, by simp, hN, h, fun j _ => by rw [replicate_zero_at]⟩
/-- An empty list. -/
def fNo : Fact := ⟨fun v _ => ∃ B, v = .slice (some ⟨B, 0, none⟩) 0 0, false⟩
theorem fNo_good : fNo.Good := ⟨fun _ _ _ h _ => h, fun h => by cases h⟩
/-- What a row of one's own holds, as a list. -/
theorem lst_of_rowC {G c : Nat} {f : Nat → Value} {w : World} (xs : List Int) (h : w.rowIs G 3 c f) (hl : xs.length ≤ c) (hf : ∀ j, j < xs.length → f j = .int .i64 (xs[j]?.getD 0)) (hb : ∀ x ∈ xs, -9223372036854775808 ≤ x ∧ x ≤ 9223372036854775807) (hm : xs.length ≤ 9223372036854775807) : Lst w (some ⟨G, 0, none⟩) xs.length c xs :=
  ⟨⟨rfl, hm, hb, .inr ⟨G, 0, rfl, fun j hj => by rw [Nat.zero_add, ← hf j hj]; exact h.cell (by omega)⟩⟩, hl, fun e => by cases e⟩
end Go.Proofs.YteoobeldmicjhaaGreat.V
