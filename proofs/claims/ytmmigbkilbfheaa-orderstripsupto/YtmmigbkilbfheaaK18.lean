/-
  Contract: the document's Do. Contracts: the document's SameRow, sameAccess, SameStmt, SameNest, where both are the same.
-/
import Derived.Test.YtmmigbkilbfheaaK17
import Derived.Test.YtmmigbkilbfheaaK10
import Derived.Test.YtmmigbkilbfheaaK2
import Derived.Test.YtmmigbkilbfheaaK3
import Derived.Deep.RegionHeld3
namespace Go.Proofs.Ytmmigbkilbfheaa.V
open Go.RowKit
set_option linter.unusedVariables false

theorem info_i64 : (Try.prog.info? 2).map (fun i => (i.zero, i.size, i.bytes)) = some (some (.int .i64 0), 1, 8) := by kernel_rfl
/-- append(v, number): v of the call's own; the number lies in a block of one cell. -/
theorem append_num {w : World} {ops : Array Oper} {rest : List Oper} {op : Oper} {a : Act} {Q : Exit → Act → World → Prop} (hgd : op.guard = none) (s x : Operand)
    (ho : op.op = .call { callee := .builtin .append, args := #[s, x], argTypes := #[92, 92] }) (B : Nat)
    (v : Value) (xs : List Int) (hs : a.eval s = v) (n : Int) (hown : w.ownsRow B 2 1 v xs.length (xs.map (Value.int .i64)))
    (hx : a.eval x = .slice (some ⟨w.heap.size, 0, none⟩) 1 1) (hl : xs.length ≤ 1000) (hB : B ≤ w.heap.size)
    (h : ∀ v' w', w'.ownsRow B 2 1 v' (xs.length + 1) ((xs ++ [n]).map (Value.int .i64)) → Below B w w' → wpList Try.prog ops Q rest (a.put op.dst v') w') :
    wpList Try.prog ops Q (op :: rest) a (w.alloc (.cells #[.int .i64 n] 2)) := by
  obtain ⟨i0, hi, hz0, hz1, hz2⟩ := info_parts info_i64
  have hown' := hown.alloc (.cells #[.int .i64 n] 2)
  refine wpList_append_own _ hgd s x 92 ho B 2 i0 (.int .i64 0) 1 8 Try.underlying92 hi hz0 hz1 hz2 rfl (by decide) v xs.length _ hs hown' ⟨w.heap.size, 0, none⟩ 1 1 [.int .i64 n] hx rfl ?_ ?_ (by unfold maxLen; omega) (by omega) (by simp; omega) (fun v' w' k1 k2 _ => h v' w' (by rw [List.map_append]; exact k1) ?_)
  · intro j u hj
    have hjl : j = 0 := by have := (List.getElem?_eq_some_iff.1 hj).1; simp at this; exact this
    subst hjl
    simp at hj
    rw [← hj, Go.WideShapes.add_plain]
    show (w.alloc (.cells #[.int .i64 n] 2)).cell? ⟨w.heap.size, 0 + 0, none⟩ = _
    unfold World.cell?
    rw [World.alloc_heap_new w (.cells #[.int .i64 n] 2)]
    rfl
  · intro u hu; simp at hu; subst hu; rfl
  · exact ((Below.refl B w).alloc hB _).grown k2 (by simp; omega) (fun j e => (hown.lt j e).1)

theorem cells_two {W : World} {b : Nat} {x y : Value} {t : TypeId} (h : W.heap[b]? = some (.cells #[x, y] t (0, 0))) : W.cell? ⟨b, 0, none⟩ = some x ∧ W.cell? ⟨b, 1, none⟩ = some y := by
  refine ⟨?_, ?_⟩ <;> simp [World.cell?, h]
theorem ownsRow_below {W W' : World} {B n : Nat} {t : TypeId} {v : Value} {xs : List Value} (h : W.ownsRow B t 1 v n xs) (hb : Below W.heap.size W W') : W'.ownsRow B t 1 v n xs := by
  refine ⟨h.1, ?_⟩
  rcases h.2 with e | ⟨g, cap, cur, e1, e2, e3, e4⟩
  · exact .inl e
  · exact .inr ⟨g, cap, cur, e1, e2, (hb.block g (Array.getElem?_eq_some_iff.1 e3).1).trans e3, e4⟩
theorem lst64_of_own {w : World} {B : Nat} {v : Value} {n : Nat} {xs : List Int} (h : w.ownsRow B 2 1 v n (xs.map (Value.int .i64))) (hl : xs.length = n) (hm : n ≤ 9223372036854775807) (hb : ∀ x ∈ xs, -9223372036854775808 ≤ x ∧ x ≤ 9223372036854775807) : ∃ X c, v = .slice X n c ∧ Ints w X n xs ∧ n ≤ c := by
  have h' := h
  rcases h.2 with ⟨rfl, h2⟩ | ⟨g, cap, cur, rfl, h3, _, h4, _⟩
  · exact ⟨none, 0, by rw [h2], ⟨hl, hm, hb, .inl h2⟩, by omega⟩
  · refine ⟨_, _, rfl, ⟨hl, hm, hb, ?_⟩, h4⟩
    by_cases h0 : n = 0
    · exact .inl h0
    · refine .inr ⟨g, 0, rfl, fun j hj => ?_⟩
      rw [Nat.zero_add, h'.cellAt j (by omega)]
      simp [hl, hj]
theorem whereV_in {M : Mem} {ac : Acc} {x : List Int} (h : inM M ac x) : whereV M ac x = worthV ac.2 x ∧ 0 ≤ whereV M ac x := by unfold whereV; rw [if_pos h]; exact ⟨rfl, h.1⟩
theorem whereV_out {M : Mem} {ac : Acc} {x : List Int} (h : ¬ inM M ac x) : whereV M ac x = -1 := by unfold whereV; rw [if_neg h]

set_option maxRecDepth 100000 in
set_option maxHeartbeats 8000000 in
theorem rdo_any (N : Nat) (a : Option Addr) (len cap : Nat) (G C : Nat → Nat) (M : Mem) (za : Option Addr) (zc : Nat) (zs : List Int) (vt : Value) (q : SW) (s : Stm) (xa : Option Addr) (xl xc : Nat) (x : List Int) (w : World) (hM : Mems w N a G C M) (hl : M.length = len) (hz : Ints w za len zs) (hf : ∀ k, k < len → ((arrM M k).length : Int) = zs[k]?.getD 0) (hs : SG w q s) (ho : StmOk len s) (hx : Ints w xa xl x) (hxl : xl = q.bl) (hxb : ∀ y ∈ x, 0 ≤ y ∧ y ≤ 4096) :
    Calls Try.prog 46 #[.agg #[.slice za len zc, vt], q.v, .slice xa xl xc, .slice a len cap] w fun e w' => (∃ v, e = .returned v) ∧ Mems w' N a G C (doM s M x) ∧ Chg G M.length w w' := by
  have hm := hz.2.1
  have hbl := hs.box.1.1
  have hgl := hs.gets.1
  have hkd := hs.kd
  have hva := hs.va
  have hx4 : xl ≤ 4 := by have := (ptE_ok ho.pt).rank; omega
  have hb1 : xl = s.box.length := by omega
  have htk := ho.takes
  have htb := takes_bd s.kind
  have hg3 : q.gl ≤ 3 := by omega
  have HWH := hide (fun (W : World) (hb : Below w.heap.size w W) (q' : AW) (ac : Acc) (hq : AG W q' ac) (hac : AccOk len ac xl) => rWhere_any M za len zc zs vt q' ac xa xl xc x W (hz.below hb) hq hac (hx.below hb) hx4 hxb hf)
  have HOG := hide (fun ac h => (hb1 ▸ ho.gets ac h : AccOk len ac xl))
  have HOP := hide (hb1 ▸ ho.put : AccOk len s.put xl)
  have HNM := hide (fun (W : World) (X : Option Addr) (cv : Nat) (vs : List Int) (hv : Ints W X q.gl vs) => rNumber_any q X q.gl cv vs (gotM M s.put x) W hv (by rw [hkd, htk, hgl]))
  have HM := hide hM
  have HGE := hide hs.gets
  have HPT := hide hs.put
  have HGL := hide hgl
  have HBV : Hid (B64 (newM M s x)) := numV_bd hs.bd.2 (gotK_bd hM.bd _ _ _) (gotK_bd hM.bd _ _ _) (gotK_bd hM.bd _ _ _)
  have HNW : Hid (newM M s x = numV q.kd q.va (gotK M s x 0) (gotK M s x 1) (gotK M s x 2) (gotM M s.put x)) := by rw [Hid, hkd, hva]; rfl
  obtain ⟨W0, hW0⟩ : ∃ W0, W0 = (w.alloc (.cells #[.slice za len zc, vt] 25)).alloc (.cells q.cs 74) := ⟨_, rfl⟩
  have B0 : Below w.heap.size w W0 := by rw [hW0]; exact bl_on (bl_new _) (bl_new _)
  have N0 : W0.heap[w.heap.size]? = some (.cells #[.slice za len zc, vt] 25 (0, 0)) := by rw [hW0]; exact (Below.heap_alloc _ _ _ (by simp)).trans (World.alloc_heap_new w _)
  have Q0 : q.blk W0 (w.heap.size + 1) := by rw [hW0]; have := SW.new q (w.alloc (.cells #[.slice za len zc, vt] 25)); rwa [World.size_alloc] at this
  obtain ⟨p0, p1, p2, p3, p4, p5, p6, p7⟩ := Q0.cells
  obtain ⟨n0, n1⟩ := cells_two N0
  have HW0 := hide hW0
  have HB0 := hide B0
  have HQ0 := hide Q0
  have HN0 := hide N0
  have hz0 := Q0.lt
  have HWP := hide (HWH.out W0 B0 q.pu s.put (hs.put.below B0) HOP.out)
  obtain ⟨qs, hqs⟩ : ∃ qs, qs = q := ⟨_, rfl⟩
  have HQS := hide hqs
  have hpar := hs.put.arr
  have harr := HOP.out.arr
  obtain ⟨ba, bl, bc, ra, rl, rc, kd, va, ⟨parr, pca, pcl, pcc, pcon⟩, ga, gl, gc⟩ := q
  simp only [SW.v, SW.cs, AW.v] at *
  obtain ⟨k, hk⟩ : ∃ k : Nat, parr = (k : Int) := ⟨parr.toNat, by omega⟩
  have hkn : s.put.1.toNat = k := by omega
  have hkl : k < len := by omega
  have HKN := hide hkn
  subst hk
  have HHM := hide hl
  clear hM hs ho hx hxb B0 Q0 N0 hW0 htk htb hkd hva hqs hxl hb1 hbl hgl hz hf hpar harr hl hkn
  go_enter Try.func46, Try.ntmps46
  go_wp2_with fail
  rw [← HW0.out]
  refine HWP.out.mono ?_
  rintro e w1 ⟨rfl, hb⟩
  have HB1 := hide (bl_on HB0.out hb)
  have HQ1 := hide (HQ0.out.below hb)
  have HN1 := hide ((hb.block _ (by omega)).trans HN0.out)
  obtain ⟨p0, p1, p2, p3, p4, p5, p6, p7⟩ := HQ1.out.cells
  simp only at p0 p1 p2 p3 p4 p5 p6 p7
  obtain ⟨n0, n1⟩ := cells_two HN1.out
  have zq1 := HQ1.out.lt
  clear hb
  by_cases hin : inM M s.put x
  · obtain ⟨hw1, hw2⟩ := whereV_in hin
    obtain ⟨p, hp⟩ : ∃ p : Nat, whereV M s.put x = (p : Int) := ⟨(whereV M s.put x).toNat, by omega⟩
    rw [hp]
    have hwp : (worthV s.put.2 x).toNat = p := by rw [← hw1, hp]; simp
    have HWPP := hide hwp
    have HIN := hide hin
    have hpn : p < (arrM M k).length := by have h1 := hin.2; rw [HKN.out] at h1; omega
    have hp6 : p < 65536 := by have := HM.out.small k; omega
    have HPN := hide hpn
    clear hw1 hw2 hp hwp hin
    go_wp2_with fail
    go_loopw [9, 23] (fun v i wr => ∃ j : Nat, j ≤ gl ∧ i = .int .i64 j ∧ wr.ownsRow w1.heap.size 2 1 v j (((s.gets.take j).map (fun ac => gotM M ac x)).map (Value.int .i64)) ∧ Below w1.heap.size w1 wr) (fun _ i _ => gl - (intOf i).toNat)
    case atStart => exact ⟨0, Nat.zero_le _, rfl, World.ownsRow_nil _ _ _ _, Below.refl _ _⟩
    case round =>
      obtain ⟨j, hj, rfl, hown, hB⟩ := hrel
      have HOWN := hide hown
      have HBr := hide hB
      have HBa := hide (bl_on HB1.out hB)
      have HQr := hide (HQ1.out.below hB)
      have HNr := hide ((hB.block _ (Array.getElem?_eq_some_iff.1 HN1.out).1).trans HN1.out)
      clear p0 p1 p2 p3 p4 p5 p6 p7 n0 n1
      obtain ⟨p0, p1, p2, p3, p4, p5, p6, p7⟩ := HQr.out.cells
      simp only at p0 p1 p2 p3 p4 p5 p6 p7
      obtain ⟨n0, n1⟩ := cells_two HNr.out
      have zqr := HQr.out.lt
      clear hown hB
      by_cases hlt : j < gl
      · have hjl : j < s.gets.length := by rw [HGL.out]; exact hlt
        have HTL : Hid (((s.gets.take j).map (fun ac => gotM M ac x)).length = j) := by rw [Hid, List.length_map, List.length_take]; omega
        have HTS : Hid ((s.gets.take (j + 1)).map (fun ac => gotM M ac x) = (s.gets.take j).map (fun ac => gotM M ac x) ++ [gotM M (s.gets[j]?.getD accD) x]) := by
          rw [Hid, List.take_succ_eq_append_getElem hjl, List.map_append]; simp [hjl]
        obtain ⟨gb, go, rfl, hat⟩ := (HGE.out.below HBa.out).at (by omega)
        obtain ⟨q, hq, k1, k2, k3⟩ := (hat j hlt).words
        have z1 := lt_of_cell k1
        simp only at z1
        have B3 : Below wr.heap.size wr (wr.alloc (.cells #[.int .i64 q.arr, .slice q.ca q.cl q.cc, .int .i64 q.con] 71)) := bl_new _
        have hacc := HOG.out _ (mem_getA _ j hjl)
        have HC := hide (HWH.out _ (bl_on HBa.out B3) q _ (hq.below B3) hacc)
        obtain ⟨y0, y1, y2⟩ := (AW.new q wr).cells
        have HAQ4 := hide (AW.new q wr)
        have HB3 := hide B3
        have ha := hq.arr
        obtain ⟨aq, haq⟩ : ∃ aq, aq = s.gets[j]?.getD accD := ⟨_, rfl⟩
        rw [← haq] at HC hacc ha HTS
        have harr := hacc.arr
        obtain ⟨r1, r2⟩ := cells_two ((B3.block _ (Array.getElem?_eq_some_iff.1 HNr.out).1).trans HNr.out)
        obtain ⟨arr, ca, cl, cc, con⟩ := q
        simp only at *
        obtain ⟨i, hi⟩ : ∃ i : Nat, arr = (i : Int) := ⟨arr.toNat, by omega⟩
        have hin2 : aq.1.toNat = i := by omega
        have hil : i < len := by omega
        subst hi
        clear hat hq B3 hjl haq hacc harr ha
        go_wp2_with fail
        refine HC.out.mono ?_
        rintro e w3 ⟨rfl, hb⟩
        have HB4 := hide (bl_on HB3.out hb)
        have HBJ := hide (bl_on HBr.out HB4.out)
        have HOW3 := hide (ownsRow_below HOWN.out HB4.out)
        have HB5 := hide (bl_on HBa.out HB4.out)
        obtain ⟨y0, y1, y2⟩ := (HAQ4.out.below hb).cells
        simp only at y0 y1 y2
        have zy := (HAQ4.out.below hb).lt
        clear hb k1 k2 k3
        have HOWX : Hid (w3.ownsRow w1.heap.size 2 1 u9 ((s.gets.take j).map (fun ac => gotM M ac x)).length (((s.gets.take j).map (fun ac => gotM M ac x)).map (Value.int .i64))) := by rw [HTL.out]; exact HOW3.out
        by_cases hq : inM M aq x
        · obtain ⟨hw1, hw2⟩ := whereV_in hq
          obtain ⟨pp, hp⟩ : ∃ pp : Nat, whereV M aq x = (pp : Int) := ⟨(whereV M aq x).toNat, by omega⟩
          rw [hp]
          have hwp : (worthV aq.2 x).toNat = pp := by rw [← hw1, hp]; simp
          have hpn2 : pp < (arrM M i).length := by have h1 := hq.2; rw [hin2] at h1; omega
          have hM3 := HM.out.below HB5.out
          obtain ⟨mb, mo, rfl, hh, _⟩ := hM3.at (k := i) (by rw [HHM.out]; exact hil)
          have hrow := hM3.rows i (by rw [HHM.out]; exact hil)
          have hc := hrow.cell hpn2
          have hge : gotM M aq x = (arrM M i)[pp]?.getD 0 := by unfold gotM; rw [if_pos hq, hin2, hwp]
          rw [← hge] at hc
          obtain ⟨n, hn⟩ : ∃ n, n = (arrM M i).length := ⟨_, rfl⟩
          rw [← hn] at hh hpn2
          have hn6 : n ≤ 65536 := by rw [hn]; exact HM.out.small i
          have zh := lt_of_cell hh
          have zc := lt_of_cell hc
          simp only at zh zc
          obtain ⟨GV, hGV⟩ : ∃ GV, GV = gotM M aq x := ⟨_, rfl⟩
          rw [← hGV] at hc HTS
          clear hw1 hw2 hp hwp hq hM3 hrow hge hn hGV
          go_wp2_with (at_builtin; refine append_num rfl (.tmp 36) (.tmp 45) rfl w1.heap.size _ ((s.gets.take j).map (fun ac => gotM M ac x)) rfl GV HOWX.out rfl (by rw [HTL.out]; omega) (by have := HBJ.out.size; omega) ?_; intro v4 w4 hown4 hb4; have HO4 := hide hown4; have HB4' := hide hb4; clear hown4 hb4)
          go_roundw
          case rel =>
            refine ⟨j + 1, by omega, by go_num, ?_, (HBJ.out).trans HB4'.out⟩
            have := HO4.out
            rw [HTL.out] at this
            rw [HTS.out]; exact this
          case measure => simp [intOf]; omega
        · have hwo := whereV_out hq
          rw [hwo]
          have hge : gotM M aq x = 0 := by unfold gotM; rw [if_neg hq]
          rw [hge] at HTS
          clear hwo hq hge
          go_wp2_with (at_builtin; refine append_num rfl (.tmp 33) (.tmp 34) rfl w1.heap.size _ ((s.gets.take j).map (fun ac => gotM M ac x)) rfl 0 HOWX.out rfl (by rw [HTL.out]; omega) (by have := HBJ.out.size; omega) ?_; intro v4 w4 hown4 hb4; have HO4 := hide hown4; have HB4' := hide hb4; clear hown4 hb4)
          go_roundw
          case rel =>
            refine ⟨j + 1, by omega, by go_num, ?_, (HBJ.out).trans HB4'.out⟩
            have := HO4.out
            rw [HTL.out] at this
            rw [HTS.out]; exact this
          case measure => simp [intOf]; omega
      · obtain rfl : gl = j := by omega
        have hall : s.gets.take gl = s.gets := List.take_of_length_le (by rw [HGL.out]; exact Nat.le_refl _)
        have hown := HOWN.out
        rw [hall] at hown
        have hgk : ∀ i, gotK M s x i = (s.gets.map (fun ac => gotM M ac x))[i]?.getD 0 := fun i => by
          unfold gotK
          by_cases e : i < s.gets.length
          · rw [if_pos e]; simp [e]
          · rw [if_neg e, List.getElem?_eq_none (by simpa using e)]; rfl
        obtain ⟨X, cv, hXe, hXl, _⟩ := lst64_of_own hown (by rw [List.length_map, HGL.out]) (by omega) (fun y hy => by
          obtain ⟨ac, _, rfl⟩ := List.mem_map.1 hy
          exact gotM_bd HM.out.bd _ _)
        subst hXe
        have HXL := hide hXl
        have hMr := HM.out.below HBa.out
        obtain ⟨b, off, rfl, hh, hgb⟩ := hMr.at (k := k) (by rw [HHM.out]; exact hkl)
        have hrow := hMr.rows k (by rw [HHM.out]; exact hkl)
        have hc := hrow.cell HPN.out
        obtain ⟨was, hwas⟩ : ∃ was, was = gotM M s.put x := ⟨_, rfl⟩
        have hg : gotM M s.put x = (arrM M k)[p]?.getD 0 := by unfold gotM; rw [if_pos HIN.out, HKN.out, HWPP.out]
        rw [← hg, ← hwas] at hc
        obtain ⟨V, hV⟩ : ∃ V, V = newM M s x := ⟨_, rfl⟩
        have HVN := hide hV
        rw [HNW.out, hgk 0, hgk 1, hgk 2, ← hwas] at hV
        have HV := hide hV
        have HNU := hide (fun (wz : World) (hb : Below wr.heap.size wr wz) => HNM.out wz X cv (s.gets.map (fun ac => gotM M ac x)) (HXL.out.below hb))
        rw [← hwas] at HNU
        obtain ⟨n, hn⟩ : ∃ n, n = (arrM M k).length := ⟨_, rfl⟩
        obtain ⟨c, hcc⟩ : ∃ c, c = C k := ⟨_, rfl⟩
        rw [← hn, ← hcc] at hh
        have hpn3 : p < n := by rw [hn]; exact HPN.out
        have hn6 : n ≤ 65536 := by rw [hn]; exact HM.out.small k
        obtain ⟨gk, hgke⟩ : ∃ gk, gk = G k := ⟨_, rfl⟩
        rw [← hgke] at hc hh
        have HGK2 := hide hgke
        have HFR := hide (fun (wz : World) (hb : Below wr.heap.size wr wz) => (hrow.below hb).frozen p)
        rw [← hgke] at HFR
        have HMW := hide hMr
        have zh := lt_of_cell hh
        have zc := lt_of_cell hc
        simp only at zh zc
        clear hall hown hgk hXl hMr hrow hwas hg hV hn hcc hgke hgb
        go_wp2_with fail
        refine region_made 20 20 [fIs (.slice (some ⟨b, off, none⟩) len cap), fIs (.pointer (some ⟨w.heap.size + 1, 4, none⟩)), fIs (.pointer (some ⟨w.heap.size + 1, 4, none⟩)), fIs (.int .i64 (k : Int)), fIs (.pointer (some ⟨b, off + k, none⟩)), fIs (.slice (some ⟨gk, 0, none⟩) n c), fIs (.int .i64 (p : Int)), fIs (.agg #[.slice ba bl bc, .slice ra rl rc, .int .i64 kd, .int .i64 va, .int .i64 (k : Int), .slice pca pcl pcc, .int .i64 pcon, .slice ga gl gc]), fIs (.slice X gl cv), fIs (.slice (some ⟨b, off, none⟩) len cap), fIs (.pointer (some ⟨w.heap.size + 1, 4, none⟩)), fIs (.pointer (some ⟨w.heap.size + 1, 4, none⟩)), fIs (.int .i64 (k : Int)), fIs (.pointer (some ⟨b, off + k, none⟩)), fIs (.slice (some ⟨gk, 0, none⟩) n c), fIs (.int .i64 (p : Int)), fIs (.pointer (some ⟨gk, p, none⟩)), fIs (.int .i64 was), fIs (.int .i64 V), fIs (.pointer (some ⟨gk, p, none⟩))] (by kernel_rfl) (by kernel_rfl) (by kernel_rfl) (fun _ ⟨_, _⟩ ⟨_, _⟩ _ e h => by cases e; exact h) ⟨fIs_good _, fIs_good _, fIs_good _, fIs_good _, fIs_good _, fIs_good _, fIs_good _, fIs_good _, fIs_good _, fIs_good _, fIs_good _, fIs_good _, fIs_good _, fIs_good _, fIs_good _, fIs_good _, fIs_good _, fIs_good _, fIs_good _, fIs_good _, trivial⟩ ?mk ?rest
        case mk =>
          refine ⟨fun u wz hb hd => ?_, fun u wz hb hd => ?_, fun u wz hb hd => ?_, fun u wz hb hd => ?_, fun u wz hb hd => ?_, fun u wz hb hd => ?_, fun u wz hb hd => ?_, fun u wz hb hd => ?_, fun u wz hb hd => ?_, fun u wz hb hd => ?_, fun u wz hb hd => ?_, fun u wz hb hd => ?_, fun u wz hb hd => ?_, fun u wz hb hd => ?_, fun u wz hb hd => ?_, fun u wz hb hd => ?_, fun u wz hb hd => ?_, fun u wz hb hd => ?_, fun u wz hb hd => ?_, fun u wz hb hd => ?_, trivial⟩
          all_goals simp only [Act.put, List.setIfInBounds_toArray, List.set_cons_zero, List.set_cons_succ]
          · go_simp
            exact ⟨rfl, Below.refl _ _, fun h => by cases h⟩
          · go_simp
            exact ⟨rfl, Below.refl _ _, fun h => by cases h⟩
          · have e1 : u 1 = .pointer (some ⟨w.heap.size + 1, 4, none⟩) := hd 1 (by omega) (by kernel_rfl)
            rw [e1]
            go_simp
            exact ⟨rfl, Below.refl _ _, fun h => by cases h⟩
          · have e2 : u 2 = .pointer (some ⟨w.heap.size + 1, 4, none⟩) := hd 2 (by omega) (by kernel_rfl)
            rw [e2]
            have p4' := (hb.cell (p := ⟨w.heap.size + 1, 4, none⟩) (lt_of_cell p4)).trans p4
            go_simp
            exact ⟨rfl, Below.refl _ _, fun h => by cases h⟩
          · have e0 : u 0 = .slice (some ⟨b, off, none⟩) len cap := hd 0 (by omega) (by kernel_rfl)
            have e3 : u 3 = .int .i64 (k : Int) := hd 3 (by omega) (by kernel_rfl)
            rw [e0, e3]
            go_simp
            exact ⟨rfl, Below.refl _ _, fun h => by cases h⟩
          · have e4 : u 4 = .pointer (some ⟨b, off + k, none⟩) := hd 4 (by omega) (by kernel_rfl)
            rw [e4]
            have hh' := (hb.cell (p := ⟨b, off + k, none⟩) (lt_of_cell hh)).trans hh
            go_simp
            exact ⟨rfl, Below.refl _ _, fun h => by cases h⟩
          · go_simp
            exact ⟨rfl, Below.refl _ _, fun h => by cases h⟩
          · have p0' := (hb.cell (p := ⟨w.heap.size + 1, 0, none⟩) (lt_of_cell p0)).trans p0
            have p1' := (hb.cell (p := ⟨w.heap.size + 1, 1, none⟩) (lt_of_cell p1)).trans p1
            have p2' := (hb.cell (p := ⟨w.heap.size + 1, 2, none⟩) (lt_of_cell p2)).trans p2
            have p3' := (hb.cell (p := ⟨w.heap.size + 1, 3, none⟩) (lt_of_cell p3)).trans p3
            have p4' := (hb.cell (p := ⟨w.heap.size + 1, 4, none⟩) (lt_of_cell p4)).trans p4
            have p5' := (hb.cell (p := ⟨w.heap.size + 1, 5, none⟩) (lt_of_cell p5)).trans p5
            have p6' := (hb.cell (p := ⟨w.heap.size + 1, 6, none⟩) (lt_of_cell p6)).trans p6
            have p7' := (hb.cell (p := ⟨w.heap.size + 1, 7, none⟩) (lt_of_cell p7)).trans p7
            go_simp
            exact ⟨rfl, Below.refl _ _, fun h => by cases h⟩
          · go_simp
            exact ⟨rfl, Below.refl _ _, fun h => by cases h⟩
          · go_simp
            exact ⟨rfl, Below.refl _ _, fun h => by cases h⟩
          · go_simp
            exact ⟨rfl, Below.refl _ _, fun h => by cases h⟩
          · have e10 : u 10 = .pointer (some ⟨w.heap.size + 1, 4, none⟩) := hd 10 (by omega) (by kernel_rfl)
            rw [e10]
            go_simp
            exact ⟨rfl, Below.refl _ _, fun h => by cases h⟩
          · have e11 : u 11 = .pointer (some ⟨w.heap.size + 1, 4, none⟩) := hd 11 (by omega) (by kernel_rfl)
            rw [e11]
            have p4' := (hb.cell (p := ⟨w.heap.size + 1, 4, none⟩) (lt_of_cell p4)).trans p4
            go_simp
            exact ⟨rfl, Below.refl _ _, fun h => by cases h⟩
          · have e9 : u 9 = .slice (some ⟨b, off, none⟩) len cap := hd 9 (by omega) (by kernel_rfl)
            have e12 : u 12 = .int .i64 (k : Int) := hd 12 (by omega) (by kernel_rfl)
            rw [e9, e12]
            go_simp
            exact ⟨rfl, Below.refl _ _, fun h => by cases h⟩
          · have e13 : u 13 = .pointer (some ⟨b, off + k, none⟩) := hd 13 (by omega) (by kernel_rfl)
            rw [e13]
            have hh' := (hb.cell (p := ⟨b, off + k, none⟩) (lt_of_cell hh)).trans hh
            go_simp
            exact ⟨rfl, Below.refl _ _, fun h => by cases h⟩
          · go_simp
            exact ⟨rfl, Below.refl _ _, fun h => by cases h⟩
          · have e14 : u 14 = .slice (some ⟨gk, 0, none⟩) n c := hd 14 (by omega) (by kernel_rfl)
            have e15 : u 15 = .int .i64 (p : Int) := hd 15 (by omega) (by kernel_rfl)
            rw [e14, e15]
            go_simp
            exact ⟨rfl, Below.refl _ _, fun h => by cases h⟩
          · have e16 : u 16 = .pointer (some ⟨gk, p, none⟩) := hd 16 (by omega) (by kernel_rfl)
            rw [e16]
            have hc' := (hb.cell (p := ⟨gk, p, none⟩) (lt_of_cell hc)).trans hc
            go_simp
            exact ⟨rfl, Below.refl _ _, fun h => by cases h⟩
          · have e7 : u 7 = .agg #[.slice ba bl bc, .slice ra rl rc, .int .i64 kd, .int .i64 va, .int .i64 (k : Int), .slice pca pcl pcc, .int .i64 pcon, .slice ga gl gc] := hd 7 (by omega) (by kernel_rfl)
            have e8 : u 8 = .slice X gl cv := hd 8 (by omega) (by kernel_rfl)
            have e17 : u 17 = .int .i64 was := hd 17 (by omega) (by kernel_rfl)
            rw [e7, e8, e17]
            go_simp
            refine (HNU.out wz hb).mono ?_
            rintro e w2 ⟨rfl, hb2⟩
            exact ⟨by rw [HV.out]; rfl, hb2, fun h => by cases h⟩
          · have e5 : u 5 = .slice (some ⟨gk, 0, none⟩) n c := hd 5 (by omega) (by kernel_rfl)
            have e6 : u 6 = .int .i64 (p : Int) := hd 6 (by omega) (by kernel_rfl)
            rw [e5, e6]
            go_simp
            exact ⟨rfl, Below.refl _ _, fun h => by cases h⟩
        case rest =>
          intro u wz hb hf hp
          have f0 : u 0 = .slice (some ⟨b, off, none⟩) len cap := hf 0 (by omega)
          have f1 : u 1 = .pointer (some ⟨w.heap.size + 1, 4, none⟩) := hf 1 (by omega)
          have f2 : u 2 = .pointer (some ⟨w.heap.size + 1, 4, none⟩) := hf 2 (by omega)
          have f3 : u 3 = .int .i64 (k : Int) := hf 3 (by omega)
          have f4 : u 4 = .pointer (some ⟨b, off + k, none⟩) := hf 4 (by omega)
          have f5 : u 5 = .slice (some ⟨gk, 0, none⟩) n c := hf 5 (by omega)
          have f6 : u 6 = .int .i64 (p : Int) := hf 6 (by omega)
          have f7 : u 7 = .agg #[.slice ba bl bc, .slice ra rl rc, .int .i64 kd, .int .i64 va, .int .i64 (k : Int), .slice pca pcl pcc, .int .i64 pcon, .slice ga gl gc] := hf 7 (by omega)
          have f8 : u 8 = .slice X gl cv := hf 8 (by omega)
          have f9 : u 9 = .slice (some ⟨b, off, none⟩) len cap := hf 9 (by omega)
          have f10 : u 10 = .pointer (some ⟨w.heap.size + 1, 4, none⟩) := hf 10 (by omega)
          have f11 : u 11 = .pointer (some ⟨w.heap.size + 1, 4, none⟩) := hf 11 (by omega)
          have f12 : u 12 = .int .i64 (k : Int) := hf 12 (by omega)
          have f13 : u 13 = .pointer (some ⟨b, off + k, none⟩) := hf 13 (by omega)
          have f14 : u 14 = .slice (some ⟨gk, 0, none⟩) n c := hf 14 (by omega)
          have f15 : u 15 = .int .i64 (p : Int) := hf 15 (by omega)
          have f16 : u 16 = .pointer (some ⟨gk, p, none⟩) := hf 16 (by omega)
          have f17 : u 17 = .int .i64 was := hf 17 (by omega)
          have f18 : u 18 = .int .i64 V := hf 18 (by omega)
          have f19 : u 19 = .pointer (some ⟨gk, p, none⟩) := hf 19 (by omega)
          refine UptoW.rest 1 20 (by rfl) (by kernel_rfl) ?_
          simp only [List.take, List.drop, putOps, Act.put, List.setIfInBounds_toArray, List.set_cons_zero, List.set_cons_succ, Nat.reduceAdd, f0, f1, f2, f3, f4, f5, f6, f7, f8, f9, f10, f11, f12, f13, f14, f15, f16, f17, f18, f19]
          clear f0 f1 f2 f3 f4 f5 f6 f7 f8 f9 f10 f11 f12 f13 f14 f15 f16 f17 f18 f19 hf hp
          have HB6 := hide (bl_on HBa.out hb)
          have fr := HFR.out wz hb
          have c' := (hb.cell (p := ⟨gk, p, none⟩) (lt_of_cell hc)).trans hc
          have HM6 := hide (HMW.out.below hb)
          have zz := hb.size
          clear hb
          go_wp2_with fail
          refine bodyPost_end (results_none rfl _ _ _) rfl ⟨⟨_, rfl⟩, ?_, ?_⟩
          · unfold doM
            rw [if_pos HIN.out, ← HVN.out, HKN.out, HWPP.out, HGK2.out]
            exact HM6.out.put (by rw [HHM.out]; exact hkl) HPN.out (by rw [HVN.out]; exact HBV.out)
          · rw [HGK2.out]
            exact Chg.set HB6.out (by rw [HHM.out]; exact hkl) _ _
  · have hwo := whereV_out hin
    rw [hwo]
    have HIN := hide hin
    clear hwo hin
    go_wp2_with fail
    refine bodyPost_ret (results_none rfl _ _ _) rfl ⟨⟨_, rfl⟩, ?_, Chg.of_below HB1.out⟩
    unfold doM
    rw [if_neg HIN.out]
    exact HM.out.below HB1.out
end Go.Proofs.Ytmmigbkilbfheaa.V
namespace Go.Proofs.Ytmmigbkilbfheaa.V
open Go.RowKit
set_option linter.unusedVariables false

theorem box_two {w : World} {c d : Array Value} {t : TypeId} : ((w.alloc (.cells c t)).alloc (.cells d t)).heap[w.heap.size]? = some (.cells c t (0, 0)) ∧ ((w.alloc (.cells c t)).alloc (.cells d t)).heap[w.heap.size + 1]? = some (.cells d t (0, 0)) := by
  refine ⟨(Below.heap_alloc _ _ _ (by simp)).trans (World.alloc_heap_new w _), ?_⟩
  have := World.alloc_heap_new (w.alloc (.cells c t)) (.cells d t)
  rw [World.size_alloc] at this
  exact this
theorem blk_cell {w : World} {b : Nat} {c : Array Value} {t : TypeId} {fr : Nat × Nat} (h : w.heap[b]? = some (.cells c t fr)) (i : Nat) : w.cell? ⟨b, i, none⟩ = c[i]? := by simp [World.cell?, h]
set_option maxRecDepth 100000 in
set_option maxHeartbeats 2000000 in
theorem sameRow_ok (i : Int) (xa : Option Addr) (xl xc : Nat) (ya : Option Addr) (yl yc : Nat) (x : List Int) (w : World) (hx : Ints w xa xl x) (hy : Ints w ya yl x) :
    Calls Try.prog 23 #[.agg #[.slice xa xl xc, .int .i64 i], .agg #[.slice ya yl yc, .int .i64 i]] w fun e w' => e = .returned (.bool true) ∧ Below w.heap.size w w' := by
  obtain ⟨W, hW⟩ : ∃ W, W = (w.alloc (.cells #[.slice xa xl xc, .int .i64 i] 51)).alloc (.cells #[.slice ya yl yc, .int .i64 i] 51) := ⟨_, rfl⟩
  have BW : Below w.heap.size w W := by rw [hW]; exact bl_on (bl_new _) (bl_new _)
  obtain ⟨F1, F2⟩ : W.heap[w.heap.size]? = some (.cells #[.slice xa xl xc, .int .i64 i] 51 (0, 0)) ∧ W.heap[w.heap.size + 1]? = some (.cells #[.slice ya yl yc, .int .i64 i] 51 (0, 0)) := by rw [hW]; exact box_two
  have a0 := blk_cell F1 0
  have a1 := blk_cell F1 1
  have b0 := blk_cell F2 0
  have b1 := blk_cell F2 1
  simp at a0 a1 b0 b1
  have z1 := (Array.getElem?_eq_some_iff.1 F1).1
  have z2 := (Array.getElem?_eq_some_iff.1 F2).1
  have HC := hide (sameList_any xa xl xc x ya yl yc x W (hx.below BW) (hy.below BW))
  have HW := hide hW
  have HB := hide BW
  clear hx hy hW BW F1 F2
  go_enter Try.func23, Try.ntmps23
  go_wp2_with fail
  rw [← HW.out]
  refine HC.out.mono ?_
  rintro e w1 ⟨he, n, rfl⟩
  simp only [decide_true] at he
  subst he
  go_wp2_with fail
  go_ret
  exact ⟨rfl, bl_on HB.out (below_drewN _ n)⟩
set_option maxRecDepth 100000 in
set_option maxHeartbeats 2000000 in
theorem sameAccess_ok (q q' : AW) (a : Acc) (w : World) (hq : AG w q a) (hq' : AG w q' a) :
    Calls Try.prog 90 #[q.v, q'.v] w fun e w' => e = .returned (.bool true) ∧ Below w.heap.size w w' := by
  obtain ⟨ar, xa, xl, xc, co⟩ := q
  obtain ⟨ar', ya, yl, yc, co'⟩ := q'
  obtain rfl : ar = ar' := hq.arr.trans hq'.arr.symm
  obtain rfl : co = co' := hq.con.trans hq'.con.symm
  have hx := hq.coef
  have hy := hq'.coef
  simp only at hx hy
  clear hq hq'
  unfold AW.v
  simp only
  obtain ⟨W, hW⟩ : ∃ W, W = (w.alloc (.cells #[.int .i64 ar, .slice xa xl xc, .int .i64 co] 71)).alloc (.cells #[.int .i64 ar, .slice ya yl yc, .int .i64 co] 71) := ⟨_, rfl⟩
  have BW : Below w.heap.size w W := by rw [hW]; exact bl_on (bl_new _) (bl_new _)
  obtain ⟨F1, F2⟩ : W.heap[w.heap.size]? = some (.cells #[.int .i64 ar, .slice xa xl xc, .int .i64 co] 71 (0, 0)) ∧ W.heap[w.heap.size + 1]? = some (.cells #[.int .i64 ar, .slice ya yl yc, .int .i64 co] 71 (0, 0)) := by rw [hW]; exact box_two
  have a0 := blk_cell F1 0
  have a1 := blk_cell F1 1
  have a2 := blk_cell F1 2
  have b0 := blk_cell F2 0
  have b1 := blk_cell F2 1
  have b2 := blk_cell F2 2
  simp at a0 a1 a2 b0 b1 b2
  have z1 := (Array.getElem?_eq_some_iff.1 F1).1
  have z2 := (Array.getElem?_eq_some_iff.1 F2).1
  have HC := hide (sameRow_ok co xa xl xc ya yl yc a.2.1 W (hx.below BW) (hy.below BW))
  have HW := hide hW
  have HB := hide BW
  clear hx hy hW BW F1 F2
  go_enter Try.func90, Try.ntmps90
  go_wp2_with fail
  rw [← HW.out]
  refine HC.out.mono ?_
  rintro e w1 ⟨rfl, hb⟩
  have HB1 := hide (bl_on HB.out hb)
  clear hb
  go_wp2_with fail
  go_ret
  exact ⟨rfl, HB1.out⟩
theorem sw_cells {w : World} {b : Nat} {q : SW} (h : q.blk w b) : w.cell? ⟨b, 0, none⟩ = some (.slice q.ba q.bl q.bc) ∧ w.cell? ⟨b, 1, none⟩ = some (.slice q.ra q.rl q.rc) ∧ w.cell? ⟨b, 2, none⟩ = some (.int .i64 q.kd) ∧ w.cell? ⟨b, 3, none⟩ = some (.int .i64 q.va) ∧ w.cell? ⟨b, 4, none⟩ = some (.int .i64 q.pu.arr) ∧ w.cell? ⟨b, 5, none⟩ = some (.slice q.pu.ca q.pu.cl q.pu.cc) ∧ w.cell? ⟨b, 6, none⟩ = some (.int .i64 q.pu.con) ∧ w.cell? ⟨b, 7, none⟩ = some (.slice q.ga q.gl q.gc) := h.cells
theorem Rws.two {w : World} {a a' : Option Addr} {l : Nat} {rs : List (List Int × Int)} (h : Rws w a l rs) (h' : Rws w a' l rs) {j : Nat} (hj : j < l) : ∃ b o b' o' xa xl xc ya yl yc x c, a = some ⟨b, o, none⟩ ∧ a' = some ⟨b', o', none⟩ ∧ w.cell? ⟨b, o + j * 2, none⟩ = some (.slice xa xl xc) ∧ w.cell? ⟨b, o + j * 2 + 1, none⟩ = some (.int .i64 c) ∧ w.cell? ⟨b', o' + j * 2, none⟩ = some (.slice ya yl yc) ∧ w.cell? ⟨b', o' + j * 2 + 1, none⟩ = some (.int .i64 c) ∧ Ints w xa xl x ∧ Ints w ya yl x := by
  rcases h.2.2 with h3 | ⟨b, o, rfl, h3⟩
  · omega
  rcases h'.2.2 with h4 | ⟨b', o', rfl, h4⟩
  · omega
  obtain ⟨xa, xl, xc, k1, k2, k3, _⟩ := h3 j hj
  obtain ⟨ya, yl, yc, m1, m2, m3, _⟩ := h4 j hj
  exact ⟨b, o, b', o', xa, xl, xc, ya, yl, yc, _, _, rfl, rfl, k1, k2, m1, m2, k3, m3⟩
theorem Accs.two {w : World} {a a' : Option Addr} {l : Nat} {gs : List Acc} (h : Accs w a l gs) (h' : Accs w a' l gs) {j : Nat} (hj : j < l) : ∃ (b o b' o' : Nat) (q q' : AW) (x : Acc), a = some ⟨b, o, none⟩ ∧ a' = some ⟨b', o', none⟩ ∧ AG w q x ∧ AG w q' x ∧ (w.cell? ⟨b, o + j * 3, none⟩ = some (.int .i64 q.arr) ∧ w.cell? ⟨b, o + j * 3 + 1, none⟩ = some (.slice q.ca q.cl q.cc) ∧ w.cell? ⟨b, o + j * 3 + 2, none⟩ = some (.int .i64 q.con)) ∧ (w.cell? ⟨b', o' + j * 3, none⟩ = some (.int .i64 q'.arr) ∧ w.cell? ⟨b', o' + j * 3 + 1, none⟩ = some (.slice q'.ca q'.cl q'.cc) ∧ w.cell? ⟨b', o' + j * 3 + 2, none⟩ = some (.int .i64 q'.con)) := by
  obtain ⟨b, o, rfl, h3⟩ := h.at (by omega)
  obtain ⟨b', o', rfl, h4⟩ := h'.at (by omega)
  obtain ⟨q, k1, k2⟩ := (h3 j hj).words
  obtain ⟨q', m1, m2⟩ := (h4 j hj).words
  exact ⟨b, o, b', o', q, q', _, rfl, rfl, k1, m1, k2, m2⟩
set_option maxRecDepth 100000 in
set_option maxHeartbeats 8000000 in
theorem sameStmt_ok (q q' : SW) (s : Stm) (w : World) (hq : SG w q s) (hq' : SG w q' s) :
    Calls Try.prog 53 #[q.v, q'.v] w fun e w' => e = .returned (.bool true) ∧ Below w.heap.size w w' := by
  obtain ⟨W, hW⟩ : ∃ W, W = (w.alloc (.cells q.cs 74)).alloc (.cells q'.cs 74) := ⟨_, rfl⟩
  have BW : Below w.heap.size w W := by rw [hW]; exact bl_on (bl_new _) (bl_new _)
  obtain ⟨F1, F2⟩ : q.blk W w.heap.size ∧ q'.blk W (w.heap.size + 1) := by rw [hW]; exact box_two
  have gq := hq.below BW
  have gq' := hq'.below BW
  have HG := hide gq
  have HG' := hide gq'
  have HF1 := hide F1
  have HF2 := hide F2
  have HB := hide BW
  have HW := hide hW
  have hrl : q'.rl = q.rl := gq'.rows.1.symm.trans gq.rows.1
  have hgl : q'.gl = q.gl := gq'.gets.1.symm.trans gq.gets.1
  have hkd : q'.kd = q.kd := gq'.kd.trans gq.kd.symm
  have hva : q'.va = q.va := gq'.va.trans gq.va.symm
  have hr63 := gq.rows.2.1
  have hg63 := gq.gets.2.1
  have HC1 := hide (sameList_any q.ba q.bl q.bc s.box q'.ba q'.bl q'.bc s.box W gq.box.1 gq'.box.1)
  obtain ⟨a0, a1, a2, a3, a4, a5, a6, a7⟩ := sw_cells F1
  obtain ⟨b0, b1, b2, b3, b4, b5, b6, b7⟩ := sw_cells F2
  have z1 := F1.lt
  have z2 := F2.lt
  rw [hrl] at b1
  rw [hgl] at b7
  rw [hkd] at b2
  rw [hva] at b3
  unfold SW.v
  unfold SW.cs at HW ⊢
  rw [hrl, hgl, hkd, hva] at HW ⊢
  have HRL := hide hrl
  have HGL := hide hgl
  clear hq hq' hW BW F1 F2 gq gq' hrl hgl hkd hva
  go_enter Try.func53, Try.ntmps53
  go_wp2_with fail
  rw [← HW.out]
  refine HC1.out.mono ?_
  rintro e w1 ⟨he, n1, hw1⟩
  simp only [decide_true] at he
  subst he
  have hb1 : Below W.heap.size W w1 := by rw [hw1]; exact below_drewN _ n1
  have HB1 := hide hb1
  clear hb1 hw1 a0 a1 a2 a3 a4 a5 a6 a7 b0 b1 b2 b3 b4 b5 b6 b7 z1 z2
  have G1x := HF1.out.below HB1.out
  have G2x := HF2.out.below HB1.out
  obtain ⟨a0, a1, a2, a3, a4, a5, a6, a7⟩ := sw_cells G1x
  obtain ⟨b0, b1, b2, b3, b4, b5, b6, b7⟩ := sw_cells G2x
  have z1 := G1x.lt
  have z2 := G2x.lt
  rw [HRL.out] at b1
  rw [HGL.out] at b7
  clear G1x G2x
  go_wp2_with fail
  refine (sameAccess_ok q.pu q'.pu s.put w1 (HG.out.put.below HB1.out) (HG'.out.put.below HB1.out)).mono ?_
  rintro e w2 ⟨rfl, hb2⟩
  have HB2 := hide (bl_on HB1.out hb2)
  clear hb2 a0 a1 a2 a3 a4 a5 a6 a7 b0 b1 b2 b3 b4 b5 b6 b7 z1 z2
  have G1x := HF1.out.below HB2.out
  have G2x := HF2.out.below HB2.out
  obtain ⟨a0, a1, a2, a3, a4, a5, a6, a7⟩ := sw_cells G1x
  obtain ⟨b0, b1, b2, b3, b4, b5, b6, b7⟩ := sw_cells G2x
  have z1 := G1x.lt
  have z2 := G2x.lt
  rw [HRL.out] at b1
  rw [HGL.out] at b7
  clear G1x G2x
  go_wp2_with fail
  go_loopw [61] (fun vi wr => ∃ j : Nat, j ≤ q.rl ∧ vi = .int .i64 j ∧ Below W.heap.size W wr) (fun vi _ => q.rl - (intOf vi).toNat)
  case atStart => exact ⟨0, Nat.zero_le _, rfl, HB2.out⟩
  case round =>
    obtain ⟨j, hj, rfl, hbr⟩ := hrel
    have HBR := hide hbr
    clear hbr a0 a1 a2 a3 a4 a5 a6 a7 b0 b1 b2 b3 b4 b5 b6 b7 z1 z2
    have G1x := HF1.out.below HBR.out
    have G2x := HF2.out.below HBR.out
    obtain ⟨a0, a1, a2, a3, a4, a5, a6, a7⟩ := sw_cells G1x
    obtain ⟨b0, b1, b2, b3, b4, b5, b6, b7⟩ := sw_cells G2x
    have z1 := G1x.lt
    have z2 := G2x.lt
    rw [HRL.out] at b1
    rw [HGL.out] at b7
    clear G1x G2x
    by_cases hjl : j < q.rl
    · have hjz : (j : Int) < (q.rl : Int) := by omega
      have hR' := HG'.out.rows.below HBR.out
      rw [HRL.out] at hR'
      obtain ⟨b, o, b', o', xa, xl, xc, ya, yl, yc, x, c, ea, ea', k1, k2, m1, m2, k3, m3⟩ := (HG.out.rows.below HBR.out).two hR' hjl
      rw [ea] at a1
      rw [ea'] at b1
      have y1 := lt_of_cell k1
      have y2 := lt_of_cell m1
      simp only at y1 y2
      have HC := hide (fun W' (hb : Below wr.heap.size wr W') => sameRow_ok c xa xl xc ya yl yc x W' (k3.below hb) (m3.below hb))
      clear hR' ea ea' k3 m3 a0 a2 a3 a4 a5 a6 a7 b0 b2 b3 b4 b5 b6 b7
      go_wp2_with fail
      go_region_held3 (fun w' => w'.cell? ⟨w.heap.size, 1, none⟩ = some (.slice (some ⟨b, o, none⟩) q.rl q.rc) ∧ w'.cell? ⟨w.heap.size + 1, 1, none⟩ = some (.slice (some ⟨b', o', none⟩) q.rl q'.rc) ∧ w'.cell? ⟨b, o + j * 2, none⟩ = some (.slice xa xl xc) ∧ w'.cell? ⟨b, o + j * 2 + 1, none⟩ = some (.int .i64 c) ∧ w'.cell? ⟨b', o' + j * 2, none⟩ = some (.slice ya yl yc) ∧ w'.cell? ⟨b', o' + j * 2 + 1, none⟩ = some (.int .i64 c)) (refine ⟨?_, ?_, ?_, ?_, ?_, ?_⟩ <;> with_reducible (repeat (first | assumption | apply drew_cell))) ((go_at_call 23; refine (HC.out _ ((Below.refl _ _).drew)).mono ?_; rintro e w3 ⟨rfl, hb3⟩; have hb4 := bl_on ((Below.refl wr.heap.size wr).drew) hb3; have HB4 := hide (bl_on HBR.out hb4); have s1 := (hb4.cell (p := ⟨w.heap.size, 1, none⟩) z1).trans a1; have s2 := (hb4.cell (p := ⟨w.heap.size + 1, 1, none⟩) z2).trans b1; have s3 := (hb4.cell (p := ⟨b, o + j * 2, none⟩) y1).trans k1; have s4 := (hb4.cell (p := ⟨b, o + j * 2 + 1, none⟩) y1).trans k2; have s5 := (hb4.cell (p := ⟨b', o' + j * 2, none⟩) y2).trans m1; have s6 := (hb4.cell (p := ⟨b', o' + j * 2 + 1, none⟩) y2).trans m2; clear hb3 hb4))
      go_wp2
      go_roundw
      case rel => exact ⟨j + 1, by omega, by go_num, HB4.out⟩
      case measure => simp [intOf]; omega
    · obtain rfl : j = q.rl := by omega
      have hjz : ¬ (q.rl : Int) < (q.rl : Int) := by omega
      go_wp2_with fail
      go_loopw [82] (fun vi wr => ∃ j : Nat, j ≤ q.gl ∧ vi = .int .i64 j ∧ Below W.heap.size W wr) (fun vi _ => q.gl - (intOf vi).toNat)
      case atStart => exact ⟨0, Nat.zero_le _, rfl, HBR.out⟩
      case round =>
        obtain ⟨i, hi, rfl, hbr⟩ := hrel
        clear HBR
        have HBR := hide hbr
        clear hbr a0 a1 a2 a3 a4 a5 a6 a7 b0 b1 b2 b3 b4 b5 b6 b7 z1 z2
        have G1x := HF1.out.below HBR.out
        have G2x := HF2.out.below HBR.out
        obtain ⟨_, _, _, _, _, _, _, a7⟩ := sw_cells G1x
        obtain ⟨_, _, _, _, _, _, _, b7⟩ := sw_cells G2x
        have z1 := G1x.lt
        have z2 := G2x.lt
        rw [HGL.out] at b7
        clear G1x G2x
        by_cases hil : i < q.gl
        · have hiz : (i : Int) < (q.gl : Int) := by omega
          have hR' := HG'.out.gets.below HBR.out
          rw [HGL.out] at hR'
          obtain ⟨b, o, b', o', p, p', x, ea, ea', k3, m3, ⟨k0, k1, k2⟩, ⟨m0, m1, m2⟩⟩ := (HG.out.gets.below HBR.out).two hR' hil
          rw [ea] at a7
          rw [ea'] at b7
          have y1 := lt_of_cell k1
          have y2 := lt_of_cell m1
          simp only at y1 y2
          have HC := hide (fun W' (hb : Below wr.heap.size wr W') => sameAccess_ok p p' x W' (k3.below hb) (m3.below hb))
          unfold AW.v at HC
          clear hR' ea ea' k3 m3
          go_wp2_with fail
          go_region_held3 (fun w' => w'.cell? ⟨w.heap.size, 7, none⟩ = some (.slice (some ⟨b, o, none⟩) q.gl q.gc) ∧ w'.cell? ⟨w.heap.size + 1, 7, none⟩ = some (.slice (some ⟨b', o', none⟩) q.gl q'.gc) ∧ w'.cell? ⟨b, o + i * 3, none⟩ = some (.int .i64 p.arr) ∧ w'.cell? ⟨b, o + i * 3 + 1, none⟩ = some (.slice p.ca p.cl p.cc) ∧ w'.cell? ⟨b, o + i * 3 + 2, none⟩ = some (.int .i64 p.con) ∧ w'.cell? ⟨b', o' + i * 3, none⟩ = some (.int .i64 p'.arr) ∧ w'.cell? ⟨b', o' + i * 3 + 1, none⟩ = some (.slice p'.ca p'.cl p'.cc) ∧ w'.cell? ⟨b', o' + i * 3 + 2, none⟩ = some (.int .i64 p'.con)) (refine ⟨?_, ?_, ?_, ?_, ?_, ?_, ?_, ?_⟩ <;> with_reducible (repeat (first | assumption | apply drew_cell))) ((go_at_call 90; refine (HC.out _ ((Below.refl _ _).drew)).mono ?_; rintro e w3 ⟨rfl, hb3⟩; have hb4 := bl_on ((Below.refl wr.heap.size wr).drew) hb3; have HB4 := hide (bl_on HBR.out hb4); have s1 := (hb4.cell (p := ⟨w.heap.size, 7, none⟩) z1).trans a7; have s2 := (hb4.cell (p := ⟨w.heap.size + 1, 7, none⟩) z2).trans b7; have s3 := (hb4.cell (p := ⟨b, o + i * 3, none⟩) y1).trans k0; have s4 := (hb4.cell (p := ⟨b, o + i * 3 + 1, none⟩) y1).trans k1; have s5 := (hb4.cell (p := ⟨b, o + i * 3 + 2, none⟩) y1).trans k2; have s6 := (hb4.cell (p := ⟨b', o' + i * 3, none⟩) y2).trans m0; have s7 := (hb4.cell (p := ⟨b', o' + i * 3 + 1, none⟩) y2).trans m1; have s8 := (hb4.cell (p := ⟨b', o' + i * 3 + 2, none⟩) y2).trans m2; clear hb3 hb4))
          go_wp2
          go_roundw
          case rel => exact ⟨i + 1, by omega, by go_num, HB4.out⟩
          case measure => simp [intOf]; omega
        · obtain rfl : i = q.gl := by omega
          have hiz : ¬ (q.gl : Int) < (q.gl : Int) := by omega
          go_wp2_with fail
          go_ret
          exact ⟨rfl, bl_on HB.out HBR.out⟩
theorem Stms.two {w : World} {a a' : Option Addr} {l : Nat} {ss : List Stm} (h : Stms w a l ss) (h' : Stms w a' l ss) {j : Nat} (hj : j < l) : ∃ (b o b' o' : Nat) (q q' : SW) (x : Stm), a = some ⟨b, o, none⟩ ∧ a' = some ⟨b', o', none⟩ ∧ SG w q x ∧ SG w q' x ∧ (w.cell? ⟨b, o + j * 8, none⟩ = some (.slice q.ba q.bl q.bc) ∧ w.cell? ⟨b, o + j * 8 + 1, none⟩ = some (.slice q.ra q.rl q.rc) ∧ w.cell? ⟨b, o + j * 8 + 2, none⟩ = some (.int .i64 q.kd) ∧ w.cell? ⟨b, o + j * 8 + 3, none⟩ = some (.int .i64 q.va) ∧ w.cell? ⟨b, o + j * 8 + 4, none⟩ = some (.int .i64 q.pu.arr) ∧ w.cell? ⟨b, o + j * 8 + 5, none⟩ = some (.slice q.pu.ca q.pu.cl q.pu.cc) ∧ w.cell? ⟨b, o + j * 8 + 6, none⟩ = some (.int .i64 q.pu.con) ∧ w.cell? ⟨b, o + j * 8 + 7, none⟩ = some (.slice q.ga q.gl q.gc)) ∧ (w.cell? ⟨b', o' + j * 8, none⟩ = some (.slice q'.ba q'.bl q'.bc) ∧ w.cell? ⟨b', o' + j * 8 + 1, none⟩ = some (.slice q'.ra q'.rl q'.rc) ∧ w.cell? ⟨b', o' + j * 8 + 2, none⟩ = some (.int .i64 q'.kd) ∧ w.cell? ⟨b', o' + j * 8 + 3, none⟩ = some (.int .i64 q'.va) ∧ w.cell? ⟨b', o' + j * 8 + 4, none⟩ = some (.int .i64 q'.pu.arr) ∧ w.cell? ⟨b', o' + j * 8 + 5, none⟩ = some (.slice q'.pu.ca q'.pu.cl q'.pu.cc) ∧ w.cell? ⟨b', o' + j * 8 + 6, none⟩ = some (.int .i64 q'.pu.con) ∧ w.cell? ⟨b', o' + j * 8 + 7, none⟩ = some (.slice q'.ga q'.gl q'.gc)) := by
  obtain ⟨b, o, rfl, h3⟩ := h.at (by omega)
  obtain ⟨b', o', rfl, h4⟩ := h'.at (by omega)
  obtain ⟨q, k1, k2⟩ := h3 j hj
  obtain ⟨q', m1, m2⟩ := h4 j hj
  exact ⟨b, o, b', o', q, q', _, rfl, rfl, k1, m1, k2, m2⟩
set_option maxRecDepth 100000 in
set_option maxHeartbeats 8000000 in
theorem sameNest_ok (za : Option Addr) (zl zc : Nat) (ta : Option Addr) (tl tc : Nat) (za' : Option Addr) (zl' zc' : Nat) (ta' : Option Addr) (tl' tc' : Nat) (zs : List Int) (ss : List Stm) (w : World) (hz : Ints w za zl zs) (hz' : Ints w za' zl' zs) (hs : Stms w ta tl ss) (hs' : Stms w ta' tl' ss) :
    Calls Try.prog 19 #[.agg #[.slice za zl zc, .slice ta tl tc], .agg #[.slice za' zl' zc', .slice ta' tl' tc']] w fun e w' => e = .returned (.bool true) ∧ Below w.heap.size w w' := by
  obtain ⟨W, hW⟩ : ∃ W, W = (w.alloc (.cells #[.slice za zl zc, .slice ta tl tc] 25)).alloc (.cells #[.slice za' zl' zc', .slice ta' tl' tc'] 25) := ⟨_, rfl⟩
  have BW : Below w.heap.size w W := by rw [hW]; exact bl_on (bl_new _) (bl_new _)
  obtain ⟨F1, F2⟩ : NsBlk W w.heap.size za zl zc ta tl tc ∧ NsBlk W (w.heap.size + 1) za' zl' zc' ta' tl' tc' := by rw [hW]; exact box_two
  obtain rfl : tl' = tl := hs'.1.symm.trans hs.1
  have h63 := hs.2.1
  have HF1 := hide F1
  have HF2 := hide F2
  have HB := hide BW
  have HW := hide hW
  have HS := hide (hs.below BW)
  have HS' := hide (hs'.below BW)
  have HC1 := hide (sameList_any za zl zc zs za' zl' zc' zs W (hz.below BW) (hz'.below BW))
  obtain ⟨a0, a1⟩ := F1.cells
  obtain ⟨b0, b1⟩ := F2.cells
  have z1 := F1.lt
  have z2 := F2.lt
  clear hz hz' hs hs' hW BW F1 F2
  go_enter Try.func19, Try.ntmps19
  go_wp2_with fail
  rw [← HW.out]
  refine HC1.out.mono ?_
  rintro e w1 ⟨he, n1, hw1⟩
  simp only [decide_true] at he
  subst he
  have hb1 : Below W.heap.size W w1 := by rw [hw1]; exact below_drewN _ n1
  have HB1 := hide hb1
  clear hb1 hw1 a0 a1 b0 b1 z1 z2
  obtain ⟨a0, a1⟩ := (HF1.out.below HB1.out).cells
  obtain ⟨b0, b1⟩ := (HF2.out.below HB1.out).cells
  have z1 := (HF1.out.below HB1.out).lt
  have z2 := (HF2.out.below HB1.out).lt
  go_wp2_with fail
  go_loopw [24] (fun vi wr => ∃ j : Nat, j ≤ tl' ∧ vi = .int .i64 j ∧ Below W.heap.size W wr) (fun vi _ => tl' - (intOf vi).toNat)
  case atStart => exact ⟨0, Nat.zero_le _, rfl, HB1.out⟩
  case round =>
    obtain ⟨i, hi, rfl, hbr⟩ := hrel
    have HBR := hide hbr
    clear hbr a0 a1 b0 b1 z1 z2
    obtain ⟨a0, a1⟩ := (HF1.out.below HBR.out).cells
    obtain ⟨b0, b1⟩ := (HF2.out.below HBR.out).cells
    have z1 := (HF1.out.below HBR.out).lt
    have z2 := (HF2.out.below HBR.out).lt
    clear a0 b0
    by_cases hil : i < tl'
    · have hiz : (i : Int) < (tl' : Int) := by omega
      obtain ⟨b, o, b', o', p, p', x, ea, ea', k8, m8, ⟨k0, k1, k2, k3, k4, k5, k6, k7⟩, ⟨m0, m1, m2, m3, m4, m5, m6, m7⟩⟩ := (HS.out.below HBR.out).two (HS'.out.below HBR.out) hil
      rw [ea] at a1
      rw [ea'] at b1
      have y1 := lt_of_cell k1
      have y2 := lt_of_cell m1
      simp only at y1 y2
      have HC := hide (fun W' (hb : Below wr.heap.size wr W') => sameStmt_ok p p' x W' (k8.below hb) (m8.below hb))
      unfold SW.v SW.cs at HC
      clear ea ea' k8 m8
      go_wp2_with fail
      go_region_held3 (fun w' => w'.cell? ⟨w.heap.size, 1, none⟩ = some (.slice (some ⟨b, o, none⟩) tl' tc) ∧ w'.cell? ⟨w.heap.size + 1, 1, none⟩ = some (.slice (some ⟨b', o', none⟩) tl' tc') ∧ (w'.cell? ⟨b, o + i * 8, none⟩ = some (.slice p.ba p.bl p.bc) ∧ w'.cell? ⟨b, o + i * 8 + 1, none⟩ = some (.slice p.ra p.rl p.rc) ∧ w'.cell? ⟨b, o + i * 8 + 2, none⟩ = some (.int .i64 p.kd) ∧ w'.cell? ⟨b, o + i * 8 + 3, none⟩ = some (.int .i64 p.va) ∧ w'.cell? ⟨b, o + i * 8 + 4, none⟩ = some (.int .i64 p.pu.arr) ∧ w'.cell? ⟨b, o + i * 8 + 5, none⟩ = some (.slice p.pu.ca p.pu.cl p.pu.cc) ∧ w'.cell? ⟨b, o + i * 8 + 6, none⟩ = some (.int .i64 p.pu.con) ∧ w'.cell? ⟨b, o + i * 8 + 7, none⟩ = some (.slice p.ga p.gl p.gc)) ∧ (w'.cell? ⟨b', o' + i * 8, none⟩ = some (.slice p'.ba p'.bl p'.bc) ∧ w'.cell? ⟨b', o' + i * 8 + 1, none⟩ = some (.slice p'.ra p'.rl p'.rc) ∧ w'.cell? ⟨b', o' + i * 8 + 2, none⟩ = some (.int .i64 p'.kd) ∧ w'.cell? ⟨b', o' + i * 8 + 3, none⟩ = some (.int .i64 p'.va) ∧ w'.cell? ⟨b', o' + i * 8 + 4, none⟩ = some (.int .i64 p'.pu.arr) ∧ w'.cell? ⟨b', o' + i * 8 + 5, none⟩ = some (.slice p'.pu.ca p'.pu.cl p'.pu.cc) ∧ w'.cell? ⟨b', o' + i * 8 + 6, none⟩ = some (.int .i64 p'.pu.con) ∧ w'.cell? ⟨b', o' + i * 8 + 7, none⟩ = some (.slice p'.ga p'.gl p'.gc))) (refine ⟨?_, ?_, ⟨?_, ?_, ?_, ?_, ?_, ?_, ?_, ?_⟩, ⟨?_, ?_, ?_, ?_, ?_, ?_, ?_, ?_⟩⟩ <;> with_reducible (repeat (first | assumption | apply drew_cell))) ((go_at_call 53; refine (HC.out _ ((Below.refl _ _).drew)).mono ?_; rintro e w3 ⟨rfl, hb3⟩; have hb4 := bl_on ((Below.refl wr.heap.size wr).drew) hb3; have HB4 := hide (bl_on HBR.out hb4); have s1 := (hb4.cell (p := ⟨w.heap.size, 1, none⟩) z1).trans a1; have s2 := (hb4.cell (p := ⟨w.heap.size + 1, 1, none⟩) z2).trans b1; have t0 := (hb4.cell (p := ⟨b, o + i * 8, none⟩) y1).trans k0; have u0 := (hb4.cell (p := ⟨b', o' + i * 8, none⟩) y2).trans m0; have t1 := (hb4.cell (p := ⟨b, o + i * 8 + 1, none⟩) y1).trans k1; have u1 := (hb4.cell (p := ⟨b', o' + i * 8 + 1, none⟩) y2).trans m1; have t2 := (hb4.cell (p := ⟨b, o + i * 8 + 2, none⟩) y1).trans k2; have u2 := (hb4.cell (p := ⟨b', o' + i * 8 + 2, none⟩) y2).trans m2; have t3 := (hb4.cell (p := ⟨b, o + i * 8 + 3, none⟩) y1).trans k3; have u3 := (hb4.cell (p := ⟨b', o' + i * 8 + 3, none⟩) y2).trans m3; have t4 := (hb4.cell (p := ⟨b, o + i * 8 + 4, none⟩) y1).trans k4; have u4 := (hb4.cell (p := ⟨b', o' + i * 8 + 4, none⟩) y2).trans m4; have t5 := (hb4.cell (p := ⟨b, o + i * 8 + 5, none⟩) y1).trans k5; have u5 := (hb4.cell (p := ⟨b', o' + i * 8 + 5, none⟩) y2).trans m5; have t6 := (hb4.cell (p := ⟨b, o + i * 8 + 6, none⟩) y1).trans k6; have u6 := (hb4.cell (p := ⟨b', o' + i * 8 + 6, none⟩) y2).trans m6; have t7 := (hb4.cell (p := ⟨b, o + i * 8 + 7, none⟩) y1).trans k7; have u7 := (hb4.cell (p := ⟨b', o' + i * 8 + 7, none⟩) y2).trans m7; clear hb3 hb4))
      go_wp2
      go_roundw
      case rel => exact ⟨i + 1, by omega, by go_num, HB4.out⟩
      case measure => simp [intOf]; omega
    · obtain rfl : i = tl' := by omega
      have hiz : ¬ (i : Int) < (i : Int) := by omega
      go_wp2_with fail
      go_ret
      exact ⟨rfl, bl_on HB.out HBR.out⟩
end Go.Proofs.Ytmmigbkilbfheaa.V
