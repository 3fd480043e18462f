/-
  Contract: the document's Do.
-/
import Derived.Test.YtindmfpfpooijaaNeRDo1
import Derived.Test.YtindmfpfpooijaaNeDo
import Derived.Test.YtindmfpfpooijaaPtLists
namespace Go.Proofs.Ytindmfpfpooijaa.V
open Go.RowKit
set_option linter.unusedVariables false

theorem info_i64 : (Try.prog.info? 2).map (fun i => (i.zero, i.size, i.bytes)) = some (some (.int .i64 0), 1, 8) := by kernel_rfl
/-- append(v, number): v of the call's own; the number lies in a block of one cell. -/
theorem append_num {w : World} {ops : Array Oper} {rest : List Oper} {op : Oper} {a : Act} {Q : Exit → Act → World → Prop} (hgd : op.guard = none) (s x : Operand)
    (ho : op.op = .call { callee := .builtin .append, args := #[s, x], argTypes := #[33, 33] }) (B : Nat)
    (v : Value) (xs : List Int) (hs : a.eval s = v) (n : Int) (hown : w.ownsRow B 2 1 v xs.length (xs.map (Value.int .i64)))
    (hx : a.eval x = .slice (some ⟨w.heap.size, 0, none⟩) 1 1) (hl : xs.length ≤ 1000) (hB : B ≤ w.heap.size)
    (h : ∀ v' w', w'.ownsRow B 2 1 v' (xs.length + 1) ((xs ++ [n]).map (Value.int .i64)) → Below B w w' → wpList Try.prog ops Q rest (a.put op.dst v') w') :
    wpList Try.prog ops Q (op :: rest) a (w.alloc (.cells #[.int .i64 n] 2)) := by
  obtain ⟨i0, hi, hz0, hz1, hz2⟩ := info_parts info_i64
  have hown' := hown.alloc (.cells #[.int .i64 n] 2)
  refine wpList_append_own _ hgd s x 33 ho B 2 i0 (.int .i64 0) 1 8 Try.underlying33 hi hz0 hz1 hz2 rfl (by decide) v xs.length _ hs hown' ⟨w.heap.size, 0, none⟩ 1 1 [.int .i64 n] hx rfl ?_ ?_ (by unfold maxLen; omega) (by omega) (by simp; omega) (fun v' w' k1 k2 _ => h v' w' (by rw [List.map_append]; exact k1) ?_)
  · intro j u hj
    have hjl : j = 0 := by have := (List.getElem?_eq_some_iff.1 hj).1; simp at this; exact this
    subst hjl
    simp at hj
    rw [← hj, Go.WideShapes.add_plain]
    show (w.alloc (.cells #[.int .i64 n] 2)).cell? ⟨w.heap.size, 0 + 0, none⟩ = _
    unfold World.cell?
    rw [World.alloc_heap_new w (.cells #[.int .i64 n] 2)]
    rfl
  · intro u hu; simp at hu; subst hu; rfl
  · exact ((Below.refl B w).alloc hB _).grown k2 (by simp; omega) (fun j e => (hown.lt j e).1)

theorem cells_two {W : World} {b : Nat} {x y : Value} {t : TypeId} (h : W.heap[b]? = some (.cells #[x, y] t (0, 0))) : W.cell? ⟨b, 0, none⟩ = some x ∧ W.cell? ⟨b, 1, none⟩ = some y := by
  refine ⟨?_, ?_⟩ <;> simp [World.cell?, h]
theorem ownsRow_below {W W' : World} {B n : Nat} {t : TypeId} {v : Value} {xs : List Value} (h : W.ownsRow B t 1 v n xs) (hb : Below W.heap.size W W') : W'.ownsRow B t 1 v n xs := by
  refine ⟨h.1, ?_⟩
  rcases h.2 with e | ⟨g, cap, cur, e1, e2, e3, e4⟩
  · exact .inl e
  · exact .inr ⟨g, cap, cur, e1, e2, (hb.block g (Array.getElem?_eq_some_iff.1 e3).1).trans e3, e4⟩
theorem lst64_of_own {w : World} {B : Nat} {v : Value} {n : Nat} {xs : List Int} (h : w.ownsRow B 2 1 v n (xs.map (Value.int .i64))) (hl : xs.length = n) (hm : n ≤ 9223372036854775807) (hb : ∀ x ∈ xs, -9223372036854775808 ≤ x ∧ x ≤ 9223372036854775807) : ∃ X c, v = .slice X n c ∧ Ints w X n xs ∧ n ≤ c := by
  have h' := h
  rcases h.2 with ⟨rfl, h2⟩ | ⟨g, cap, cur, rfl, h3, _, h4, _⟩
  · exact ⟨none, 0, by rw [h2], ⟨hl, hm, hb, .inl h2⟩, by omega⟩
  · refine ⟨_, _, rfl, ⟨hl, hm, hb, ?_⟩, h4⟩
    by_cases h0 : n = 0
    · exact .inl h0
    · refine .inr ⟨g, 0, rfl, fun j hj => ?_⟩
      rw [Nat.zero_add, h'.cellAt j (by omega)]
      simp [hl, hj]
theorem whereV_in {M : Mem} {ac : Acc} {x : List Int} (h : inM M ac x) : whereV M ac x = worthV ac.2 x ∧ 0 ≤ whereV M ac x := by unfold whereV; rw [if_pos h]; exact ⟨rfl, h.1⟩
theorem whereV_out {M : Mem} {ac : Acc} {x : List Int} (h : ¬ inM M ac x) : whereV M ac x = -1 := by unfold whereV; rw [if_neg h]

set_option maxRecDepth 100000 in
set_option maxHeartbeats 8000000 in
theorem rdo_any (N : Nat) (a : Option Addr) (len cap : Nat) (G C : Nat → Nat) (M : Mem) (za : Option Addr) (zc : Nat) (zs : List Int) (vt : Value) (q : SW) (s : Stm) (xa : Option Addr) (xl xc : Nat) (x : List Int) (w : World) (hM : Mems w N a G C M) (hl : M.length = len) (hz : Ints w za len zs) (hf : ∀ k, k < len → ((arrM M k).length : Int) = zs[k]?.getD 0) (hs : SG w q s) (ho : StmOk len s) (hx : Ints w xa xl x) (hxl : xl = q.bl) (hxb : ∀ y ∈ x, 0 ≤ y ∧ y ≤ 4096) :
    Calls Try.prog 16 #[.agg #[.slice za len zc, vt], q.v, .slice xa xl xc, .slice a len cap] w fun e w' => (∃ v, e = .returned v) ∧ Mems w' N a G C (doM s M x) ∧ Chg G M.length w w' := by
  have hm := hz.2.1
  have hbl := hs.box.1.1
  have hgl := hs.gets.1
  have hkd := hs.kd
  have hva := hs.va
  have hx4 : xl ≤ 4 := by have := (ptE_ok ho.pt).rank; omega
  have hb1 : xl = s.box.length := by omega
  have htk := ho.takes
  have htb := takes_bd s.kind
  have hg3 : q.gl ≤ 3 := by omega
  have HWH := hide (fun (W : World) (hb : Below w.heap.size w W) (q' : AW) (ac : Acc) (hq : AG W q' ac) (hac : AccOk len ac xl) => rWhere_any M za len zc zs vt q' ac xa xl xc x W (hz.below hb) hq hac (hx.below hb) hx4 hxb hf)
  have HOG := hide (fun ac h => (hb1 ▸ ho.gets ac h : AccOk len ac xl))
  have HOP := hide (hb1 ▸ ho.put : AccOk len s.put xl)
  have HNM := hide (fun (W : World) (X : Option Addr) (cv : Nat) (vs : List Int) (hv : Ints W X q.gl vs) => rNumber_any q X q.gl cv vs (gotM M s.put x) W hv (by rw [hkd, htk, hgl]))
  have HM := hide hM
  have HGE := hide hs.gets
  have HPT := hide hs.put
  have HGL := hide hgl
  have HBV : Hid (B64 (newM M s x)) := numV_bd hs.bd.2 (gotK_bd hM.bd _ _ _) (gotK_bd hM.bd _ _ _) (gotK_bd hM.bd _ _ _)
  have HNW : Hid (newM M s x = numV q.kd q.va (gotK M s x 0) (gotK M s x 1) (gotK M s x 2) (gotM M s.put x)) := by rw [Hid, hkd, hva]; rfl
  obtain ⟨W0, hW0⟩ : ∃ W0, W0 = (w.alloc (.cells #[.slice za len zc, vt] 25)).alloc (.cells q.cs 46) := ⟨_, rfl⟩
  have B0 : Below w.heap.size w W0 := by rw [hW0]; exact bl_on (bl_new _) (bl_new _)
  have N0 : W0.heap[w.heap.size]? = some (.cells #[.slice za len zc, vt] 25 (0, 0)) := by rw [hW0]; exact (Below.heap_alloc _ _ _ (by simp)).trans (World.alloc_heap_new w _)
  have Q0 : q.blk W0 (w.heap.size + 1) := by rw [hW0]; have := SW.new q (w.alloc (.cells #[.slice za len zc, vt] 25)); rwa [World.size_alloc] at this
  obtain ⟨p0, p1, p2, p3, p4, p5, p6, p7⟩ := Q0.cells
  obtain ⟨n0, n1⟩ := cells_two N0
  have HW0 := hide hW0
  have HB0 := hide B0
  have HQ0 := hide Q0
  have HN0 := hide N0
  have hz0 := Q0.lt
  have HWP := hide (HWH.out W0 B0 q.pu s.put (hs.put.below B0) HOP.out)
  obtain ⟨qs, hqs⟩ : ∃ qs, qs = q := ⟨_, rfl⟩
  have HQS := hide hqs
  have hpar := hs.put.arr
  have harr := HOP.out.arr
  obtain ⟨ba, bl, bc, ra, rl, rc, kd, va, ⟨parr, pca, pcl, pcc, pcon⟩, ga, gl, gc⟩ := q
  simp only [SW.v, SW.cs, AW.v] at *
  obtain ⟨k, hk⟩ : ∃ k : Nat, parr = (k : Int) := ⟨parr.toNat, by omega⟩
  have hkn : s.put.1.toNat = k := by omega
  have hkl : k < len := by omega
  have HKN := hide hkn
  subst hk
  have HHM := hide hl
  clear hM hs ho hx hxb B0 Q0 N0 hW0 htk htb hkd hva hqs hxl hb1 hbl hgl hz hf hpar harr hl hkn
  go_enter Try.func16, Try.ntmps16
  go_wp2_with fail
  rw [← HW0.out]
  refine HWP.out.mono ?_
  rintro e w1 ⟨rfl, hb⟩
  have HB1 := hide (bl_on HB0.out hb)
  have HQ1 := hide (HQ0.out.below hb)
  have HN1 := hide ((hb.block _ (by omega)).trans HN0.out)
  obtain ⟨p0, p1, p2, p3, p4, p5, p6, p7⟩ := HQ1.out.cells
  simp only at p0 p1 p2 p3 p4 p5 p6 p7
  obtain ⟨n0, n1⟩ := cells_two HN1.out
  have zq1 := HQ1.out.lt
  clear hb
  by_cases hin : inM M s.put x
  · obtain ⟨hw1, hw2⟩ := whereV_in hin
    obtain ⟨p, hp⟩ : ∃ p : Nat, whereV M s.put x = (p : Int) := ⟨(whereV M s.put x).toNat, by omega⟩
    rw [hp]
    have hwp : (worthV s.put.2 x).toNat = p := by rw [← hw1, hp]; simp
    have HWPP := hide hwp
    have HIN := hide hin
    have hpn : p < (arrM M k).length := by have h1 := hin.2; rw [HKN.out] at h1; omega
    have hp6 : p < 65536 := by have := HM.out.small k; omega
    have HPN := hide hpn
    clear hw1 hw2 hp hwp hin
    go_wp2_with fail
    go_loopw [9, 23] (fun v i wr => ∃ j : Nat, j ≤ gl ∧ i = .int .i64 j ∧ wr.ownsRow w1.heap.size 2 1 v j (((s.gets.take j).map (fun ac => gotM M ac x)).map (Value.int .i64)) ∧ Below w1.heap.size w1 wr) (fun _ i _ => gl - (intOf i).toNat)
    case atStart => exact ⟨0, Nat.zero_le _, rfl, World.ownsRow_nil _ _ _ _, Below.refl _ _⟩
    case round =>
      obtain ⟨j, hj, rfl, hown, hB⟩ := hrel
      have HOWN := hide hown
      have HBr := hide hB
      have HBa := hide (bl_on HB1.out hB)
      have HQr := hide (HQ1.out.below hB)
      have HNr := hide ((hB.block _ (Array.getElem?_eq_some_iff.1 HN1.out).1).trans HN1.out)
      clear p0 p1 p2 p3 p4 p5 p6 p7 n0 n1
      obtain ⟨p0, p1, p2, p3, p4, p5, p6, p7⟩ := HQr.out.cells
      simp only at p0 p1 p2 p3 p4 p5 p6 p7
      obtain ⟨n0, n1⟩ := cells_two HNr.out
      have zqr := HQr.out.lt
      clear hown hB
      by_cases hlt : j < gl
      · have hjl : j < s.gets.length := by rw [HGL.out]; exact hlt
        have HTL : Hid (((s.gets.take j).map (fun ac => gotM M ac x)).length = j) := by rw [Hid, List.length_map, List.length_take]; omega
        have HTS : Hid ((s.gets.take (j + 1)).map (fun ac => gotM M ac x) = (s.gets.take j).map (fun ac => gotM M ac x) ++ [gotM M (s.gets[j]?.getD accD) x]) := by
          rw [Hid, List.take_succ_eq_append_getElem hjl, List.map_append]; simp [hjl]
        obtain ⟨gb, go, rfl, hat⟩ := (HGE.out.below HBa.out).at (by omega)
        obtain ⟨q, hq, k1, k2, k3⟩ := (hat j hlt).words
        have z1 := lt_of_cell k1
        simp only at z1
        have B3 : Below wr.heap.size wr (wr.alloc (.cells #[.int .i64 q.arr, .slice q.ca q.cl q.cc, .int .i64 q.con] 43)) := bl_new _
        have hacc := HOG.out _ (mem_getA _ j hjl)
        have HC := hide (HWH.out _ (bl_on HBa.out B3) q _ (hq.below B3) hacc)
        obtain ⟨y0, y1, y2⟩ := (AW.new q wr).cells
        have HAQ4 := hide (AW.new q wr)
        have HB3 := hide B3
        have ha := hq.arr
        obtain ⟨aq, haq⟩ : ∃ aq, aq = s.gets[j]?.getD accD := ⟨_, rfl⟩
        rw [← haq] at HC hacc ha HTS
        have harr := hacc.arr
        obtain ⟨r1, r2⟩ := cells_two ((B3.block _ (Array.getElem?_eq_some_iff.1 HNr.out).1).trans HNr.out)
        obtain ⟨arr, ca, cl, cc, con⟩ := q
        simp only at *
        obtain ⟨i, hi⟩ : ∃ i : Nat, arr = (i : Int) := ⟨arr.toNat, by omega⟩
        have hin2 : aq.1.toNat = i := by omega
        have hil : i < len := by omega
        subst hi
        clear hat hq B3 hjl haq hacc harr ha
        go_wp2_with fail
        refine HC.out.mono ?_
        rintro e w3 ⟨rfl, hb⟩
        have HB4 := hide (bl_on HB3.out hb)
        have HBJ := hide (bl_on HBr.out HB4.out)
        have HOW3 := hide (ownsRow_below HOWN.out HB4.out)
        have HB5 := hide (bl_on HBa.out HB4.out)
        obtain ⟨y0, y1, y2⟩ := (HAQ4.out.below hb).cells
        simp only at y0 y1 y2
        have zy := (HAQ4.out.below hb).lt
        clear hb k1 k2 k3
        have HOWX : Hid (w3.ownsRow w1.heap.size 2 1 u9 ((s.gets.take j).map (fun ac => gotM M ac x)).length (((s.gets.take j).map (fun ac => gotM M ac x)).map (Value.int .i64))) := by rw [HTL.out]; exact HOW3.out
        by_cases hq : inM M aq x
        · obtain ⟨hw1, hw2⟩ := whereV_in hq
          obtain ⟨pp, hp⟩ : ∃ pp : Nat, whereV M aq x = (pp : Int) := ⟨(whereV M aq x).toNat, by omega⟩
          rw [hp]
          have hwp : (worthV aq.2 x).toNat = pp := by rw [← hw1, hp]; simp
          have hpn2 : pp < (arrM M i).length := by have h1 := hq.2; rw [hin2] at h1; omega
          have hM3 := HM.out.below HB5.out
          obtain ⟨mb, mo, rfl, hh, _⟩ := hM3.at (k := i) (by rw [HHM.out]; exact hil)
          have hrow := hM3.rows i (by rw [HHM.out]; exact hil)
          have hc := hrow.cell hpn2
          have hge : gotM M aq x = (arrM M i)[pp]?.getD 0 := by unfold gotM; rw [if_pos hq, hin2, hwp]
          rw [← hge] at hc
          obtain ⟨n, hn⟩ : ∃ n, n = (arrM M i).length := ⟨_, rfl⟩
          rw [← hn] at hh hpn2
          have hn6 : n ≤ 65536 := by rw [hn]; exact HM.out.small i
          have zh := lt_of_cell hh
          have zc := lt_of_cell hc
          simp only at zh zc
          obtain ⟨GV, hGV⟩ : ∃ GV, GV = gotM M aq x := ⟨_, rfl⟩
          rw [← hGV] at hc HTS
          clear hw1 hw2 hp hwp hq hM3 hrow hge hn hGV
          go_wp2_with (at_builtin; refine append_num rfl (.tmp 36) (.tmp 45) rfl w1.heap.size _ ((s.gets.take j).map (fun ac => gotM M ac x)) rfl GV HOWX.out rfl (by rw [HTL.out]; omega) (by have := HBJ.out.size; omega) ?_; intro v4 w4 hown4 hb4; have HO4 := hide hown4; have HB4' := hide hb4; clear hown4 hb4)
          go_roundw
          case rel =>
            refine ⟨j + 1, by omega, by go_num, ?_, (HBJ.out).trans HB4'.out⟩
            have := HO4.out
            rw [HTL.out] at this
            rw [HTS.out]; exact this
          case measure => simp [intOf]; omega
        · have hwo := whereV_out hq
          rw [hwo]
          have hge : gotM M aq x = 0 := by unfold gotM; rw [if_neg hq]
          rw [hge] at HTS
          clear hwo hq hge
          go_wp2_with (at_builtin; refine append_num rfl (.tmp 33) (.tmp 34) rfl w1.heap.size _ ((s.gets.take j).map (fun ac => gotM M ac x)) rfl 0 HOWX.out rfl (by rw [HTL.out]; omega) (by have := HBJ.out.size; omega) ?_; intro v4 w4 hown4 hb4; have HO4 := hide hown4; have HB4' := hide hb4; clear hown4 hb4)
          go_roundw
          case rel =>
            refine ⟨j + 1, by omega, by go_num, ?_, (HBJ.out).trans HB4'.out⟩
            have := HO4.out
            rw [HTL.out] at this
            rw [HTS.out]; exact this
          case measure => simp [intOf]; omega
      · obtain rfl : gl = j := by omega
        have hall : s.gets.take gl = s.gets := List.take_of_length_le (by rw [HGL.out]; exact Nat.le_refl _)
        have hown := HOWN.out
        rw [hall] at hown
        have hgk : ∀ i, gotK M s x i = (s.gets.map (fun ac => gotM M ac x))[i]?.getD 0 := fun i => by
          unfold gotK
          by_cases e : i < s.gets.length
          · rw [if_pos e]; simp [e]
          · rw [if_neg e, List.getElem?_eq_none (by simpa using e)]; rfl
        obtain ⟨X, cv, hXe, hXl, _⟩ := lst64_of_own hown (by rw [List.length_map, HGL.out]) (by omega) (fun y hy => by
          obtain ⟨ac, _, rfl⟩ := List.mem_map.1 hy
          exact gotM_bd HM.out.bd _ _)
        subst hXe
        have HXL := hide hXl
        have hMr := HM.out.below HBa.out
        obtain ⟨b, off, rfl, hh, hgb⟩ := hMr.at (k := k) (by rw [HHM.out]; exact hkl)
        have hrow := hMr.rows k (by rw [HHM.out]; exact hkl)
        have hc := hrow.cell HPN.out
        obtain ⟨was, hwas⟩ : ∃ was, was = gotM M s.put x := ⟨_, rfl⟩
        have hg : gotM M s.put x = (arrM M k)[p]?.getD 0 := by unfold gotM; rw [if_pos HIN.out, HKN.out, HWPP.out]
        rw [← hg, ← hwas] at hc
        obtain ⟨V, hV⟩ : ∃ V, V = newM M s x := ⟨_, rfl⟩
        have HVN := hide hV
        rw [HNW.out, hgk 0, hgk 1, hgk 2, ← hwas] at hV
        have HV := hide hV
        have HNU := hide (fun (wz : World) (hb : Below wr.heap.size wr wz) => HNM.out wz X cv (s.gets.map (fun ac => gotM M ac x)) (HXL.out.below hb))
        rw [← hwas] at HNU
        obtain ⟨n, hn⟩ : ∃ n, n = (arrM M k).length := ⟨_, rfl⟩
        obtain ⟨c, hcc⟩ : ∃ c, c = C k := ⟨_, rfl⟩
        rw [← hn, ← hcc] at hh
        have hpn3 : p < n := by rw [hn]; exact HPN.out
        have hn6 : n ≤ 65536 := by rw [hn]; exact HM.out.small k
        obtain ⟨gk, hgke⟩ : ∃ gk, gk = G k := ⟨_, rfl⟩
        rw [← hgke] at hc hh
        have HGK2 := hide hgke
        have HFR := hide (fun (wz : World) (hb : Below wr.heap.size wr wz) => (hrow.below hb).frozen p)
        rw [← hgke] at HFR
        have HMW := hide hMr
        have zh := lt_of_cell hh
        have zc := lt_of_cell hc
        simp only at zh zc
        clear hall hown hgk hXl hMr hrow hwas hg hV hn hcc hgke hgb
        go_wp2_with fail
        refine region_made 20 20 [fIs (.slice (some ⟨b, off, none⟩) len cap), fIs (.pointer (some ⟨w.heap.size + 1, 4, none⟩)), fIs (.pointer (some ⟨w.heap.size + 1, 4, none⟩)), fIs (.int .i64 (k : Int)), fIs (.pointer (some ⟨b, off + k, none⟩)), fIs (.slice (some ⟨gk, 0, none⟩) n c), fIs (.int .i64 (p : Int)), fIs (.agg #[.slice ba bl bc, .slice ra rl rc, .int .i64 kd, .int .i64 va, .int .i64 (k : Int), .slice pca pcl pcc, .int .i64 pcon, .slice ga gl gc]), fIs (.slice X gl cv), fIs (.slice (some ⟨b, off, none⟩) len cap), fIs (.pointer (some ⟨w.heap.size + 1, 4, none⟩)), fIs (.pointer (some ⟨w.heap.size + 1, 4, none⟩)), fIs (.int .i64 (k : Int)), fIs (.pointer (some ⟨b, off + k, none⟩)), fIs (.slice (some ⟨gk, 0, none⟩) n c), fIs (.int .i64 (p : Int)), fIs (.pointer (some ⟨gk, p, none⟩)), fIs (.int .i64 was), fIs (.int .i64 V), fIs (.pointer (some ⟨gk, p, none⟩))] (by kernel_rfl) (by kernel_rfl) (by kernel_rfl) (fun _ ⟨_, _⟩ ⟨_, _⟩ _ e h => by cases e; exact h) ⟨fIs_good _, fIs_good _, fIs_good _, fIs_good _, fIs_good _, fIs_good _, fIs_good _, fIs_good _, fIs_good _, fIs_good _, fIs_good _, fIs_good _, fIs_good _, fIs_good _, fIs_good _, fIs_good _, fIs_good _, fIs_good _, fIs_good _, fIs_good _, trivial⟩ ?mk ?rest
        case mk =>
          refine ⟨fun u wz hb hd => ?_, fun u wz hb hd => ?_, fun u wz hb hd => ?_, fun u wz hb hd => ?_, fun u wz hb hd => ?_, fun u wz hb hd => ?_, fun u wz hb hd => ?_, fun u wz hb hd => ?_, fun u wz hb hd => ?_, fun u wz hb hd => ?_, fun u wz hb hd => ?_, fun u wz hb hd => ?_, fun u wz hb hd => ?_, fun u wz hb hd => ?_, fun u wz hb hd => ?_, fun u wz hb hd => ?_, fun u wz hb hd => ?_, fun u wz hb hd => ?_, fun u wz hb hd => ?_, fun u wz hb hd => ?_, trivial⟩
          all_goals simp only [Act.put, List.setIfInBounds_toArray, List.set_cons_zero, List.set_cons_succ]
          · go_simp
            exact ⟨rfl, Below.refl _ _, fun h => by cases h⟩
          · go_simp
            exact ⟨rfl, Below.refl _ _, fun h => by cases h⟩
          · have e1 : u 1 = .pointer (some ⟨w.heap.size + 1, 4, none⟩) := hd 1 (by omega) (by kernel_rfl)
            rw [e1]
            go_simp
            exact ⟨rfl, Below.refl _ _, fun h => by cases h⟩
          · have e2 : u 2 = .pointer (some ⟨w.heap.size + 1, 4, none⟩) := hd 2 (by omega) (by kernel_rfl)
            rw [e2]
            have p4' := (hb.cell (p := ⟨w.heap.size + 1, 4, none⟩) (lt_of_cell p4)).trans p4
            go_simp
            exact ⟨rfl, Below.refl _ _, fun h => by cases h⟩
          · have e0 : u 0 = .slice (some ⟨b, off, none⟩) len cap := hd 0 (by omega) (by kernel_rfl)
            have e3 : u 3 = .int .i64 (k : Int) := hd 3 (by omega) (by kernel_rfl)
            rw [e0, e3]
            go_simp
            exact ⟨rfl, Below.refl _ _, fun h => by cases h⟩
          · have e4 : u 4 = .pointer (some ⟨b, off + k, none⟩) := hd 4 (by omega) (by kernel_rfl)
            rw [e4]
            have hh' := (hb.cell (p := ⟨b, off + k, none⟩) (lt_of_cell hh)).trans hh
            go_simp
            exact ⟨rfl, Below.refl _ _, fun h => by cases h⟩
          · go_simp
            exact ⟨rfl, Below.refl _ _, fun h => by cases h⟩
          · have p0' := (hb.cell (p := ⟨w.heap.size + 1, 0, none⟩) (lt_of_cell p0)).trans p0
            have p1' := (hb.cell (p := ⟨w.heap.size + 1, 1, none⟩) (lt_of_cell p1)).trans p1
            have p2' := (hb.cell (p := ⟨w.heap.size + 1, 2, none⟩) (lt_of_cell p2)).trans p2
            have p3' := (hb.cell (p := ⟨w.heap.size + 1, 3, none⟩) (lt_of_cell p3)).trans p3
            have p4' := (hb.cell (p := ⟨w.heap.size + 1, 4, none⟩) (lt_of_cell p4)).trans p4
            have p5' := (hb.cell (p := ⟨w.heap.size + 1, 5, none⟩) (lt_of_cell p5)).trans p5
            have p6' := (hb.cell (p := ⟨w.heap.size + 1, 6, none⟩) (lt_of_cell p6)).trans p6
            have p7' := (hb.cell (p := ⟨w.heap.size + 1, 7, none⟩) (lt_of_cell p7)).trans p7
            go_simp
            exact ⟨rfl, Below.refl _ _, fun h => by cases h⟩
          · go_simp
            exact ⟨rfl, Below.refl _ _, fun h => by cases h⟩
          · go_simp
            exact ⟨rfl, Below.refl _ _, fun h => by cases h⟩
          · go_simp
            exact ⟨rfl, Below.refl _ _, fun h => by cases h⟩
          · have e10 : u 10 = .pointer (some ⟨w.heap.size + 1, 4, none⟩) := hd 10 (by omega) (by kernel_rfl)
            rw [e10]
            go_simp
            exact ⟨rfl, Below.refl _ _, fun h => by cases h⟩
          · have e11 : u 11 = .pointer (some ⟨w.heap.size + 1, 4, none⟩) := hd 11 (by omega) (by kernel_rfl)
            rw [e11]
            have p4' := (hb.cell (p := ⟨w.heap.size + 1, 4, none⟩) (lt_of_cell p4)).trans p4
            go_simp
            exact ⟨rfl, Below.refl _ _, fun h => by cases h⟩
          · have e9 : u 9 = .slice (some ⟨b, off, none⟩) len cap := hd 9 (by omega) (by kernel_rfl)
            have e12 : u 12 = .int .i64 (k : Int) := hd 12 (by omega) (by kernel_rfl)
            rw [e9, e12]
            go_simp
            exact ⟨rfl, Below.refl _ _, fun h => by cases h⟩
          · have e13 : u 13 = .pointer (some ⟨b, off + k, none⟩) := hd 13 (by omega) (by kernel_rfl)
            rw [e13]
            have hh' := (hb.cell (p := ⟨b, off + k, none⟩) (lt_of_cell hh)).trans hh
            go_simp
            exact ⟨rfl, Below.refl _ _, fun h => by cases h⟩
          · go_simp
            exact ⟨rfl, Below.refl _ _, fun h => by cases h⟩
          · have e14 : u 14 = .slice (some ⟨gk, 0, none⟩) n c := hd 14 (by omega) (by kernel_rfl)
            have e15 : u 15 = .int .i64 (p : Int) := hd 15 (by omega) (by kernel_rfl)
            rw [e14, e15]
            go_simp
            exact ⟨rfl, Below.refl _ _, fun h => by cases h⟩
          · have e16 : u 16 = .pointer (some ⟨gk, p, none⟩) := hd 16 (by omega) (by kernel_rfl)
            rw [e16]
            have hc' := (hb.cell (p := ⟨gk, p, none⟩) (lt_of_cell hc)).trans hc
            go_simp
            exact ⟨rfl, Below.refl _ _, fun h => by cases h⟩
          · have e7 : u 7 = .agg #[.slice ba bl bc, .slice ra rl rc, .int .i64 kd, .int .i64 va, .int .i64 (k : Int), .slice pca pcl pcc, .int .i64 pcon, .slice ga gl gc] := hd 7 (by omega) (by kernel_rfl)
            have e8 : u 8 = .slice X gl cv := hd 8 (by omega) (by kernel_rfl)
            have e17 : u 17 = .int .i64 was := hd 17 (by omega) (by kernel_rfl)
            rw [e7, e8, e17]
            go_simp
            refine (HNU.out wz hb).mono ?_
            rintro e w2 ⟨rfl, hb2⟩
            exact ⟨by rw [HV.out]; rfl, hb2, fun h => by cases h⟩
          · have e5 : u 5 = .slice (some ⟨gk, 0, none⟩) n c := hd 5 (by omega) (by kernel_rfl)
            have e6 : u 6 = .int .i64 (p : Int) := hd 6 (by omega) (by kernel_rfl)
            rw [e5, e6]
            go_simp
            exact ⟨rfl, Below.refl _ _, fun h => by cases h⟩
        case rest =>
          intro u wz hb hf hp
          have f0 : u 0 = .slice (some ⟨b, off, none⟩) len cap := hf 0 (by omega)
          have f1 : u 1 = .pointer (some ⟨w.heap.size + 1, 4, none⟩) := hf 1 (by omega)
          have f2 : u 2 = .pointer (some ⟨w.heap.size + 1, 4, none⟩) := hf 2 (by omega)
          have f3 : u 3 = .int .i64 (k : Int) := hf 3 (by omega)
          have f4 : u 4 = .pointer (some ⟨b, off + k, none⟩) := hf 4 (by omega)
          have f5 : u 5 = .slice (some ⟨gk, 0, none⟩) n c := hf 5 (by omega)
          have f6 : u 6 = .int .i64 (p : Int) := hf 6 (by omega)
          have f7 : u 7 = .agg #[.slice ba bl bc, .slice ra rl rc, .int .i64 kd, .int .i64 va, .int .i64 (k : Int), .slice pca pcl pcc, .int .i64 pcon, .slice ga gl gc] := hf 7 (by omega)
          have f8 : u 8 = .slice X gl cv := hf 8 (by omega)
          have f9 : u 9 = .slice (some ⟨b, off, none⟩) len cap := hf 9 (by omega)
          have f10 : u 10 = .pointer (some ⟨w.heap.size + 1, 4, none⟩) := hf 10 (by omega)
          have f11 : u 11 = .pointer (some ⟨w.heap.size + 1, 4, none⟩) := hf 11 (by omega)
          have f12 : u 12 = .int .i64 (k : Int) := hf 12 (by omega)
          have f13 : u 13 = .pointer (some ⟨b, off + k, none⟩) := hf 13 (by omega)
          have f14 : u 14 = .slice (some ⟨gk, 0, none⟩) n c := hf 14 (by omega)
          have f15 : u 15 = .int .i64 (p : Int) := hf 15 (by omega)
          have f16 : u 16 = .pointer (some ⟨gk, p, none⟩) := hf 16 (by omega)
          have f17 : u 17 = .int .i64 was := hf 17 (by omega)
          have f18 : u 18 = .int .i64 V := hf 18 (by omega)
          have f19 : u 19 = .pointer (some ⟨gk, p, none⟩) := hf 19 (by omega)
          refine UptoW.rest 1 20 (by rfl) (by kernel_rfl) ?_
          simp only [List.take, List.drop, putOps, Act.put, List.setIfInBounds_toArray, List.set_cons_zero, List.set_cons_succ, Nat.reduceAdd, f0, f1, f2, f3, f4, f5, f6, f7, f8, f9, f10, f11, f12, f13, f14, f15, f16, f17, f18, f19]
          clear f0 f1 f2 f3 f4 f5 f6 f7 f8 f9 f10 f11 f12 f13 f14 f15 f16 f17 f18 f19 hf hp
          have HB6 := hide (bl_on HBa.out hb)
          have fr := HFR.out wz hb
          have c' := (hb.cell (p := ⟨gk, p, none⟩) (lt_of_cell hc)).trans hc
          have HM6 := hide (HMW.out.below hb)
          have zz := hb.size
          clear hb
          go_wp2_with fail
          refine bodyPost_end (results_none rfl _ _ _) rfl ⟨⟨_, rfl⟩, ?_, ?_⟩
          · unfold doM
            rw [if_pos HIN.out, ← HVN.out, HKN.out, HWPP.out, HGK2.out]
            exact HM6.out.put (by rw [HHM.out]; exact hkl) HPN.out (by rw [HVN.out]; exact HBV.out)
          · rw [HGK2.out]
            exact Chg.set HB6.out (by rw [HHM.out]; exact hkl) _ _
  · have hwo := whereV_out hin
    rw [hwo]
    have HIN := hide hin
    clear hwo hin
    go_wp2_with fail
    refine bodyPost_ret (results_none rfl _ _ _) rfl ⟨⟨_, rfl⟩, ?_, Chg.of_below HB1.out⟩
    unfold doM
    rw [if_neg HIN.out]
    exact HM.out.below HB1.out
end Go.Proofs.Ytindmfpfpooijaa.V
