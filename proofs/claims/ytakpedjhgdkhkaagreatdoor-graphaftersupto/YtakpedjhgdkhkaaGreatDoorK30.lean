import Derived.Test.YtakpedjhgdkhkaaGreatDoorK29
namespace Go.Proofs.YtakpedjhgdkhkaaGreatDoor.V
set_option maxRecDepth 100000
set_option maxHeartbeats 8000000
open Go.RowKit
theorem taken_len6 {xs ys:List Int} {n:Nat} (h:ys.length<=n):(taken xs ys).length<=n:=by rw [taken_length];exact h
theorem dotDims_any (k x:Int) (vd:Value) (pa:Option Addr) (pl pc:Nat) (ps:List Int) (la:Option Addr) (ll lc:Nat) (lo:List Int) (ha:Option Addr) (hl hc:Nat) (hi:List Int) (ta:Option Addr) (tl tc:Nat) (st:List Int) (da:Option Addr) (dl dc:Nat) (ds:List Int) (ea:Option Addr) (el ec:Nat) (es:List Int) (w:World)
 (hp:Lst w pa pl pc ps) (hlo:Lst w la ll lc lo) (hhi:Lst w ha hl hc hi) (hst:Lst w ta tl tc st) (hd:Ints w da dl ds) (he:Ints w ea el es) (h6:dl<=6) (h6':el<=6) :
 Calls Tryz.prog 63 #[.agg #[.int .i64 k,vd,.slice pa pl pc,.slice la ll lc,.slice ha hl hc,.slice ta tl tc,.int .i64 x],.slice da dl dc,.slice ea el ec] w fun e w'=>OutP e w' (dotP ps st lo hi ds es)/\Below w.heap.size w w':=by
 have HP:=hide hp
 have HLO:=hide hlo
 have HHI:=hide hhi
 have HST:=hide hst
 have HD:=hide hd
 have HE:=hide he
 have HND:=hide hd.1
 have HNE:=hide he.1
 have HLL:=hide hlo.1.1
 have HLP:=hide hp.1.1
 clear hp hlo hhi hst hd he
 have HB0:=hide ((Below.refl w.heap.size w).alloc (Nat.le_refl _) (.cells #[.int .i64 k,vd,.slice pa pl pc,.slice la ll lc,.slice ha hl hc,.slice ta tl tc,.int .i64 x] 38))
 have HC1:=hide (sides_any k x vd pa pl pc ps la ll lc lo ha hl hc hi ta tl tc st da dl dc ds ea el ec es _ (HP.out.below HB0.out) (HLO.out.below HB0.out) (HHI.out.below HB0.out) (HST.out.below HB0.out) (HD.out.below HB0.out) (HE.out.below HB0.out) h6 h6')
 obtain ⟨o0,o1,o2,o3,o4,o5,o6⟩:=(OpAt.new w k vd (.slice pa pl pc) (.slice la ll lc) (.slice ha hl hc) (.slice ta tl tc) x).cells
 cases q:dotB ps st lo hi ds es with
 | false =>
  have hpp:dotP ps st lo hi ds es=([],6):=by unfold dotP;rw [if_neg (by simp [q])]
  rw [hpp]
  have Q:=hide q
  clear hpp q
  go_enter Tryz.func63,Tryz.ntmps63
  go_wp2_with (go_at_call 87;refine HC1.out.mono ?_;rintro e w1 ⟨hsp,hb⟩;obtain ⟨_,rfl⟩:=hsp.resolve_left (fun hh=>by { have:=hh.1;rw [Q.out] at this;cases this });have HB1:=hide (Below.on HB0.out hb);clear hsp hb)
  go_ret2
  exact ⟨outP_none _ _,(HB1.out.alloc HB1.out.size _).alloc (HB1.out.alloc HB1.out.size _).size _⟩
 | true =>
  have hpp:dotP ps st lo hi ds es=(dotL ps st lo hi ds es,0):=by unfold dotP;rw [if_pos q]
  rw [hpp]
  have Q:=hide q
  have hcA:Once (lo++ps) dl:=by
   have:=q
   simp only [dotB,Bool.and_eq_true] at this
   rw [<-HND.out];exact (onceB_iff _ _).1 this.1
  have HCA:=hide hcA
  have HINL:Hid (∀ y∈lo,0<=y/\y<(dl:Int)):=fun y hy=>(once_iff.1 hcA).1 y (List.mem_append_left _ hy)
  have hs1:ll+pl<=6:=by have:=once_len hcA;rw [List.length_append,HLL.out,HLP.out] at this;omega
  have HTA:Hid (∀ wx,Below w.heap.size w wx->∀ X n c (ys:List Int),Ints wx X n ys->(∀ y∈ys,0<=y/\y<(dl:Int))->n<=6->Calls Tryz.prog 84 #[.slice da dl dc,.slice X n c] wx fun e w'=>GivesL wx e w' (taken ds ys)/\Below wx.heap.size wx w'):=fun wx hx X n c ys h1 h2 h3=>these_any _ _ _ ds _ _ _ ys _ (HD.out.below hx) h1 h2 h3
  have HTB:Hid (∀ wx,Below w.heap.size w wx->∀ X n c (ys:List Int),Ints wx X n ys->(∀ y∈ys,0<=y/\y<(el:Int))->n<=6->Calls Tryz.prog 84 #[.slice ea el ec,.slice X n c] wx fun e w'=>GivesL wx e w' (taken es ys)/\Below wx.heap.size wx w'):=fun wx hx X n c ys h1 h2 h3=>these_any _ _ _ es _ _ _ ys _ (HE.out.below hx) h1 h2 h3
  have HF:Hid (∀ W,Below w.heap.size w W->∀ X3 n3 c3 X4 n4 c4 X5 n5 c5,Lst W X3 n3 c3 (taken ds lo)->Lst W X4 n4 c4 (taken ds (freeL (lo++ps) dl))->Lst W X5 n5 c5 (taken es (freeL (hi++st) el))->∀ w1,w1=W.alloc (.cells #[.slice X3 n3 c3,.slice X4 n4 c4,.slice X5 n5 c5] 23)->Calls Tryz.prog 88 #[.slice (some ⟨W.heap.size,0,none⟩) 3 3] w1 fun e w'=>GivesL w e w' (dotL ps st lo hi ds es)/\Below W.heap.size W w'):=by
   intro W hW X3 n3 c3 X4 n4 c4 X5 n5 c5 h3 h4 h5 w1 hw1
   subst hw1
   have e:[taken ds lo,taken ds (freeL (lo++ps) dl),taken es (freeL (hi++st) el)].flatten=dotL ps st lo hi ds es:=by simp [dotL,HND.out,HNE.out]
   have e3:(taken ds lo).length<=6:=taken_len6 (by rw [HLL.out];omega)
   have e4:(taken ds (freeL (lo++ps) dl)).length<=6:=taken_len6 (Nat.le_trans (freeL_len _ _) h6)
   have e5:(taken es (freeL (hi++st) el)).length<=6:=taken_len6 (Nat.le_trans (freeL_len _ _) h6')
   refine (chain_any _ _ _ [taken ds lo,taken ds (freeL (lo++ps) dl),taken es (freeL (hi++st) el)] _ (lsts_three h3 h4 h5 _ rfl) (by simp;omega) ?_).mono ?_
   · intro y hy
     simp only [List.flatten_cons,List.flatten_nil,List.append_nil,List.mem_append] at hy
     rcases hy with hy | hy | hy
     · exact h3.1.2.2.1 y hy
     · exact h4.1.2.2.1 y hy
     · exact h5.1.2.2.1 y hy
   · rintro e1 w2 ⟨⟨v,rfl,hv⟩,hb2⟩
     rw [e] at hv
     exact ⟨⟨v,rfl,newAt_mono hv (by have:=hW.size;simp;omega)⟩,Below.on ((Below.refl W.heap.size W).alloc (Nat.le_refl _) _) hb2⟩
  clear hpp q hcA
  go_enter Tryz.func63,Tryz.ntmps63
  go_wp2_with (go_at_call 87;refine HC1.out.mono ?_;rintro e w1 ⟨hsp,hb⟩;obtain ⟨_,X1,n1,d1,X2,n2,d2,rfl,hl1,hl2⟩:=hsp.resolve_right (fun hh=>by { have:=hh.1;rw [Q.out] at this;cases this });rw [HND.out] at hl1;rw [HNE.out] at hl2;have HL1:=hide hl1;have HL2:=hide hl2;have HB1:=hide (Below.on HB0.out hb);have hn1:n1<=6:=by { have:=hl1.1.1;have:=freeL_len (lo++ps) dl;omega };have hn2:n2<=6:=by { have:=hl2.1.1;have:=freeL_len (hi++st) el;omega };clear hsp hb hl1 hl2)
  have HS1:=hide ((SideAt.new w1 (.slice la ll lc) (.slice X1 n1 d1) (.slice pa pl pc)).alloc (.cells #[.slice ha hl hc,.slice X2 n2 d2,.slice ta tl tc] 97))
  have hs2:=SideAt.new (w1.alloc (.cells #[.slice la ll lc,.slice X1 n1 d1,.slice pa pl pc] 97)) (.slice ha hl hc) (.slice X2 n2 d2) (.slice ta tl tc)
  simp only [World.size_alloc] at hs2
  have HA0:=hide (((Below.refl w1.heap.size w1).alloc (Nat.le_refl _) (.cells #[.slice la ll lc,.slice X1 n1 d1,.slice pa pl pc] 97)).alloc (by simp) (.cells #[.slice ha hl hc,.slice X2 n2 d2,.slice ta tl tc] 97))
  obtain ⟨⟨c00,c01,_⟩,_⟩:=HS1.out.cells
  obtain ⟨⟨_,c02,_⟩,_⟩:=hs2.cells
  clear hs2
  generalize hW2:((w1.alloc (.cells #[.slice la ll lc,.slice X1 n1 d1,.slice pa pl pc] 97)).alloc (.cells #[.slice ha hl hc,.slice X2 n2 d2,.slice ta tl tc] 97))=W2 at c00 c01 c02 HA0 ⊢
  have HBB2:=hide (Below.on HB1.out HA0.out)
  clear hW2 HS1
  go_region_held3 (fun w'=>w'.cell? ⟨w1.heap.size,0,none⟩=some (.slice la ll lc)/\w'.cell? ⟨w1.heap.size,1,none⟩=some (.slice X1 n1 d1)/\w'.cell? ⟨w1.heap.size+1,1,none⟩=some (.slice X2 n2 d2)) (refine ⟨?_,?_,?_⟩<;>with_reducible (repeat (first | assumption | apply drew_cell | apply alloc_cell))) ((first | (go_at_call_of 84 (Value.slice la ll lc);refine (HTA.out _ (HBB2.out.drew) _ _ _ (lo) ((HLO.out.below HBB2.out.drew).1) (HINL.out) (by omega)).mono ?_;rintro e w3 ⟨⟨v3,rfl,Y3,k3,e3,rfl,hl3,_⟩,hb⟩;have HL3:=hide hl3;have HX3:=hide hb;have HBB3:=hide (Below.on (HBB2.out.drew) hb);have c30:=(hb.cell (p:=⟨w1.heap.size,0,none⟩) (lt_of_cell (drew_cell c00))).trans (drew_cell c00);have c31:=(hb.cell (p:=⟨w1.heap.size,1,none⟩) (lt_of_cell (drew_cell c01))).trans (drew_cell c01);have c32:=(hb.cell (p:=⟨w1.heap.size+1,1,none⟩) (lt_of_cell (drew_cell c02))).trans (drew_cell c02);clear hl3 hb) | (go_at_call_of 84 (Value.slice X1 n1 d1);refine (HTA.out _ (HBB3.out) _ _ _ (freeL (lo++ps) dl) (((HL1.out.below HA0.out).below ((Below.refl _ _).drew)).below HX3.out |>.1) (fun y hy=>freeL_bd _ _ y hy) (hn1)).mono ?_;rintro e w4 ⟨⟨v4,rfl,Y4,k4,e4,rfl,hl4,_⟩,hb⟩;have HL4:=hide hl4;have HX4:=hide hb;have HBB4:=hide (Below.on (HBB3.out) hb);have c40:=(hb.cell (p:=⟨w1.heap.size,0,none⟩) (lt_of_cell c30)).trans c30;have c41:=(hb.cell (p:=⟨w1.heap.size,1,none⟩) (lt_of_cell c31)).trans c31;have c42:=(hb.cell (p:=⟨w1.heap.size+1,1,none⟩) (lt_of_cell c32)).trans c32;clear hl4 hb) | (go_at_call_of 84 (Value.slice X2 n2 d2);refine (HTB.out _ (HBB4.out) _ _ _ (freeL (hi++st) el) ((((HL2.out.below HA0.out).below ((Below.refl _ _).drew)).below HX3.out).below HX4.out |>.1) (fun y hy=>freeL_bd _ _ y hy) (hn2)).mono ?_;rintro e w5 ⟨⟨v5,rfl,Y5,k5,e5,rfl,hl5,_⟩,hb⟩;have HL5:=hide hl5;have HX5:=hide hb;have HBB5:=hide (Below.on (HBB4.out) hb);have c50:=(hb.cell (p:=⟨w1.heap.size,0,none⟩) (lt_of_cell c40)).trans c40;have c51:=(hb.cell (p:=⟨w1.heap.size,1,none⟩) (lt_of_cell c41)).trans c41;have c52:=(hb.cell (p:=⟨w1.heap.size+1,1,none⟩) (lt_of_cell c42)).trans c42;clear hl5 hb) | (go_at_call 88;refine (HF.out w5 HBB5.out _ _ _ _ _ _ _ _ _ ((HL3.out.below HX4.out).below HX5.out) (HL4.out.below HX5.out) HL5.out _ (by rfl)).mono ?_;rintro e w6 ⟨⟨v6,rfl,hv⟩,hb⟩;have HV:=hide hv;have HBV:=hide (Below.on HBB5.out hb);obtain ⟨c60,c61,c62⟩:w6.cell? ⟨w1.heap.size,0,none⟩=some (.slice la ll lc)/\w6.cell? ⟨w1.heap.size,1,none⟩=some (.slice X1 n1 d1)/\w6.cell? ⟨w1.heap.size+1,1,none⟩=some (.slice X2 n2 d2):=⟨(hb.cell (p:=⟨w1.heap.size,0,none⟩) (lt_of_cell c50)).trans c50,(hb.cell (p:=⟨w1.heap.size,1,none⟩) (lt_of_cell c51)).trans c51,(hb.cell (p:=⟨w1.heap.size+1,1,none⟩) (lt_of_cell c52)).trans c52⟩;clear hv hb)))
  all_goals go_wp2
  all_goals go_ret2
  all_goals exact ⟨outP_new HV.out 0,HBV.out⟩
theorem rdotDims_any (k x:Int) (vd:Value) (pa:Option Addr) (pl pc:Nat) (ps:List Int) (la:Option Addr) (ll lc:Nat) (lo:List Int) (ha:Option Addr) (hl hc:Nat) (hi:List Int) (ta:Option Addr) (tl tc:Nat) (st:List Int) (da:Option Addr) (dl dc:Nat) (ds:List Int) (ea:Option Addr) (el ec:Nat) (es:List Int) (w:World)
 (hp:Lst w pa pl pc ps) (hlo:Lst w la ll lc lo) (hhi:Lst w ha hl hc hi) (hst:Lst w ta tl tc st) (hd:Ints w da dl ds) (he:Ints w ea el es) (h6:dl<=6) (h6':el<=6) (b1:pl<=1048576) (b2:ll<=1048576) (b3:hl<=1048576) (b4:tl<=1048576) :
 Calls Tryz.prog 55 #[.agg #[.int .i64 k,vd,.slice pa pl pc,.slice la ll lc,.slice ha hl hc,.slice ta tl tc,.int .i64 x],.slice da dl dc,.slice ea el ec] w fun e w'=>OutP e w' (dotP ps st lo hi ds es)/\Below w.heap.size w w':=by
 have HP:=hide hp
 have HLO:=hide hlo
 have HHI:=hide hhi
 have HST:=hide hst
 have HD:=hide hd
 have HE:=hide he
 have HND:=hide hd.1
 have HNE:=hide he.1
 have HLP:=hide hp.1.1
 have HLL:=hide hlo.1.1
 have HLH:=hide hhi.1.1
 have HLT:=hide hst.1.1
 clear hp hlo hhi hst hd he
 have HB0:=hide ((Below.refl w.heap.size w).alloc (Nat.le_refl _) (.cells #[.int .i64 k,vd,.slice pa pl pc,.slice la ll lc,.slice ha hl hc,.slice ta tl tc,.int .i64 x] 38))
 have HO0:=hide (OpAt.new w k vd (.slice pa pl pc) (.slice la ll lc) (.slice ha hl hc) (.slice ta tl tc) x)
 obtain ⟨a00,a01,a02,a03,a04,a05,a06⟩:=HO0.out.cells
 have HNO:Hid (¬ (Once (ps++lo) dl/\Once (st++hi) el/\taken ds ps=taken es st/\taken ds lo=taken es hi)->dotP ps st lo hi ds es=([],6)):=fun hn=>by
  unfold dotP
  rw [if_neg]
  intro h
  simp only [dotB,Bool.and_eq_true,decide_eq_true_eq] at h
  obtain ⟨g1,g2,g3,g4⟩:=h
  rw [onceB_iff,HND.out] at g1
  rw [onceB_iff,HNE.out] at g2
  exact hn ⟨once_comm.1 g1,once_comm.1 g2,g4,g3⟩
 by_cases c1:pl=tl
 case neg =>
  rw [HNO.out (fun h=>c1 (by have:=congrArg List.length h.2.2.1;rw [taken_length,taken_length,HLP.out,HLT.out] at this;exact this))]
  have q:((pl:Int) != (tl:Int))=true:=by simp;omega
  clear c1
  go_enter Tryz.func55,Tryz.ntmps55
  go_wp2
  go_ret2
  exact ⟨outP_none _ _,HB0.out⟩
 subst c1
 by_cases c2:ll=hl
 case neg =>
  rw [HNO.out (fun h=>c2 (by have:=congrArg List.length h.2.2.2;rw [taken_length,taken_length,HLL.out,HLH.out] at this;exact this))]
  have q:((ll:Int) != (hl:Int))=true:=by simp;omega
  clear c2
  go_enter Tryz.func55,Tryz.ntmps55
  go_wp2
  go_ret2
  exact ⟨outP_none _ _,HB0.out⟩
 subst c2
 by_cases cA:Once (ps++lo) dl
 case neg =>
  rw [HNO.out (fun h=>cA h.1)]
  have HCA:=hide cA
  clear cA
  go_enter Tryz.func55,Tryz.ntmps55
  go_wp2_with (first
   | (go_at_call_of 57 (Value.slice pa pl pc);refine (both_any _ _ _ (ps) _ _ _ (lo) _ (HP.out.below HB0.out) (HLO.out.below HB0.out) (by omega)).mono ?_;rintro e w1 ⟨⟨v1,rfl,X1,n1,d1,rfl,hl1,_⟩,hb⟩;have HL1:=hide hl1;have hlen1:=hl1.1.1;have HX1:=hide hb;have HB1:=hide (Below.on HB0.out hb);have HO1:=hide (HO0.out.below hb);obtain ⟨a10,a11,a12,a13,a14,a15,a16⟩:=HO1.out.cells;clear hl1 hb)
   | (go_at_call_of 72 (Value.int .i64 dl);refine (once_any _ _ _ (ps++lo) dl _ HL1.out).mono ?_;rintro e w2 ⟨⟨bb,rfl,hbt⟩,hb⟩;obtain rfl:bb=false:=by { cases bb;rfl;exact absurd (hbt.1 rfl) HCA.out };have HX2:=hide hb;have HB2:=hide (Below.on HB1.out hb);have HO2:=hide (HO1.out.below hb);obtain ⟨a20,a21,a22,a23,a24,a25,a26⟩:=HO2.out.cells;clear hb hbt))
  go_ret2
  exact ⟨outP_none _ _,HB2.out⟩
 have HCA:=hide cA
 clear cA
 by_cases cB:Once (st++hi) el
 case neg =>
  rw [HNO.out (fun h=>cB h.2.1)]
  have HCB:=hide cB
  clear cB
  go_enter Tryz.func55,Tryz.ntmps55
  go_wp2_with (first
   | (go_at_call_of 57 (Value.slice pa pl pc);refine (both_any _ _ _ (ps) _ _ _ (lo) _ (HP.out.below HB0.out) (HLO.out.below HB0.out) (by omega)).mono ?_;rintro e w1 ⟨⟨v1,rfl,X1,n1,d1,rfl,hl1,_⟩,hb⟩;have HL1:=hide hl1;have hlen1:=hl1.1.1;have HX1:=hide hb;have HB1:=hide (Below.on HB0.out hb);have HO1:=hide (HO0.out.below hb);obtain ⟨a10,a11,a12,a13,a14,a15,a16⟩:=HO1.out.cells;clear hl1 hb)
   | (go_at_call_of 57 (Value.slice ta pl tc);refine (both_any _ _ _ (st) _ _ _ (hi) _ (HST.out.below HB2.out) (HHI.out.below HB2.out) (by omega)).mono ?_;rintro e w3 ⟨⟨v3,rfl,X3,n3,d3,rfl,hl3,_⟩,hb⟩;have HL3:=hide hl3;have hlen3:=hl3.1.1;have HX3:=hide hb;have HB3:=hide (Below.on HB2.out hb);have HO3:=hide (HO2.out.below hb);obtain ⟨a30,a31,a32,a33,a34,a35,a36⟩:=HO3.out.cells;clear hl3 hb)
   | (go_at_call_of 72 (Value.int .i64 dl);refine (once_any _ _ _ (ps++lo) dl _ HL1.out).mono ?_;rintro e w2 ⟨⟨bb,rfl,hbt⟩,hb⟩;obtain rfl:bb=true:=hbt.2 HCA.out;have HX2:=hide hb;have HB2:=hide (Below.on HB1.out hb);have HO2:=hide (HO1.out.below hb);obtain ⟨a20,a21,a22,a23,a24,a25,a26⟩:=HO2.out.cells;clear hb hbt)
   | (go_at_call_of 72 (Value.int .i64 el);refine (once_any _ _ _ (st++hi) el _ HL3.out).mono ?_;rintro e w4 ⟨⟨bb,rfl,hbt⟩,hb⟩;obtain rfl:bb=false:=by { cases bb;rfl;exact absurd (hbt.1 rfl) HCB.out };have HX4:=hide hb;have HB4:=hide (Below.on HB3.out hb);have HO4:=hide (HO3.out.below hb);obtain ⟨a40,a41,a42,a43,a44,a45,a46⟩:=HO4.out.cells;clear hb hbt))
  go_ret2
  exact ⟨outP_none _ _,HB4.out⟩
 have HCB:=hide cB
 clear cB
 have HINP:Hid (∀ y∈ps,0<=y/\y<(dl:Int)):=fun y hy=>(once_iff.1 HCA.out).1 y (List.mem_append_left _ hy)
 have HINL:Hid (∀ y∈lo,0<=y/\y<(dl:Int)):=fun y hy=>(once_iff.1 HCA.out).1 y (List.mem_append_right _ hy)
 have HINT:Hid (∀ y∈st,0<=y/\y<(el:Int)):=fun y hy=>(once_iff.1 HCB.out).1 y (List.mem_append_left _ hy)
 have HINH:Hid (∀ y∈hi,0<=y/\y<(el:Int)):=fun y hy=>(once_iff.1 HCB.out).1 y (List.mem_append_right _ hy)
 have hs1:pl+ll<=6:=by have:=once_len HCA.out;rw [List.length_append,HLP.out,HLL.out] at this;omega
 have HTA:Hid (∀ wx,Below w.heap.size w wx->∀ X n c (ys:List Int),Ints wx X n ys->(∀ y∈ys,0<=y/\y<(dl:Int))->n<=6->Calls Tryz.prog 52 #[.slice da dl dc,.slice X n c] wx fun e w'=>GivesL wx e w' (taken ds ys)/\Below wx.heap.size wx w'):=fun wx hx X n c ys h1 h2 h3=>chosen_any _ _ _ ds _ _ _ ys _ (HD.out.below hx) h1 h2 h3
 have HTB:Hid (∀ wx,Below w.heap.size w wx->∀ X n c (ys:List Int),Ints wx X n ys->(∀ y∈ys,0<=y/\y<(el:Int))->n<=6->Calls Tryz.prog 52 #[.slice ea el ec,.slice X n c] wx fun e w'=>GivesL wx e w' (taken es ys)/\Below wx.heap.size wx w'):=fun wx hx X n c ys h1 h2 h3=>chosen_any _ _ _ es _ _ _ ys _ (HE.out.below hx) h1 h2 h3
 go_enter Tryz.func55,Tryz.ntmps55
 go_wp2_with (first
  | (go_at_call_of 57 (Value.slice pa pl pc);refine (both_any _ _ _ (ps) _ _ _ (lo) _ (HP.out.below HB0.out) (HLO.out.below HB0.out) (by omega)).mono ?_;rintro e w1 ⟨⟨v1,rfl,X1,n1,d1,rfl,hl1,_⟩,hb⟩;have HL1:=hide hl1;have hlen1:=hl1.1.1;have HX1:=hide hb;have HB1:=hide (Below.on HB0.out hb);have HO1:=hide (HO0.out.below hb);obtain ⟨a10,a11,a12,a13,a14,a15,a16⟩:=HO1.out.cells;clear hl1 hb)
  | (go_at_call_of 57 (Value.slice ta pl tc);refine (both_any _ _ _ (st) _ _ _ (hi) _ (HST.out.below HB2.out) (HHI.out.below HB2.out) (by omega)).mono ?_;rintro e w3 ⟨⟨v3,rfl,X3,n3,d3,rfl,hl3,_⟩,hb⟩;have HL3:=hide hl3;have hlen3:=hl3.1.1;have HX3:=hide hb;have HB3:=hide (Below.on HB2.out hb);have HO3:=hide (HO2.out.below hb);obtain ⟨a30,a31,a32,a33,a34,a35,a36⟩:=HO3.out.cells;clear hl3 hb)
  | (go_at_call_of 72 (Value.int .i64 dl);refine (once_any _ _ _ (ps++lo) dl _ HL1.out).mono ?_;rintro e w2 ⟨⟨bb,rfl,hbt⟩,hb⟩;obtain rfl:bb=true:=hbt.2 HCA.out;have HX2:=hide hb;have HB2:=hide (Below.on HB1.out hb);have HO2:=hide (HO1.out.below hb);obtain ⟨a20,a21,a22,a23,a24,a25,a26⟩:=HO2.out.cells;clear hb hbt)
  | (go_at_call_of 72 (Value.int .i64 el);refine (once_any _ _ _ (st++hi) el _ HL3.out).mono ?_;rintro e w4 ⟨⟨bb,rfl,hbt⟩,hb⟩;obtain rfl:bb=true:=hbt.2 HCB.out;have HX4:=hide hb;have HB4:=hide (Below.on HB3.out hb);have HO4:=hide (HO3.out.below hb);obtain ⟨a40,a41,a42,a43,a44,a45,a46⟩:=HO4.out.cells;clear hb hbt))
 go_cut [67] (fun t wc=>∃ u:Bool,t=.bool u/\u=(!(decide (taken ds ps=taken es st) && decide (taken ds lo=taken es hi)))/\Below w4.heap.size w4 wc)
 case first =>
  by_cases q1:taken ds ps=taken es st
  case neg =>
   have HJF:Hid (true=(!(decide (taken ds ps=taken es st) && decide (taken ds lo=taken es hi)))):=by simp [Hid,q1]
   have Q1:Hid (decide (taken ds ps=taken es st)=false):=decide_eq_false q1
   clear q1
   refine wp_region_held_drew (S:=(fun w'=>w'.cell? ⟨w.heap.size,2,none⟩=some (.slice pa pl pc)/\w'.cell? ⟨w.heap.size,3,none⟩=some (.slice la ll lc)/\w'.cell? ⟨w.heap.size,4,none⟩=some (.slice ha ll hc)/\w'.cell? ⟨w.heap.size,5,none⟩=some (.slice ta pl tc))) (by kernel_rfl) ⟨drew_cell a42,drew_cell a43,drew_cell a44,drew_cell a45⟩ (fun hHeld=>?_)
   refine' wpAnyH_take (i := 0) (oi := { dst := some 46, op := Op.move (Operand.tmp 1), type := 23, pos := "ref.go:137", after := #[], guard := none }) (v := _) rfl (by kernel_rfl) (by kernel_rfl) (by kernel_rfl) (fun _ _ _ h => h) (Or.inl ⟨by kernel_rfl, ?zy0⟩) (by assumption) ?_
   case zy0=>(intro wz hSw;(try dsimp only at hSw);go_simp;try with_reducible rfl)
   simp only [Act.put,List.setIfInBounds_toArray,List.set_cons_zero,List.set_cons_succ]
   refine' wpAnyH_take (i := 1) (oi := { dst := some 47, op := Op.fieldAddr 38 (Operand.tmp 3) 2, type := 0, pos := "ref.go:137", after := #[], guard := none }) (v := _) rfl (by kernel_rfl) (by kernel_rfl) (by kernel_rfl) (fun _ _ _ h => h) (Or.inl ⟨by kernel_rfl, ?zy1⟩) (by assumption) ?_
   case zy1=>(intro wz hSw;(try dsimp only at hSw);go_simp;try with_reducible rfl)
   simp only [Act.put,List.setIfInBounds_toArray,List.set_cons_zero,List.set_cons_succ]
   refine' wpAnyH_take (i := 2) (oi := { dst := some 48, op := Op.load 23 (Operand.tmp 47), type := 23, pos := "ref.go:137", after := #[{ on := 1, ground := Ground.data }], guard := none }) (v := _) rfl (by kernel_rfl) (by kernel_rfl) (by kernel_rfl) (fun _ _ _ h => h) (Or.inl ⟨by kernel_rfl, ?zy2⟩) (by assumption) ?_
   case zy2=>(intro wz hSw;(try dsimp only at hSw);go_simp;try with_reducible rfl)
   simp only [Act.put,List.setIfInBounds_toArray,List.set_cons_zero,List.set_cons_succ]
   refine' wpAnyH_take (i := 4) (oi := { dst := some 50, op := Op.move (Operand.tmp 2), type := 23, pos := "ref.go:137", after := #[], guard := none }) (v := _) rfl (by kernel_rfl) (by kernel_rfl) (by kernel_rfl) (fun _ _ _ h => h) (Or.inl ⟨by kernel_rfl, ?zy4⟩) (by assumption) ?_
   case zy4=>(intro wz hSw;(try dsimp only at hSw);go_simp;try with_reducible rfl)
   simp only [Act.put,List.setIfInBounds_toArray,List.set_cons_zero,List.set_cons_succ]
   refine' wpAnyH_take (i := 5) (oi := { dst := some 51, op := Op.fieldAddr 38 (Operand.tmp 3) 5, type := 0, pos := "ref.go:137", after := #[], guard := none }) (v := _) rfl (by kernel_rfl) (by kernel_rfl) (by kernel_rfl) (fun _ _ _ h => h) (Or.inl ⟨by kernel_rfl, ?zy5⟩) (by assumption) ?_
   case zy5=>(intro wz hSw;(try dsimp only at hSw);go_simp;try with_reducible rfl)
   simp only [Act.put,List.setIfInBounds_toArray,List.set_cons_zero,List.set_cons_succ]
   refine' wpAnyH_take (i := 6) (oi := { dst := some 52, op := Op.load 23 (Operand.tmp 51), type := 23, pos := "ref.go:137", after := #[{ on := 5, ground := Ground.data }], guard := none }) (v := _) rfl (by kernel_rfl) (by kernel_rfl) (by kernel_rfl) (fun _ _ _ h => h) (Or.inl ⟨by kernel_rfl, ?zy6⟩) (by assumption) ?_
   case zy6=>(intro wz hSw;(try dsimp only at hSw);go_simp;try with_reducible rfl)
   simp only [Act.put,List.setIfInBounds_toArray,List.set_cons_zero,List.set_cons_succ]
   refine wpAnyH_ready (rs:=[3]) (by kernel_rfl) (by simp) ?_
   refine AllReadyH.cons (o := { dst := some 49, op := Op.call { callee := Callee.value (Operand.func 52), args := #[Operand.tmp 46, Operand.tmp 48], argTypes := #[23, 23] }, type := 23, pos := "ref.go:137", after := #[{ on := 0, ground := Ground.data }, { on := 2, ground := Ground.data }], guard := none }) rfl (fun K hK => ?_) AllReadyH.nil
   go_simp
   refine (HTA.out _ (HB4.out.drew) _ _ _ (ps) (HP.out.below (HB4.out.drew)).1 HINP.out (by omega)).mono ?_
   rintro e w5 ⟨⟨v5,rfl,X5,n5,d5,rfl,hl5,_⟩,hb⟩
   have HL5:=hide hl5
   have hlen5:=hl5.1.1
   have HX5:=hide (Below.on ((Below.refl w4.heap.size w4).drew) hb)
   have HB5:=hide (Below.on HB4.out HX5.out)
   have HO5:=hide (HO4.out.below HX5.out)
   obtain ⟨a50,a51,a52,a53,a54,a55,a56⟩:=HO5.out.cells
   clear hl5 hb
   try simp only []
   refine hK.out _ _ ⟨a52,a53,a54,a55⟩ (fun hHeld5=>?_)
   clear hK K
   try simp only [Act.put,List.setIfInBounds_toArray,List.set_cons_zero,List.set_cons_succ]
   refine wpAnyH_ready (rs:=[7]) (by kernel_rfl) (by simp) ?_
   refine AllReadyH.cons (o := { dst := some 53, op := Op.call { callee := Callee.value (Operand.func 52), args := #[Operand.tmp 50, Operand.tmp 52], argTypes := #[23, 23] }, type := 23, pos := "ref.go:137", after := #[{ on := 4, ground := Ground.data }, { on := 6, ground := Ground.data }, { on := 3, ground := Ground.chain }], guard := none }) rfl (fun K hK => ?_) AllReadyH.nil
   go_simp
   refine (HTB.out _ (HB5.out) _ _ _ (st) (HST.out.below (HB5.out)).1 HINT.out (by omega)).mono ?_
   rintro e w6 ⟨⟨v6,rfl,X6,n6,d6,rfl,hl6,_⟩,hb⟩
   have HL6:=hide hl6
   have hlen6:=hl6.1.1
   have HX6:=hide hb
   have HB6:=hide (Below.on HB5.out hb)
   have HO6:=hide (HO5.out.below hb)
   obtain ⟨a60,a61,a62,a63,a64,a65,a66⟩:=HO6.out.cells
   clear hl6 hb
   try simp only []
   refine hK.out _ _ ⟨a62,a63,a64,a65⟩ (fun hHeld6=>?_)
   clear hK K
   try simp only [Act.put,List.setIfInBounds_toArray,List.set_cons_zero,List.set_cons_succ]
   refine wpAnyH_ready (rs:=[8]) (by kernel_rfl) (by simp) ?_
   refine AllReadyH.cons (o := { dst := some 54, op := Op.call { callee := Callee.value (Operand.func 14), args := #[Operand.tmp 49, Operand.tmp 53], argTypes := #[23, 23] }, type := 4, pos := "ref.go:137", after := #[{ on := 3, ground := Ground.data }, { on := 7, ground := Ground.data }, { on := 7, ground := Ground.chain }], guard := none }) rfl (fun K hK => ?_) AllReadyH.nil
   go_simp
   refine (sameList_any _ _ _ (taken ds ps) _ _ _ (taken es st) _ (HL5.out.1.below HX6.out) HL6.out.1).mono ?_
   rintro e w7 ⟨rfl,m7,hw⟩
   rw [Q1.out]
   have hb:Below w6.heap.size w6 w7:=(hw ▸ below_drewN _ m7)
   have HX7:=hide hb
   have HB7:=hide (Below.on HB6.out hb)
   have HO7:=hide (HO6.out.below hb)
   obtain ⟨a70,a71,a72,a73,a74,a75,a76⟩:=HO7.out.cells
   clear hw hb
   try simp only []
   refine hK.out _ _ ⟨a72,a73,a74,a75⟩ (fun hHeld7=>?_)
   clear hK K
   try simp only [Act.put,List.setIfInBounds_toArray,List.set_cons_zero,List.set_cons_succ]
   refine' wpAnyH_take (i := 9) (oi := { dst := some 55, op := Op.unOp UnOp.not 4 (Operand.tmp 54), type := 4, pos := "ref.go:137", after := #[{ on := 8, ground := Ground.data }], guard := none }) (v := _) rfl (by kernel_rfl) (by kernel_rfl) (by kernel_rfl) (fun _ _ _ h => h) (Or.inl ⟨by kernel_rfl, ?zy9⟩) (by assumption) ?_
   case zy9=>(intro wz hSw;(try dsimp only at hSw);go_simp;try with_reducible rfl)
   simp only [Act.put,List.setIfInBounds_toArray,List.set_cons_zero,List.set_cons_succ]
   refine' wpAnyH_take (i := 10) (oi := { dst := some 56, op := Op.move (Operand.tmp 55), type := 4, pos := "ref.go:137", after := #[{ on := 9, ground := Ground.data }, { on := 8, ground := Ground.chain }], guard := none }) (v := _) rfl (by kernel_rfl) (by kernel_rfl) (by kernel_rfl) (fun _ _ _ h => h) (Or.inl ⟨by kernel_rfl, ?zy10⟩) (by assumption) ?_
   case zy10=>(intro wz hSw;(try dsimp only at hSw);go_simp;try with_reducible rfl)
   simp only [Act.put,List.setIfInBounds_toArray,List.set_cons_zero,List.set_cons_succ]
   refine' wpAnyH_take (i := 11) (oi := { dst := some 57, op := Op.move (Operand.tmp 1), type := 23, pos := "ref.go:137", after := #[{ on := 10, ground := Ground.guard }], guard := some (10, false) }) (v := undef) rfl (by kernel_rfl) (by kernel_rfl) (by kernel_rfl) (fun _ _ _ h => h) (Or.inr ⟨by kernel_rfl, rfl⟩) (by assumption) ?_
   simp only [Act.put,List.setIfInBounds_toArray,List.set_cons_zero,List.set_cons_succ]
   refine' wpAnyH_take (i := 12) (oi := { dst := some 58, op := Op.fieldAddr 38 (Operand.tmp 3) 3, type := 0, pos := "ref.go:137", after := #[{ on := 10, ground := Ground.guard }], guard := some (10, false) }) (v := undef) rfl (by kernel_rfl) (by kernel_rfl) (by kernel_rfl) (fun _ _ _ h => h) (Or.inr ⟨by kernel_rfl, rfl⟩) (by assumption) ?_
   simp only [Act.put,List.setIfInBounds_toArray,List.set_cons_zero,List.set_cons_succ]
   refine' wpAnyH_take (i := 13) (oi := { dst := some 59, op := Op.load 23 (Operand.tmp 58), type := 23, pos := "ref.go:137", after := #[{ on := 12, ground := Ground.data }, { on := 10, ground := Ground.guard }], guard := some (10, false) }) (v := undef) rfl (by kernel_rfl) (by kernel_rfl) (by kernel_rfl) (fun _ _ _ h => h) (Or.inr ⟨by kernel_rfl, rfl⟩) (by assumption) ?_
   simp only [Act.put,List.setIfInBounds_toArray,List.set_cons_zero,List.set_cons_succ]
   refine' wpAnyH_take (i := 14) (oi := { dst := some 60, op := Op.call { callee := Callee.value (Operand.func 52), args := #[Operand.tmp 57, Operand.tmp 59], argTypes := #[23, 23] }, type := 23, pos := "ref.go:137", after := #[{ on := 11, ground := Ground.data }, { on := 13, ground := Ground.data }, { on := 10, ground := Ground.chain }, { on := 10, ground := Ground.guard }], guard := some (10, false) }) (v := undef) rfl (by kernel_rfl) (by kernel_rfl) (by kernel_rfl) (fun _ _ _ h => h) (Or.inr ⟨by kernel_rfl, rfl⟩) (by assumption) ?_
   simp only [Act.put,List.setIfInBounds_toArray,List.set_cons_zero,List.set_cons_succ]
   refine' wpAnyH_take (i := 15) (oi := { dst := some 61, op := Op.move (Operand.tmp 2), type := 23, pos := "ref.go:137", after := #[{ on := 10, ground := Ground.guard }], guard := some (10, false) }) (v := undef) rfl (by kernel_rfl) (by kernel_rfl) (by kernel_rfl) (fun _ _ _ h => h) (Or.inr ⟨by kernel_rfl, rfl⟩) (by assumption) ?_
   simp only [Act.put,List.setIfInBounds_toArray,List.set_cons_zero,List.set_cons_succ]
   refine' wpAnyH_take (i := 16) (oi := { dst := some 62, op := Op.fieldAddr 38 (Operand.tmp 3) 4, type := 0, pos := "ref.go:137", after := #[{ on := 10, ground := Ground.guard }], guard := some (10, false) }) (v := undef) rfl (by kernel_rfl) (by kernel_rfl) (by kernel_rfl) (fun _ _ _ h => h) (Or.inr ⟨by kernel_rfl, rfl⟩) (by assumption) ?_
   simp only [Act.put,List.setIfInBounds_toArray,List.set_cons_zero,List.set_cons_succ]
   refine' wpAnyH_take (i := 17) (oi := { dst := some 63, op := Op.load 23 (Operand.tmp 62), type := 23, pos := "ref.go:137", after := #[{ on := 16, ground := Ground.data }, { on := 10, ground := Ground.guard }], guard := some (10, false) }) (v := undef) rfl (by kernel_rfl) (by kernel_rfl) (by kernel_rfl) (fun _ _ _ h => h) (Or.inr ⟨by kernel_rfl, rfl⟩) (by assumption) ?_
   simp only [Act.put,List.setIfInBounds_toArray,List.set_cons_zero,List.set_cons_succ]
   refine' wpAnyH_take (i := 18) (oi := { dst := some 64, op := Op.call { callee := Callee.value (Operand.func 52), args := #[Operand.tmp 61, Operand.tmp 63], argTypes := #[23, 23] }, type := 23, pos := "ref.go:137", after := #[{ on := 15, ground := Ground.data }, { on := 17, ground := Ground.data }, { on := 14, ground := Ground.chain }, { on := 10, ground := Ground.guard }], guard := some (10, false) }) (v := undef) rfl (by kernel_rfl) (by kernel_rfl) (by kernel_rfl) (fun _ _ _ h => h) (Or.inr ⟨by kernel_rfl, rfl⟩) (by assumption) ?_
   simp only [Act.put,List.setIfInBounds_toArray,List.set_cons_zero,List.set_cons_succ]
   refine' wpAnyH_take (i := 19) (oi := { dst := some 65, op := Op.call { callee := Callee.value (Operand.func 14), args := #[Operand.tmp 60, Operand.tmp 64], argTypes := #[23, 23] }, type := 4, pos := "ref.go:137", after := #[{ on := 14, ground := Ground.data }, { on := 18, ground := Ground.data }, { on := 18, ground := Ground.chain }, { on := 10, ground := Ground.guard }], guard := some (10, false) }) (v := undef) rfl (by kernel_rfl) (by kernel_rfl) (by kernel_rfl) (fun _ _ _ h => h) (Or.inr ⟨by kernel_rfl, rfl⟩) (by assumption) ?_
   simp only [Act.put,List.setIfInBounds_toArray,List.set_cons_zero,List.set_cons_succ]
   refine' wpAnyH_take (i := 20) (oi := { dst := some 66, op := Op.unOp UnOp.not 4 (Operand.tmp 65), type := 4, pos := "ref.go:137", after := #[{ on := 19, ground := Ground.data }, { on := 10, ground := Ground.guard }], guard := some (10, false) }) (v := undef) rfl (by kernel_rfl) (by kernel_rfl) (by kernel_rfl) (fun _ _ _ h => h) (Or.inr ⟨by kernel_rfl, rfl⟩) (by assumption) ?_
   simp only [Act.put,List.setIfInBounds_toArray,List.set_cons_zero,List.set_cons_succ]
   refine' wpAnyH_take (i := 21) (oi := { dst := some 67, op := Op.pick (Operand.tmp 56) (Operand.const (Value.bool true)) (Operand.tmp 66), type := 4, pos := "ref.go:137", after := #[{ on := 10, ground := Ground.data }, { on := 20, ground := Ground.data }], guard := none }) (v := _) rfl (by kernel_rfl) (by kernel_rfl) (by kernel_rfl) (fun _ _ _ h => h) (Or.inl ⟨by kernel_rfl, ?zy21⟩) (by assumption) ?_
   case zy21=>(intro wz hSw;(try dsimp only at hSw);go_simp;try with_reducible rfl)
   simp only [Act.put,List.setIfInBounds_toArray,List.set_cons_zero,List.set_cons_succ]
   refine wpAnyH_done (by kernel_rfl) ?_ _
   go_wp2
   go_meet
   exact ⟨true,rfl,HJF.out,Below.on (Below.on HX5.out HX6.out) HX7.out⟩
  have Q1:Hid (decide (taken ds ps=taken es st)=true):=decide_eq_true q1
  have HJF:Hid ((!decide (taken ds lo=taken es hi))=(!(decide (taken ds ps=taken es st) && decide (taken ds lo=taken es hi)))):=by simp [Hid,q1]
  clear q1
  refine wp_region_held_drew (S:=(fun w'=>w'.cell? ⟨w.heap.size,2,none⟩=some (.slice pa pl pc)/\w'.cell? ⟨w.heap.size,3,none⟩=some (.slice la ll lc)/\w'.cell? ⟨w.heap.size,4,none⟩=some (.slice ha ll hc)/\w'.cell? ⟨w.heap.size,5,none⟩=some (.slice ta pl tc))) (by kernel_rfl) ⟨drew_cell a42,drew_cell a43,drew_cell a44,drew_cell a45⟩ (fun hHeld=>?_)
  refine' wpAnyH_take (i := 0) (oi := { dst := some 46, op := Op.move (Operand.tmp 1), type := 23, pos := "ref.go:137", after := #[], guard := none }) (v := _) rfl (by kernel_rfl) (by kernel_rfl) (by kernel_rfl) (fun _ _ _ h => h) (Or.inl ⟨by kernel_rfl, ?zy0⟩) (by assumption) ?_
  case zy0=>(intro wz hSw;(try dsimp only at hSw);go_simp;try with_reducible rfl)
  simp only [Act.put,List.setIfInBounds_toArray,List.set_cons_zero,List.set_cons_succ]
  refine' wpAnyH_take (i := 1) (oi := { dst := some 47, op := Op.fieldAddr 38 (Operand.tmp 3) 2, type := 0, pos := "ref.go:137", after := #[], guard := none }) (v := _) rfl (by kernel_rfl) (by kernel_rfl) (by kernel_rfl) (fun _ _ _ h => h) (Or.inl ⟨by kernel_rfl, ?zy1⟩) (by assumption) ?_
  case zy1=>(intro wz hSw;(try dsimp only at hSw);go_simp;try with_reducible rfl)
  simp only [Act.put,List.setIfInBounds_toArray,List.set_cons_zero,List.set_cons_succ]
  refine' wpAnyH_take (i := 2) (oi := { dst := some 48, op := Op.load 23 (Operand.tmp 47), type := 23, pos := "ref.go:137", after := #[{ on := 1, ground := Ground.data }], guard := none }) (v := _) rfl (by kernel_rfl) (by kernel_rfl) (by kernel_rfl) (fun _ _ _ h => h) (Or.inl ⟨by kernel_rfl, ?zy2⟩) (by assumption) ?_
  case zy2=>(intro wz hSw;(try dsimp only at hSw);go_simp;try with_reducible rfl)
  simp only [Act.put,List.setIfInBounds_toArray,List.set_cons_zero,List.set_cons_succ]
  refine' wpAnyH_take (i := 4) (oi := { dst := some 50, op := Op.move (Operand.tmp 2), type := 23, pos := "ref.go:137", after := #[], guard := none }) (v := _) rfl (by kernel_rfl) (by kernel_rfl) (by kernel_rfl) (fun _ _ _ h => h) (Or.inl ⟨by kernel_rfl, ?zy4⟩) (by assumption) ?_
  case zy4=>(intro wz hSw;(try dsimp only at hSw);go_simp;try with_reducible rfl)
  simp only [Act.put,List.setIfInBounds_toArray,List.set_cons_zero,List.set_cons_succ]
  refine' wpAnyH_take (i := 5) (oi := { dst := some 51, op := Op.fieldAddr 38 (Operand.tmp 3) 5, type := 0, pos := "ref.go:137", after := #[], guard := none }) (v := _) rfl (by kernel_rfl) (by kernel_rfl) (by kernel_rfl) (fun _ _ _ h => h) (Or.inl ⟨by kernel_rfl, ?zy5⟩) (by assumption) ?_
  case zy5=>(intro wz hSw;(try dsimp only at hSw);go_simp;try with_reducible rfl)
  simp only [Act.put,List.setIfInBounds_toArray,List.set_cons_zero,List.set_cons_succ]
  refine' wpAnyH_take (i := 6) (oi := { dst := some 52, op := Op.load 23 (Operand.tmp 51), type := 23, pos := "ref.go:137", after := #[{ on := 5, ground := Ground.data }], guard := none }) (v := _) rfl (by kernel_rfl) (by kernel_rfl) (by kernel_rfl) (fun _ _ _ h => h) (Or.inl ⟨by kernel_rfl, ?zy6⟩) (by assumption) ?_
  case zy6=>(intro wz hSw;(try dsimp only at hSw);go_simp;try with_reducible rfl)
  simp only [Act.put,List.setIfInBounds_toArray,List.set_cons_zero,List.set_cons_succ]
  refine wpAnyH_ready (rs:=[3]) (by kernel_rfl) (by simp) ?_
  refine AllReadyH.cons (o := { dst := some 49, op := Op.call { callee := Callee.value (Operand.func 52), args := #[Operand.tmp 46, Operand.tmp 48], argTypes := #[23, 23] }, type := 23, pos := "ref.go:137", after := #[{ on := 0, ground := Ground.data }, { on := 2, ground := Ground.data }], guard := none }) rfl (fun K hK => ?_) AllReadyH.nil
  go_simp
  refine (HTA.out _ (HB4.out.drew) _ _ _ (ps) (HP.out.below (HB4.out.drew)).1 HINP.out (by omega)).mono ?_
  rintro e w5 ⟨⟨v5,rfl,X5,n5,d5,rfl,hl5,_⟩,hb⟩
  have HL5:=hide hl5
  have hlen5:=hl5.1.1
  have HX5:=hide (Below.on ((Below.refl w4.heap.size w4).drew) hb)
  have HB5:=hide (Below.on HB4.out HX5.out)
  have HO5:=hide (HO4.out.below HX5.out)
  obtain ⟨a50,a51,a52,a53,a54,a55,a56⟩:=HO5.out.cells
  clear hl5 hb
  try simp only []
  refine hK.out _ _ ⟨a52,a53,a54,a55⟩ (fun hHeld5=>?_)
  clear hK K
  try simp only [Act.put,List.setIfInBounds_toArray,List.set_cons_zero,List.set_cons_succ]
  refine wpAnyH_ready (rs:=[7]) (by kernel_rfl) (by simp) ?_
  refine AllReadyH.cons (o := { dst := some 53, op := Op.call { callee := Callee.value (Operand.func 52), args := #[Operand.tmp 50, Operand.tmp 52], argTypes := #[23, 23] }, type := 23, pos := "ref.go:137", after := #[{ on := 4, ground := Ground.data }, { on := 6, ground := Ground.data }, { on := 3, ground := Ground.chain }], guard := none }) rfl (fun K hK => ?_) AllReadyH.nil
  go_simp
  refine (HTB.out _ (HB5.out) _ _ _ (st) (HST.out.below (HB5.out)).1 HINT.out (by omega)).mono ?_
  rintro e w6 ⟨⟨v6,rfl,X6,n6,d6,rfl,hl6,_⟩,hb⟩
  have HL6:=hide hl6
  have hlen6:=hl6.1.1
  have HX6:=hide hb
  have HB6:=hide (Below.on HB5.out hb)
  have HO6:=hide (HO5.out.below hb)
  obtain ⟨a60,a61,a62,a63,a64,a65,a66⟩:=HO6.out.cells
  clear hl6 hb
  try simp only []
  refine hK.out _ _ ⟨a62,a63,a64,a65⟩ (fun hHeld6=>?_)
  clear hK K
  try simp only [Act.put,List.setIfInBounds_toArray,List.set_cons_zero,List.set_cons_succ]
  refine wpAnyH_ready (rs:=[8]) (by kernel_rfl) (by simp) ?_
  refine AllReadyH.cons (o := { dst := some 54, op := Op.call { callee := Callee.value (Operand.func 14), args := #[Operand.tmp 49, Operand.tmp 53], argTypes := #[23, 23] }, type := 4, pos := "ref.go:137", after := #[{ on := 3, ground := Ground.data }, { on := 7, ground := Ground.data }, { on := 7, ground := Ground.chain }], guard := none }) rfl (fun K hK => ?_) AllReadyH.nil
  go_simp
  refine (sameList_any _ _ _ (taken ds ps) _ _ _ (taken es st) _ (HL5.out.1.below HX6.out) HL6.out.1).mono ?_
  rintro e w7 ⟨rfl,m7,hw⟩
  rw [Q1.out]
  have hb:Below w6.heap.size w6 w7:=(hw ▸ below_drewN _ m7)
  have HX7:=hide hb
  have HB7:=hide (Below.on HB6.out hb)
  have HO7:=hide (HO6.out.below hb)
  obtain ⟨a70,a71,a72,a73,a74,a75,a76⟩:=HO7.out.cells
  clear hw hb
  try simp only []
  refine hK.out _ _ ⟨a72,a73,a74,a75⟩ (fun hHeld7=>?_)
  clear hK K
  try simp only [Act.put,List.setIfInBounds_toArray,List.set_cons_zero,List.set_cons_succ]
  refine' wpAnyH_take (i := 9) (oi := { dst := some 55, op := Op.unOp UnOp.not 4 (Operand.tmp 54), type := 4, pos := "ref.go:137", after := #[{ on := 8, ground := Ground.data }], guard := none }) (v := _) rfl (by kernel_rfl) (by kernel_rfl) (by kernel_rfl) (fun _ _ _ h => h) (Or.inl ⟨by kernel_rfl, ?zy9⟩) (by assumption) ?_
  case zy9=>(intro wz hSw;(try dsimp only at hSw);go_simp;try with_reducible rfl)
  simp only [Act.put,List.setIfInBounds_toArray,List.set_cons_zero,List.set_cons_succ]
  refine' wpAnyH_take (i := 10) (oi := { dst := some 56, op := Op.move (Operand.tmp 55), type := 4, pos := "ref.go:137", after := #[{ on := 9, ground := Ground.data }, { on := 8, ground := Ground.chain }], guard := none }) (v := _) rfl (by kernel_rfl) (by kernel_rfl) (by kernel_rfl) (fun _ _ _ h => h) (Or.inl ⟨by kernel_rfl, ?zy10⟩) (by assumption) ?_
  case zy10=>(intro wz hSw;(try dsimp only at hSw);go_simp;try with_reducible rfl)
  simp only [Act.put,List.setIfInBounds_toArray,List.set_cons_zero,List.set_cons_succ]
  refine' wpAnyH_take (i := 11) (oi := { dst := some 57, op := Op.move (Operand.tmp 1), type := 23, pos := "ref.go:137", after := #[{ on := 10, ground := Ground.guard }], guard := some (10, false) }) (v := _) rfl (by kernel_rfl) (by kernel_rfl) (by kernel_rfl) (fun _ _ _ h => h) (Or.inl ⟨by kernel_rfl, ?zy11⟩) (by assumption) ?_
  case zy11=>(intro wz hSw;(try dsimp only at hSw);go_simp;try with_reducible rfl)
  simp only [Act.put,List.setIfInBounds_toArray,List.set_cons_zero,List.set_cons_succ]
  refine' wpAnyH_take (i := 12) (oi := { dst := some 58, op := Op.fieldAddr 38 (Operand.tmp 3) 3, type := 0, pos := "ref.go:137", after := #[{ on := 10, ground := Ground.guard }], guard := some (10, false) }) (v := _) rfl (by kernel_rfl) (by kernel_rfl) (by kernel_rfl) (fun _ _ _ h => h) (Or.inl ⟨by kernel_rfl, ?zy12⟩) (by assumption) ?_
  case zy12=>(intro wz hSw;(try dsimp only at hSw);go_simp;try with_reducible rfl)
  simp only [Act.put,List.setIfInBounds_toArray,List.set_cons_zero,List.set_cons_succ]
  refine' wpAnyH_take (i := 13) (oi := { dst := some 59, op := Op.load 23 (Operand.tmp 58), type := 23, pos := "ref.go:137", after := #[{ on := 12, ground := Ground.data }, { on := 10, ground := Ground.guard }], guard := some (10, false) }) (v := _) rfl (by kernel_rfl) (by kernel_rfl) (by kernel_rfl) (fun _ _ _ h => h) (Or.inl ⟨by kernel_rfl, ?zy13⟩) (by assumption) ?_
  case zy13=>(intro wz hSw;(try dsimp only at hSw);go_simp;try with_reducible rfl)
  simp only [Act.put,List.setIfInBounds_toArray,List.set_cons_zero,List.set_cons_succ]
  refine' wpAnyH_take (i := 15) (oi := { dst := some 61, op := Op.move (Operand.tmp 2), type := 23, pos := "ref.go:137", after := #[{ on := 10, ground := Ground.guard }], guard := some (10, false) }) (v := _) rfl (by kernel_rfl) (by kernel_rfl) (by kernel_rfl) (fun _ _ _ h => h) (Or.inl ⟨by kernel_rfl, ?zy15⟩) (by assumption) ?_
  case zy15=>(intro wz hSw;(try dsimp only at hSw);go_simp;try with_reducible rfl)
  simp only [Act.put,List.setIfInBounds_toArray,List.set_cons_zero,List.set_cons_succ]
  refine' wpAnyH_take (i := 16) (oi := { dst := some 62, op := Op.fieldAddr 38 (Operand.tmp 3) 4, type := 0, pos := "ref.go:137", after := #[{ on := 10, ground := Ground.guard }], guard := some (10, false) }) (v := _) rfl (by kernel_rfl) (by kernel_rfl) (by kernel_rfl) (fun _ _ _ h => h) (Or.inl ⟨by kernel_rfl, ?zy16⟩) (by assumption) ?_
  case zy16=>(intro wz hSw;(try dsimp only at hSw);go_simp;try with_reducible rfl)
  simp only [Act.put,List.setIfInBounds_toArray,List.set_cons_zero,List.set_cons_succ]
  refine' wpAnyH_take (i := 17) (oi := { dst := some 63, op := Op.load 23 (Operand.tmp 62), type := 23, pos := "ref.go:137", after := #[{ on := 16, ground := Ground.data }, { on := 10, ground := Ground.guard }], guard := some (10, false) }) (v := _) rfl (by kernel_rfl) (by kernel_rfl) (by kernel_rfl) (fun _ _ _ h => h) (Or.inl ⟨by kernel_rfl, ?zy17⟩) (by assumption) ?_
  case zy17=>(intro wz hSw;(try dsimp only at hSw);go_simp;try with_reducible rfl)
  simp only [Act.put,List.setIfInBounds_toArray,List.set_cons_zero,List.set_cons_succ]
  refine wpAnyH_ready (rs:=[14]) (by kernel_rfl) (by simp) ?_
  refine AllReadyH.cons (o := { dst := some 60, op := Op.call { callee := Callee.value (Operand.func 52), args := #[Operand.tmp 57, Operand.tmp 59], argTypes := #[23, 23] }, type := 23, pos := "ref.go:137", after := #[{ on := 11, ground := Ground.data }, { on := 13, ground := Ground.data }, { on := 10, ground := Ground.chain }, { on := 10, ground := Ground.guard }], guard := some (10, false) }) rfl (fun K hK => ?_) AllReadyH.nil
  go_simp
  refine (HTA.out _ (HB7.out) _ _ _ (lo) (HLO.out.below (HB7.out)).1 HINL.out (by omega)).mono ?_
  rintro e w8 ⟨⟨v8,rfl,X8,n8,d8,rfl,hl8,_⟩,hb⟩
  have HL8:=hide hl8
  have hlen8:=hl8.1.1
  have HX8:=hide hb
  have HB8:=hide (Below.on HB7.out hb)
  have HO8:=hide (HO7.out.below hb)
  obtain ⟨a80,a81,a82,a83,a84,a85,a86⟩:=HO8.out.cells
  clear hl8 hb
  try simp only []
  refine hK.out _ _ ⟨a82,a83,a84,a85⟩ (fun hHeld8=>?_)
  clear hK K
  try simp only [Act.put,List.setIfInBounds_toArray,List.set_cons_zero,List.set_cons_succ]
  refine wpAnyH_ready (rs:=[18]) (by kernel_rfl) (by simp) ?_
  refine AllReadyH.cons (o := { dst := some 64, op := Op.call { callee := Callee.value (Operand.func 52), args := #[Operand.tmp 61, Operand.tmp 63], argTypes := #[23, 23] }, type := 23, pos := "ref.go:137", after := #[{ on := 15, ground := Ground.data }, { on := 17, ground := Ground.data }, { on := 14, ground := Ground.chain }, { on := 10, ground := Ground.guard }], guard := some (10, false) }) rfl (fun K hK => ?_) AllReadyH.nil
  go_simp
  refine (HTB.out _ (HB8.out) _ _ _ (hi) (HHI.out.below (HB8.out)).1 HINH.out (by omega)).mono ?_
  rintro e w9 ⟨⟨v9,rfl,X9,n9,d9,rfl,hl9,_⟩,hb⟩
  have HL9:=hide hl9
  have hlen9:=hl9.1.1
  have HX9:=hide hb
  have HB9:=hide (Below.on HB8.out hb)
  have HO9:=hide (HO8.out.below hb)
  obtain ⟨a90,a91,a92,a93,a94,a95,a96⟩:=HO9.out.cells
  clear hl9 hb
  try simp only []
  refine hK.out _ _ ⟨a92,a93,a94,a95⟩ (fun hHeld9=>?_)
  clear hK K
  try simp only [Act.put,List.setIfInBounds_toArray,List.set_cons_zero,List.set_cons_succ]
  refine wpAnyH_ready (rs:=[19]) (by kernel_rfl) (by simp) ?_
  refine AllReadyH.cons (o := { dst := some 65, op := Op.call { callee := Callee.value (Operand.func 14), args := #[Operand.tmp 60, Operand.tmp 64], argTypes := #[23, 23] }, type := 4, pos := "ref.go:137", after := #[{ on := 14, ground := Ground.data }, { on := 18, ground := Ground.data }, { on := 18, ground := Ground.chain }, { on := 10, ground := Ground.guard }], guard := some (10, false) }) rfl (fun K hK => ?_) AllReadyH.nil
  go_simp
  refine (sameList_any _ _ _ (taken ds lo) _ _ _ (taken es hi) _ (HL8.out.1.below HX9.out) HL9.out.1).mono ?_
  rintro e w10 ⟨rfl,m10,hw⟩
  have hb:Below w9.heap.size w9 w10:=(hw ▸ below_drewN _ m10)
  have HX10:=hide hb
  have HB10:=hide (Below.on HB9.out hb)
  have HO10:=hide (HO9.out.below hb)
  obtain ⟨a100,a101,a102,a103,a104,a105,a106⟩:=HO10.out.cells
  clear hw hb
  try simp only []
  refine hK.out _ _ ⟨a102,a103,a104,a105⟩ (fun hHeld10=>?_)
  clear hK K
  try simp only [Act.put,List.setIfInBounds_toArray,List.set_cons_zero,List.set_cons_succ]
  refine' wpAnyH_take (i := 20) (oi := { dst := some 66, op := Op.unOp UnOp.not 4 (Operand.tmp 65), type := 4, pos := "ref.go:137", after := #[{ on := 19, ground := Ground.data }, { on := 10, ground := Ground.guard }], guard := some (10, false) }) (v := _) rfl (by kernel_rfl) (by kernel_rfl) (by kernel_rfl) (fun _ _ _ h => h) (Or.inl ⟨by kernel_rfl, ?zy20⟩) (by assumption) ?_
  case zy20=>(intro wz hSw;(try dsimp only at hSw);go_simp;try with_reducible rfl)
  simp only [Act.put,List.setIfInBounds_toArray,List.set_cons_zero,List.set_cons_succ]
  refine' wpAnyH_take (i := 21) (oi := { dst := some 67, op := Op.pick (Operand.tmp 56) (Operand.const (Value.bool true)) (Operand.tmp 66), type := 4, pos := "ref.go:137", after := #[{ on := 10, ground := Ground.data }, { on := 20, ground := Ground.data }], guard := none }) (v := _) rfl (by kernel_rfl) (by kernel_rfl) (by kernel_rfl) (fun _ _ _ h => h) (Or.inl ⟨by kernel_rfl, ?zy21⟩) (by assumption) ?_
  case zy21=>(intro wz hSw;(try dsimp only at hSw);go_simp;try with_reducible rfl)
  simp only [Act.put,List.setIfInBounds_toArray,List.set_cons_zero,List.set_cons_succ]
  refine wpAnyH_done (by kernel_rfl) ?_ _
  go_wp2
  go_meet
  exact ⟨!decide (taken ds lo=taken es hi),rfl,HJF.out,Below.on (Below.on (Below.on (Below.on (Below.on HX5.out HX6.out) HX7.out) HX8.out) HX9.out) HX10.out⟩
 case rest =>
  obtain ⟨u,rfl,hu,hb⟩:=hcut
  clear a40 a41 a42 a43 a44 a45 a46
  have HX5:=hide hb
  have HB5:=hide (Below.on HB4.out hb)
  have HO5:=hide (HO4.out.below hb)
  obtain ⟨a50,a51,a52,a53,a54,a55,a56⟩:=HO5.out.cells
  clear hb
  cases u with
  | true =>
   have HNE2:Hid (¬ (taken ds ps=taken es st/\taken ds lo=taken es hi)):=fun h=>by simp [h.1,h.2] at hu
   clear hu
   go_wp2
   go_ret2
   rw [HNO.out (fun h=>HNE2.out h.2.2)]
   exact ⟨outP_none _ _,HB5.out⟩
  | false =>
   have HEQ:Hid (taken ds ps=taken es st/\taken ds lo=taken es hi):=by
    cases e:(decide (taken ds ps=taken es st) && decide (taken ds lo=taken es hi)) with
    | false=>rw [e] at hu;cases hu
    | true=>simp only [Bool.and_eq_true,decide_eq_true_eq] at e;exact e
   clear hu
   have hpp:dotP ps st lo hi ds es=(dotL ps st lo hi ds es,0):=by
    unfold dotP
    rw [if_pos]
    simp only [dotB,Bool.and_eq_true,decide_eq_true_eq,onceB_iff,HND.out,HNE.out]
    exact ⟨once_comm.1 HCA.out,once_comm.1 HCB.out,HEQ.out.2,HEQ.out.1⟩
   have HPP:=hide hpp
   clear hpp
   go_wp2_with (first
    | (go_at_call_of 57 (Value.slice pa pl pc);refine (both_any _ _ _ (ps) _ _ _ (lo) _ (HP.out.below HB5.out) (HLO.out.below HB5.out) (by omega)).mono ?_;rintro e w6 ⟨⟨v6,rfl,X6,n6,d6,rfl,hl6,_⟩,hb⟩;have HL6:=hide hl6;have hlen6:=hl6.1.1;have HX6:=hide hb;have HB6:=hide (Below.on HB5.out hb);have HO6:=hide (HO5.out.below hb);obtain ⟨a60,a61,a62,a63,a64,a65,a66⟩:=HO6.out.cells;clear hl6 hb)
    | (go_at_call_of 53 (Value.slice X6 n6 d6);refine (free_any _ _ _ ds _ _ _ (ps++lo) _ (HD.out.below HB6.out) HL6.out.1 h6).mono ?_;rintro e w7 ⟨⟨v7,rfl,X7,n7,d7,rfl,hl7,_⟩,hb⟩;have HL7:=hide hl7;have hlen7:=hl7.1.1;have HX7:=hide hb;have HB7:=hide (Below.on HB6.out hb);have HO7:=hide (HO6.out.below hb);obtain ⟨a70,a71,a72,a73,a74,a75,a76⟩:=HO7.out.cells;clear hl7 hb)
    | (go_at_call_of 52 (Value.slice X7 n7 d7);refine (HTA.out _ HB7.out _ _ _ (freeL (ps++lo) dl) HL7.out.1 (fun y hy=>freeL_bd _ _ y hy) (by { have:=freeL_len (ps++lo) dl;omega })).mono ?_;rintro e w8 ⟨⟨v8,rfl,X8,n8,d8,rfl,hl8,_⟩,hb⟩;have HL8:=hide hl8;have hlen8:=hl8.1.1;have HX8:=hide hb;have HB8:=hide (Below.on HB7.out hb);have HO8:=hide (HO7.out.below hb);obtain ⟨a80,a81,a82,a83,a84,a85,a86⟩:=HO8.out.cells;clear hl8 hb;have hq8:n8<=6:=by { have hz:=hlen8;rw [taken_length] at hz;have:=freeL_len (ps++lo) dl;omega })
    | (go_at_call_of 57 (Value.slice ta pl tc);refine (both_any _ _ _ (st) _ _ _ (hi) _ (HST.out.below HB8.out) (HHI.out.below HB8.out) (by omega)).mono ?_;rintro e w9 ⟨⟨v9,rfl,X9,n9,d9,rfl,hl9,_⟩,hb⟩;have HL9:=hide hl9;have hlen9:=hl9.1.1;have HX9:=hide hb;have HB9:=hide (Below.on HB8.out hb);have HO9:=hide (HO8.out.below hb);obtain ⟨a90,a91,a92,a93,a94,a95,a96⟩:=HO9.out.cells;clear hl9 hb)
    | (go_at_call_of 53 (Value.slice X9 n9 d9);refine (free_any _ _ _ es _ _ _ (st++hi) _ (HE.out.below HB9.out) HL9.out.1 h6').mono ?_;rintro e w10 ⟨⟨v10,rfl,X10,n10,d10,rfl,hl10,_⟩,hb⟩;have HL10:=hide hl10;have hlen10:=hl10.1.1;have HX10:=hide hb;have HB10:=hide (Below.on HB9.out hb);have HO10:=hide (HO9.out.below hb);obtain ⟨a100,a101,a102,a103,a104,a105,a106⟩:=HO10.out.cells;clear hl10 hb)
    | (go_at_call_of 52 (Value.slice X10 n10 d10);refine (HTB.out _ HB10.out _ _ _ (freeL (st++hi) el) HL10.out.1 (fun y hy=>freeL_bd _ _ y hy) (by { have:=freeL_len (st++hi) el;omega })).mono ?_;rintro e w11 ⟨⟨v11,rfl,X11,n11,d11,rfl,hl11,_⟩,hb⟩;have HL11:=hide hl11;have hlen11:=hl11.1.1;have HX11:=hide hb;have HB11:=hide (Below.on HB10.out hb);have HO11:=hide (HO10.out.below hb);obtain ⟨a110,a111,a112,a113,a114,a115,a116⟩:=HO11.out.cells;clear hl11 hb;have hq11:n11<=6:=by { have hz:=hlen11;rw [taken_length] at hz;have:=freeL_len (st++hi) el;omega })
    | (go_at_call_of 52 (Value.slice la ll lc);refine (HTA.out _ HB11.out _ _ _ lo (HLO.out.below HB11.out).1 HINL.out (by omega)).mono ?_;rintro e w12 ⟨⟨v12,rfl,X12,n12,d12,rfl,hl12,_⟩,hb⟩;have HL12:=hide hl12;have hlen12:=hl12.1.1;have HX12:=hide hb;have HB12:=hide (Below.on HB11.out hb);have HO12:=hide (HO11.out.below hb);obtain ⟨a120,a121,a122,a123,a124,a125,a126⟩:=HO12.out.cells;clear hl12 hb;have hq12:n12<=6:=by { have hz:=hlen12;rw [taken_length,HLL.out] at hz;omega })
    | (go_at_call_of 57 (Value.slice X12 n12 d12);refine (both_any _ _ _ (taken ds lo) _ _ _ (taken ds (freeL (ps++lo) dl)) _ HL12.out ((((HL8.out.below HX9.out).below HX10.out).below HX11.out).below HX12.out) (by omega)).mono ?_;rintro e w13 ⟨⟨v13,rfl,X13,n13,d13,rfl,hl13,_⟩,hb⟩;have HL13:=hide hl13;have hlen13:=hl13.1.1;have HX13:=hide hb;have HB13:=hide (Below.on HB12.out hb);have HO13:=hide (HO12.out.below hb);obtain ⟨a130,a131,a132,a133,a134,a135,a136⟩:=HO13.out.cells;clear hl13 hb;have hq13:n13<=12:=by { have hz:=hlen13;rw [List.length_append] at hz;omega })
    | (go_at_call_of 57 (Value.slice X13 n13 d13);refine (both_any _ _ _ (taken ds lo++taken ds (freeL (ps++lo) dl)) _ _ _ (taken es (freeL (st++hi) el)) _ HL13.out ((HL11.out.below HX12.out).below HX13.out) (by omega)).mono ?_;rintro e w14 ⟨⟨v14,rfl,X14,n14,d14,rfl,hl14,_⟩,hb⟩;have HL14:=hide hl14;have hlen14:=hl14.1.1;have HX14:=hide hb;have HB14:=hide (Below.on HB13.out hb);have HO14:=hide (HO13.out.below hb);obtain ⟨a140,a141,a142,a143,a144,a145,a146⟩:=HO14.out.cells;clear hl14 hb))
   go_ret2
   have e:taken ds lo++taken ds (freeL (ps++lo) dl)++taken es (freeL (st++hi) el)=dotL ps st lo hi ds es:=by
    rw [dotL,HND.out,HNE.out,freeL_comm ps lo,freeL_comm st hi]
   rw [HPP.out,<-e]
   exact ⟨outP_lst HL14.out 0,HB14.out⟩
end Go.Proofs.YtakpedjhgdkhkaaGreatDoor.V
