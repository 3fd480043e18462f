import Derived.Test.YtdbkgeehjfnhbaaGreatDoorK29
import Derived.Test.YtdbkgeehjfnhbaaGreatDoorK27
import Derived.Test.YtdbkgeehjfnhbaaGreatDoorK28
namespace Go.Proofs.YtdbkgeehjfnhbaaGreatDoor.V
set_option maxRecDepth 100000
set_option maxHeartbeats 8000000
open Go.RowKit
theorem taken_len6 {xs ys:List Int} {n:Nat} (h:ys.length<=n):(taken xs ys).length<=n:=by rw [taken_length];exact h
theorem dotDims_any (k x:Int) (vd:Value) (pa:Option Addr) (pl pc:Nat) (ps:List Int) (la:Option Addr) (ll lc:Nat) (lo:List Int) (ha:Option Addr) (hl hc:Nat) (hi:List Int) (ta:Option Addr) (tl tc:Nat) (st:List Int) (da:Option Addr) (dl dc:Nat) (ds:List Int) (ea:Option Addr) (el ec:Nat) (es:List Int) (w:World)
 (hp:Lst w pa pl pc ps) (hlo:Lst w la ll lc lo) (hhi:Lst w ha hl hc hi) (hst:Lst w ta tl tc st) (hd:Ints w da dl ds) (he:Ints w ea el es) (h6:dl<=6) (h6':el<=6) :
 Calls Tryz.prog 64 #[.agg #[.int .i64 k,vd,.slice pa pl pc,.slice la ll lc,.slice ha hl hc,.slice ta tl tc,.int .i64 x],.slice da dl dc,.slice ea el ec] w fun e w'=>OutP e w' (dotP ps st lo hi ds es)/\Below w.heap.size w w':=by
 have HP:=hide hp
 have HLO:=hide hlo
 have HHI:=hide hhi
 have HST:=hide hst
 have HD:=hide hd
 have HE:=hide he
 have HND:=hide hd.1
 have HNE:=hide he.1
 have HLL:=hide hlo.1.1
 have HLP:=hide hp.1.1
 clear hp hlo hhi hst hd he
 have HB0:=hide ((Below.refl w.heap.size w).alloc (Nat.le_refl _) (.cells #[.int .i64 k,vd,.slice pa pl pc,.slice la ll lc,.slice ha hl hc,.slice ta tl tc,.int .i64 x] 38))
 have HC1:=hide (sides_any k x vd pa pl pc ps la ll lc lo ha hl hc hi ta tl tc st da dl dc ds ea el ec es _ (HP.out.below HB0.out) (HLO.out.below HB0.out) (HHI.out.below HB0.out) (HST.out.below HB0.out) (HD.out.below HB0.out) (HE.out.below HB0.out) h6 h6')
 obtain ⟨o0,o1,o2,o3,o4,o5,o6⟩:=(OpAt.new w k vd (.slice pa pl pc) (.slice la ll lc) (.slice ha hl hc) (.slice ta tl tc) x).cells
 cases q:dotB ps st lo hi ds es with
 | false =>
  have hpp:dotP ps st lo hi ds es=([],6):=by unfold dotP;rw [if_neg (by simp [q])]
  rw [hpp]
  have Q:=hide q
  clear hpp q
  go_enter Tryz.func64,Tryz.ntmps64
  go_wp2_with (go_at_call 87;refine HC1.out.mono ?_;rintro e w1 ⟨hsp,hb⟩;obtain ⟨_,rfl⟩:=hsp.resolve_left (fun hh=>by { have:=hh.1;rw [Q.out] at this;cases this });have HB1:=hide (Below.on HB0.out hb);clear hsp hb)
  go_ret2
  exact ⟨outP_none _ _,(HB1.out.alloc HB1.out.size _).alloc (HB1.out.alloc HB1.out.size _).size _⟩
 | true =>
  have hpp:dotP ps st lo hi ds es=(dotL ps st lo hi ds es,0):=by unfold dotP;rw [if_pos q]
  rw [hpp]
  have Q:=hide q
  have hcA:Once (lo++ps) dl:=by
   have:=q
   simp only [dotB,Bool.and_eq_true] at this
   rw [<-HND.out];exact (onceB_iff _ _).1 this.1
  have HCA:=hide hcA
  have HINL:Hid (∀ y∈lo,0<=y/\y<(dl:Int)):=fun y hy=>(once_iff.1 hcA).1 y (List.mem_append_left _ hy)
  have hs1:ll+pl<=6:=by have:=once_len hcA;rw [List.length_append,HLL.out,HLP.out] at this;omega
  have HTA:Hid (∀ wx,Below w.heap.size w wx->∀ X n c (ys:List Int),Ints wx X n ys->(∀ y∈ys,0<=y/\y<(dl:Int))->n<=6->Calls Tryz.prog 84 #[.slice da dl dc,.slice X n c] wx fun e w'=>GivesL wx e w' (taken ds ys)/\Below wx.heap.size wx w'):=fun wx hx X n c ys h1 h2 h3=>these_any _ _ _ ds _ _ _ ys _ (HD.out.below hx) h1 h2 h3
  have HTB:Hid (∀ wx,Below w.heap.size w wx->∀ X n c (ys:List Int),Ints wx X n ys->(∀ y∈ys,0<=y/\y<(el:Int))->n<=6->Calls Tryz.prog 84 #[.slice ea el ec,.slice X n c] wx fun e w'=>GivesL wx e w' (taken es ys)/\Below wx.heap.size wx w'):=fun wx hx X n c ys h1 h2 h3=>these_any _ _ _ es _ _ _ ys _ (HE.out.below hx) h1 h2 h3
  have HF:Hid (∀ W,Below w.heap.size w W->∀ X3 n3 c3 X4 n4 c4 X5 n5 c5,Lst W X3 n3 c3 (taken ds lo)->Lst W X4 n4 c4 (taken ds (freeL (lo++ps) dl))->Lst W X5 n5 c5 (taken es (freeL (hi++st) el))->∀ w1,w1=W.alloc (.cells #[.slice X3 n3 c3,.slice X4 n4 c4,.slice X5 n5 c5] 23)->Calls Tryz.prog 88 #[.slice (some ⟨W.heap.size,0,none⟩) 3 3] w1 fun e w'=>GivesL w e w' (dotL ps st lo hi ds es)/\Below W.heap.size W w'):=by
   intro W hW X3 n3 c3 X4 n4 c4 X5 n5 c5 h3 h4 h5 w1 hw1
   subst hw1
   have e:[taken ds lo,taken ds (freeL (lo++ps) dl),taken es (freeL (hi++st) el)].flatten=dotL ps st lo hi ds es:=by simp [dotL,HND.out,HNE.out]
   have e3:(taken ds lo).length<=6:=taken_len6 (by rw [HLL.out];omega)
   have e4:(taken ds (freeL (lo++ps) dl)).length<=6:=taken_len6 (Nat.le_trans (freeL_len _ _) h6)
   have e5:(taken es (freeL (hi++st) el)).length<=6:=taken_len6 (Nat.le_trans (freeL_len _ _) h6')
   refine (chain_any _ _ _ [taken ds lo,taken ds (freeL (lo++ps) dl),taken es (freeL (hi++st) el)] _ (lsts_three h3 h4 h5 _ rfl) (by simp;omega) ?_).mono ?_
   · intro y hy
     simp only [List.flatten_cons,List.flatten_nil,List.append_nil,List.mem_append] at hy
     rcases hy with hy | hy | hy
     · exact h3.1.2.2.1 y hy
     · exact h4.1.2.2.1 y hy
     · exact h5.1.2.2.1 y hy
   · rintro e1 w2 ⟨⟨v,rfl,hv⟩,hb2⟩
     rw [e] at hv
     exact ⟨⟨v,rfl,newAt_mono hv (by have:=hW.size;simp;omega)⟩,Below.on ((Below.refl W.heap.size W).alloc (Nat.le_refl _) _) hb2⟩
  clear hpp q hcA
  go_enter Tryz.func64,Tryz.ntmps64
  go_wp2_with (go_at_call 87;refine HC1.out.mono ?_;rintro e w1 ⟨hsp,hb⟩;obtain ⟨_,X1,n1,d1,X2,n2,d2,rfl,hl1,hl2⟩:=hsp.resolve_right (fun hh=>by { have:=hh.1;rw [Q.out] at this;cases this });rw [HND.out] at hl1;rw [HNE.out] at hl2;have HL1:=hide hl1;have HL2:=hide hl2;have HB1:=hide (Below.on HB0.out hb);have hn1:n1<=6:=by { have:=hl1.1.1;have:=freeL_len (lo++ps) dl;omega };have hn2:n2<=6:=by { have:=hl2.1.1;have:=freeL_len (hi++st) el;omega };clear hsp hb hl1 hl2)
  have HS1:=hide ((SideAt.new w1 (.slice la ll lc) (.slice X1 n1 d1) (.slice pa pl pc)).alloc (.cells #[.slice ha hl hc,.slice X2 n2 d2,.slice ta tl tc] 98))
  have hs2:=SideAt.new (w1.alloc (.cells #[.slice la ll lc,.slice X1 n1 d1,.slice pa pl pc] 98)) (.slice ha hl hc) (.slice X2 n2 d2) (.slice ta tl tc)
  simp only [World.size_alloc] at hs2
  have HA0:=hide (((Below.refl w1.heap.size w1).alloc (Nat.le_refl _) (.cells #[.slice la ll lc,.slice X1 n1 d1,.slice pa pl pc] 98)).alloc (by simp) (.cells #[.slice ha hl hc,.slice X2 n2 d2,.slice ta tl tc] 98))
  obtain ⟨⟨c00,c01,_⟩,_⟩:=HS1.out.cells
  obtain ⟨⟨_,c02,_⟩,_⟩:=hs2.cells
  clear hs2
  generalize hW2:((w1.alloc (.cells #[.slice la ll lc,.slice X1 n1 d1,.slice pa pl pc] 98)).alloc (.cells #[.slice ha hl hc,.slice X2 n2 d2,.slice ta tl tc] 98))=W2 at c00 c01 c02 HA0 ⊢
  have HBB2:=hide (Below.on HB1.out HA0.out)
  clear hW2 HS1
  go_region_held3 (fun w'=>w'.cell? ⟨w1.heap.size,0,none⟩=some (.slice la ll lc)/\w'.cell? ⟨w1.heap.size,1,none⟩=some (.slice X1 n1 d1)/\w'.cell? ⟨w1.heap.size+1,1,none⟩=some (.slice X2 n2 d2)) (refine ⟨?_,?_,?_⟩<;>with_reducible (repeat (first | assumption | apply drew_cell | apply alloc_cell))) ((first | (go_at_call_of 84 (Value.slice la ll lc);refine (HTA.out _ (HBB2.out.drew) _ _ _ (lo) ((HLO.out.below HBB2.out.drew).1) (HINL.out) (by omega)).mono ?_;rintro e w3 ⟨⟨v3,rfl,Y3,k3,e3,rfl,hl3,_⟩,hb⟩;have HL3:=hide hl3;have HX3:=hide hb;have HBB3:=hide (Below.on (HBB2.out.drew) hb);have c30:=(hb.cell (p:=⟨w1.heap.size,0,none⟩) (lt_of_cell (drew_cell c00))).trans (drew_cell c00);have c31:=(hb.cell (p:=⟨w1.heap.size,1,none⟩) (lt_of_cell (drew_cell c01))).trans (drew_cell c01);have c32:=(hb.cell (p:=⟨w1.heap.size+1,1,none⟩) (lt_of_cell (drew_cell c02))).trans (drew_cell c02);clear hl3 hb) | (go_at_call_of 84 (Value.slice X1 n1 d1);refine (HTA.out _ (HBB3.out) _ _ _ (freeL (lo++ps) dl) (((HL1.out.below HA0.out).below ((Below.refl _ _).drew)).below HX3.out |>.1) (fun y hy=>freeL_bd _ _ y hy) (hn1)).mono ?_;rintro e w4 ⟨⟨v4,rfl,Y4,k4,e4,rfl,hl4,_⟩,hb⟩;have HL4:=hide hl4;have HX4:=hide hb;have HBB4:=hide (Below.on (HBB3.out) hb);have c40:=(hb.cell (p:=⟨w1.heap.size,0,none⟩) (lt_of_cell c30)).trans c30;have c41:=(hb.cell (p:=⟨w1.heap.size,1,none⟩) (lt_of_cell c31)).trans c31;have c42:=(hb.cell (p:=⟨w1.heap.size+1,1,none⟩) (lt_of_cell c32)).trans c32;clear hl4 hb) | (go_at_call_of 84 (Value.slice X2 n2 d2);refine (HTB.out _ (HBB4.out) _ _ _ (freeL (hi++st) el) ((((HL2.out.below HA0.out).below ((Below.refl _ _).drew)).below HX3.out).below HX4.out |>.1) (fun y hy=>freeL_bd _ _ y hy) (hn2)).mono ?_;rintro e w5 ⟨⟨v5,rfl,Y5,k5,e5,rfl,hl5,_⟩,hb⟩;have HL5:=hide hl5;have HX5:=hide hb;have HBB5:=hide (Below.on (HBB4.out) hb);have c50:=(hb.cell (p:=⟨w1.heap.size,0,none⟩) (lt_of_cell c40)).trans c40;have c51:=(hb.cell (p:=⟨w1.heap.size,1,none⟩) (lt_of_cell c41)).trans c41;have c52:=(hb.cell (p:=⟨w1.heap.size+1,1,none⟩) (lt_of_cell c42)).trans c42;clear hl5 hb) | (go_at_call 88;refine (HF.out w5 HBB5.out _ _ _ _ _ _ _ _ _ ((HL3.out.below HX4.out).below HX5.out) (HL4.out.below HX5.out) HL5.out _ (by rfl)).mono ?_;rintro e w6 ⟨⟨v6,rfl,hv⟩,hb⟩;have HV:=hide hv;have HBV:=hide (Below.on HBB5.out hb);obtain ⟨c60,c61,c62⟩:w6.cell? ⟨w1.heap.size,0,none⟩=some (.slice la ll lc)/\w6.cell? ⟨w1.heap.size,1,none⟩=some (.slice X1 n1 d1)/\w6.cell? ⟨w1.heap.size+1,1,none⟩=some (.slice X2 n2 d2):=⟨(hb.cell (p:=⟨w1.heap.size,0,none⟩) (lt_of_cell c50)).trans c50,(hb.cell (p:=⟨w1.heap.size,1,none⟩) (lt_of_cell c51)).trans c51,(hb.cell (p:=⟨w1.heap.size+1,1,none⟩) (lt_of_cell c52)).trans c52⟩;clear hv hb)))
  all_goals go_wp2
  all_goals go_ret2
  all_goals exact ⟨outP_new HV.out 0,HBV.out⟩
theorem shape_2 (x:Int) (ea:Option Addr) (el ec:Nat) (es:List Int) (pa:Option Addr) (pl pc:Nat) (ps:List Int) (la:Option Addr) (ll lc:Nat) (lo:List Int) (ha:Option Addr) (hl hc:Nat) (hi:List Int) (ta:Option Addr) (tl tc:Nat) (st:List Int) (A:Option Addr) (len cap:Nat) (xss:List (List Int)) (w:World)
 (he:Lst w ea el ec es) (hp:Lst w pa pl pc ps) (hlo:Lst w la ll lc lo) (hhi:Lst w ha hl hc hi) (hst:Lst w ta tl tc st) (h:Lsts w A len xss) (hcap:len<=cap) (hz:∀ d∈xss,sizeE d=0) (hn:len=0) (hlen:len<=1048576) (b0:el<=1048576) (b1:pl<=1048576) (b2:ll<=1048576) (b3:hl<=1048576) (b4:tl<=1048576) :
 Calls Tryz.prog 44 #[.agg #[.int .i64 2,.slice ea el ec,.slice pa pl pc,.slice la ll lc,.slice ha hl hc,.slice ta tl tc,.int .i64 x],.slice A len cap] w fun e w'=>OutP e w' ((es,0))/\Below w.heap.size w w':=by
 have zz:=And.intro hcap (And.intro hlen (And.intro hn (And.intro b0 (And.intro b1 (And.intro b2 (And.intro b3 b4))))))
 clear zz
 have HE:=hide he
 have HP:=hide hp
 have HLO:=hide hlo
 have HHI:=hide hhi
 have HST:=hide hst
 have H:=hide h
 have HN:=hide h.1
 have HZ:=hide hz
 have HB1:=hide ((Below.refl w.heap.size w).alloc (Nat.le_refl _) (.cells #[.int .i64 2,.slice ea el ec,.slice pa pl pc,.slice la ll lc,.slice ha hl hc,.slice ta tl tc,.int .i64 x] 38))
 have HOP:=hide (OpAt.new w 2 (.slice ea el ec) (.slice pa pl pc) (.slice la ll lc) (.slice ha hl hc) (.slice ta tl tc) x)
 obtain ⟨o0,o1,o2,o3,o4,o5,o6⟩:=HOP.out.cells
 clear h he hp hlo hhi hst hz
 go_enter Tryz.func44,Tryz.ntmps44
 go_wp2_with (go_at_call 36;refine (afresh_any _ _ _ es _ (HE.out.below HB1.out).1 (by omega)).mono ?_;rintro e w1 ⟨⟨g,rfl,hr,hg⟩,hb⟩;have HR:=hide hr;have HB2:=hide (Below.on HB1.out hb);have hgg:w.heap.size<=g:=Nat.le_trans HB1.out.size hg;clear hr hb hg)
 go_ret2
 exact ⟨outP_new (newAt_row HR.out hgg HE.out.1.1 (by omega) HE.out.1.2.2.1) 0,HB2.out⟩
theorem shape_9 (x:Int) (ea:Option Addr) (el ec:Nat) (es:List Int) (pa:Option Addr) (pl pc:Nat) (ps:List Int) (la:Option Addr) (ll lc:Nat) (lo:List Int) (ha:Option Addr) (hl hc:Nat) (hi:List Int) (ta:Option Addr) (tl tc:Nat) (st:List Int) (A:Option Addr) (len cap:Nat) (xss:List (List Int)) (w:World)
 (he:Lst w ea el ec es) (hp:Lst w pa pl pc ps) (hlo:Lst w la ll lc lo) (hhi:Lst w ha hl hc hi) (hst:Lst w ta tl tc st) (h:Lsts w A len xss) (hcap:len<=cap) (hz:∀ d∈xss,sizeE d=0) (hn:len=1) (hlen:len<=1048576) (b0:el<=1048576) (b1:pl<=1048576) (b2:ll<=1048576) (b3:hl<=1048576) (b4:tl<=1048576) :
 Calls Tryz.prog 44 #[.agg #[.int .i64 9,.slice ea el ec,.slice pa pl pc,.slice la ll lc,.slice ha hl hc,.slice ta tl tc,.int .i64 x],.slice A len cap] w fun e w'=>OutP e w' ((okL (sprE 0 (xss[0]?.getD []) (stepsV (xss[0]?.getD [])) es ps) es,sprE 0 (xss[0]?.getD []) (stepsV (xss[0]?.getD [])) es ps))/\Below w.heap.size w w':=by
 have zz:=And.intro hcap (And.intro hlen (And.intro hn (And.intro b0 (And.intro b1 (And.intro b2 (And.intro b3 b4))))))
 clear zz
 have HE:=hide he
 have HP:=hide hp
 have HLO:=hide hlo
 have HHI:=hide hhi
 have HST:=hide hst
 have H:=hide h
 have HN:=hide h.1
 have HZ:=hide hz
 have HB1:=hide ((Below.refl w.heap.size w).alloc (Nat.le_refl _) (.cells #[.int .i64 9,.slice ea el ec,.slice pa pl pc,.slice la ll lc,.slice ha hl hc,.slice ta tl tc,.int .i64 x] 38))
 have HOP:=hide (OpAt.new w 9 (.slice ea el ec) (.slice pa pl pc) (.slice la ll lc) (.slice ha hl hc) (.slice ta tl tc) x)
 obtain ⟨o0,o1,o2,o3,o4,o5,o6⟩:=HOP.out.cells
 obtain ⟨b,off,rfl,hc⟩:=h.at (by omega)
 obtain ⟨X0,m0,c0,hc0,hl0⟩:=hc 0 (by omega)
 have hc0':w.cell? ⟨b,off,none⟩=some (.slice X0 m0 c0):=hc0
 obtain ⟨ds,hds⟩:∃ ds,ds=xss[0]?.getD []:=⟨_,rfl⟩
 rw [<-hds] at hl0 ⊢
 have HL0:=hide hl0
 have HC0:=hide hc0'
 have hzd:sizeE ds=0:=by rw [hds];exact hz _ (mem_getDL xss 0 (by rw [h.1];omega))
 have HZD:=hide hzd
 have h06:m0<=6:=by have:=(sizeE_ok hzd).1;have:=hl0.1.1;omega
 have HD1:=hide (HL0.out.below HB1.out)
 have q0:=(HB1.out.cell (p:=⟨b,off,none⟩) (lt_of_cell hc0')).trans hc0'
 have i0:(0:Int)<(len:Int):=by omega
 have q0b:=((HB1.out.alloc HB1.out.size (.cells #[.int .i64 0,.slice none 0 0,.slice none 0 0] 83)).cell (p:=⟨b,off,none⟩) (lt_of_cell hc0')).trans hc0'
 obtain ⟨p0,p1,p2,p3,p4,p5,p6⟩:=(HOP.out.alloc (.cells #[.int .i64 0,.slice none 0 0,.slice none 0 0] 83)).cells
 clear h he hp hlo hhi hst hz hc hc0 hc0' hl0 hds hzd
 go_enter Tryz.func44,Tryz.ntmps44
 go_wp2_with fail
 go_region_with (first | (go_at_call 60;refine (seen_spread 9 x _ _ _ ds _ _ _ es _ _ _ ps _ _ _ lo _ _ _ hi _ _ _ st _ (HL0.out.below (HB1.out.drew)).1 (HE.out.below (HB1.out.drew)).1 (HP.out.below (HB1.out.drew)).1 (HLO.out.below (HB1.out.drew)).1 (HHI.out.below (HB1.out.drew)).1 (HST.out.below (HB1.out.drew)).1 HZD.out rfl).mono ?_;rintro e w1 ⟨⟨da1,dl1,dc1,sa1,sl1,sc1,rfl,hi1,_,hc1,_,hF⟩,hb⟩;have HI1:=hide hi1;have HB2:=hide (Below.on (HB1.out.drew) hb); clear hi1 hb hF) | (go_at_call 60;refine (seen_spread 9 x _ _ _ ds _ _ _ es _ _ _ ps _ _ _ lo _ _ _ hi _ _ _ st _ (HL0.out.below ((HB1.out.alloc HB1.out.size (.cells #[.int .i64 0,.slice none 0 0,.slice none 0 0] 83)).drew)).1 (HE.out.below ((HB1.out.alloc HB1.out.size (.cells #[.int .i64 0,.slice none 0 0,.slice none 0 0] 83)).drew)).1 (HP.out.below ((HB1.out.alloc HB1.out.size (.cells #[.int .i64 0,.slice none 0 0,.slice none 0 0] 83)).drew)).1 (HLO.out.below ((HB1.out.alloc HB1.out.size (.cells #[.int .i64 0,.slice none 0 0,.slice none 0 0] 83)).drew)).1 (HHI.out.below ((HB1.out.alloc HB1.out.size (.cells #[.int .i64 0,.slice none 0 0,.slice none 0 0] 83)).drew)).1 (HST.out.below ((HB1.out.alloc HB1.out.size (.cells #[.int .i64 0,.slice none 0 0,.slice none 0 0] 83)).drew)).1 HZD.out rfl).mono ?_;rintro e w1 ⟨⟨da1,dl1,dc1,sa1,sl1,sc1,rfl,hi1,_,hc1,_,hF⟩,hb⟩;have HI1:=hide hi1;have HB2:=hide (Below.on ((HB1.out.alloc HB1.out.size (.cells #[.int .i64 0,.slice none 0 0,.slice none 0 0] 83)).drew) hb);have HF1:Hid (da1=ea\/Far (w.heap.size+2) da1):=(by { rcases hF with e | e;exact .inl e;exact .inr (far_mono e (by { simp })) });have hv0:=(ViewAt.new (w.alloc (.cells #[.int .i64 9,.slice ea el ec,.slice pa pl pc,.slice la ll lc,.slice ha hl hc,.slice ta tl tc,.int .i64 x] 38)) (.int .i64 0) (.slice none 0 0) (.slice none 0 0)).below (Below.on ((Below.refl _ _).drew) hb);simp only [World.size_alloc] at hv0;obtain ⟨⟨u0,u1,u2⟩,f0,f1,f2⟩:=hv0.cells;clear hv0;clear hi1 hb hF))
 all_goals go_wp2
 all_goals go_ret2
 all_goals first | exact ⟨⟨_,_,_,rfl,HI1.out.below ((Below.refl _ _).alloc (Nat.le_refl _) _),hc1⟩,HB2.out.alloc HB2.out.size _⟩ | exact ⟨⟨_,_,_,rfl,ints_putL HI1.out HF1.out HE.out.1 (okL_len HI1.out (fun _=>HE.out.1.1)) (by omega) (by omega),hc1⟩,below_put HB2.out (by omega)⟩
theorem shape_10 (x:Int) (ea:Option Addr) (el ec:Nat) (es:List Int) (pa:Option Addr) (pl pc:Nat) (ps:List Int) (la:Option Addr) (ll lc:Nat) (lo:List Int) (ha:Option Addr) (hl hc:Nat) (hi:List Int) (ta:Option Addr) (tl tc:Nat) (st:List Int) (A:Option Addr) (len cap:Nat) (xss:List (List Int)) (w:World)
 (he:Lst w ea el ec es) (hp:Lst w pa pl pc ps) (hlo:Lst w la ll lc lo) (hhi:Lst w ha hl hc hi) (hst:Lst w ta tl tc st) (h:Lsts w A len xss) (hcap:len<=cap) (hz:∀ d∈xss,sizeE d=0) (hn:len=1) (hlen:len<=1048576) (b0:el<=1048576) (b1:pl<=1048576) (b2:ll<=1048576) (b3:hl<=1048576) (b4:tl<=1048576) :
 Calls Tryz.prog 44 #[.agg #[.int .i64 10,.slice ea el ec,.slice pa pl pc,.slice la ll lc,.slice ha hl hc,.slice ta tl tc,.int .i64 x],.slice A len cap] w fun e w'=>OutP e w' (sumP (xss[0]?.getD []) ps)/\Below w.heap.size w w':=by
 have zz:=And.intro hcap (And.intro hlen (And.intro hn (And.intro b0 (And.intro b1 (And.intro b2 (And.intro b3 b4))))))
 clear zz
 have HE:=hide he
 have HP:=hide hp
 have HLO:=hide hlo
 have HHI:=hide hhi
 have HST:=hide hst
 have H:=hide h
 have HN:=hide h.1
 have HZ:=hide hz
 have HB1:=hide ((Below.refl w.heap.size w).alloc (Nat.le_refl _) (.cells #[.int .i64 10,.slice ea el ec,.slice pa pl pc,.slice la ll lc,.slice ha hl hc,.slice ta tl tc,.int .i64 x] 38))
 have HOP:=hide (OpAt.new w 10 (.slice ea el ec) (.slice pa pl pc) (.slice la ll lc) (.slice ha hl hc) (.slice ta tl tc) x)
 obtain ⟨o0,o1,o2,o3,o4,o5,o6⟩:=HOP.out.cells
 obtain ⟨b,off,rfl,hc⟩:=h.at (by omega)
 obtain ⟨X0,m0,c0,hc0,hl0⟩:=hc 0 (by omega)
 have hc0':w.cell? ⟨b,off,none⟩=some (.slice X0 m0 c0):=hc0
 obtain ⟨ds,hds⟩:∃ ds,ds=xss[0]?.getD []:=⟨_,rfl⟩
 rw [<-hds] at hl0 ⊢
 have HL0:=hide hl0
 have HC0:=hide hc0'
 have hzd:sizeE ds=0:=by rw [hds];exact hz _ (mem_getDL xss 0 (by rw [h.1];omega))
 have HZD:=hide hzd
 have h06:m0<=6:=by have:=(sizeE_ok hzd).1;have:=hl0.1.1;omega
 have HD1:=hide (HL0.out.below HB1.out)
 have q0:=(HB1.out.cell (p:=⟨b,off,none⟩) (lt_of_cell hc0')).trans hc0'
 have i0:(0:Int)<(len:Int):=by omega
 clear h he hp hlo hhi hst hz hc hc0 hc0' hl0 hds hzd
 go_enter Tryz.func44,Tryz.ntmps44
 go_wp2_with fail
 go_region_with (go_at_call 61;refine (sumDims_any _ _ _ _ _ _ _ _ _ ps _ _ _ ds _ (HP.out.below (HB1.out.drew)) (HL0.out.below (HB1.out.drew)).1 HZD.out).mono ?_;rintro e w1 ⟨⟨Z,nz,cz,rfl,hi1,hnc⟩,hb⟩;have HI1:=hide hi1;have HB2:=hide (Below.on (HB1.out.drew) hb);clear hi1 hb)
 all_goals go_wp2
 all_goals go_ret2
 all_goals exact ⟨⟨_,_,_,rfl,HI1.out,hnc⟩,HB2.out⟩
theorem shape_12 (x:Int) (ea:Option Addr) (el ec:Nat) (es:List Int) (pa:Option Addr) (pl pc:Nat) (ps:List Int) (la:Option Addr) (ll lc:Nat) (lo:List Int) (ha:Option Addr) (hl hc:Nat) (hi:List Int) (ta:Option Addr) (tl tc:Nat) (st:List Int) (A:Option Addr) (len cap:Nat) (xss:List (List Int)) (w:World)
 (he:Lst w ea el ec es) (hp:Lst w pa pl pc ps) (hlo:Lst w la ll lc lo) (hhi:Lst w ha hl hc hi) (hst:Lst w ta tl tc st) (h:Lsts w A len xss) (hcap:len<=cap) (hz:∀ d∈xss,sizeE d=0) (hn:len=1) (hlen:len<=1048576) (b0:el<=1048576) (b1:pl<=1048576) (b2:ll<=1048576) (b3:hl<=1048576) (b4:tl<=1048576) :
 Calls Tryz.prog 44 #[.agg #[.int .i64 12,.slice ea el ec,.slice pa pl pc,.slice la ll lc,.slice ha hl hc,.slice ta tl tc,.int .i64 x],.slice A len cap] w fun e w'=>OutP e w' (reformP (xss[0]?.getD []) es)/\Below w.heap.size w w':=by
 have zz:=And.intro hcap (And.intro hlen (And.intro hn (And.intro b0 (And.intro b1 (And.intro b2 (And.intro b3 b4))))))
 clear zz
 have HE:=hide he
 have HP:=hide hp
 have HLO:=hide hlo
 have HHI:=hide hhi
 have HST:=hide hst
 have H:=hide h
 have HN:=hide h.1
 have HZ:=hide hz
 have HB1:=hide ((Below.refl w.heap.size w).alloc (Nat.le_refl _) (.cells #[.int .i64 12,.slice ea el ec,.slice pa pl pc,.slice la ll lc,.slice ha hl hc,.slice ta tl tc,.int .i64 x] 38))
 have HOP:=hide (OpAt.new w 12 (.slice ea el ec) (.slice pa pl pc) (.slice la ll lc) (.slice ha hl hc) (.slice ta tl tc) x)
 obtain ⟨o0,o1,o2,o3,o4,o5,o6⟩:=HOP.out.cells
 obtain ⟨b,off,rfl,hc⟩:=h.at (by omega)
 obtain ⟨X0,m0,c0,hc0,hl0⟩:=hc 0 (by omega)
 have hc0':w.cell? ⟨b,off,none⟩=some (.slice X0 m0 c0):=hc0
 obtain ⟨ds,hds⟩:∃ ds,ds=xss[0]?.getD []:=⟨_,rfl⟩
 rw [<-hds] at hl0 ⊢
 have HL0:=hide hl0
 have HC0:=hide hc0'
 have hzd:sizeE ds=0:=by rw [hds];exact hz _ (mem_getDL xss 0 (by rw [h.1];omega))
 have HZD:=hide hzd
 have h06:m0<=6:=by have:=(sizeE_ok hzd).1;have:=hl0.1.1;omega
 have HD1:=hide (HL0.out.below HB1.out)
 have q0:=(HB1.out.cell (p:=⟨b,off,none⟩) (lt_of_cell hc0')).trans hc0'
 have i0:(0:Int)<(len:Int):=by omega
 clear h he hp hlo hhi hst hz hc hc0 hc0' hl0 hds hzd
 go_enter Tryz.func44,Tryz.ntmps44
 go_wp2_with fail
 go_region_with (go_at_call 62;refine (reformDims_any _ _ _ _ _ _ _ _ _ es _ _ _ ds _ (HE.out.below (HB1.out.drew)).1 (HL0.out.below (HB1.out.drew)).1 HZD.out).mono ?_;rintro e w1 ⟨⟨Z,nz,cz,rfl,hi1,hnc⟩,hb⟩;have HI1:=hide hi1;have HB2:=hide (Below.on (HB1.out.drew) hb);clear hi1 hb)
 all_goals go_wp2
 all_goals go_ret2
 all_goals exact ⟨⟨_,_,_,rfl,HI1.out,hnc⟩,HB2.out⟩
theorem shape_13 (x:Int) (ea:Option Addr) (el ec:Nat) (es:List Int) (pa:Option Addr) (pl pc:Nat) (ps:List Int) (la:Option Addr) (ll lc:Nat) (lo:List Int) (ha:Option Addr) (hl hc:Nat) (hi:List Int) (ta:Option Addr) (tl tc:Nat) (st:List Int) (A:Option Addr) (len cap:Nat) (xss:List (List Int)) (w:World)
 (he:Lst w ea el ec es) (hp:Lst w pa pl pc ps) (hlo:Lst w la ll lc lo) (hhi:Lst w ha hl hc hi) (hst:Lst w ta tl tc st) (h:Lsts w A len xss) (hcap:len<=cap) (hz:∀ d∈xss,sizeE d=0) (hn:len=1) (hlen:len<=1048576) (b0:el<=1048576) (b1:pl<=1048576) (b2:ll<=1048576) (b3:hl<=1048576) (b4:tl<=1048576) :
 Calls Tryz.prog 44 #[.agg #[.int .i64 13,.slice ea el ec,.slice pa pl pc,.slice la ll lc,.slice ha hl hc,.slice ta tl tc,.int .i64 x],.slice A len cap] w fun e w'=>OutP e w' ((okL (cutE 0 (xss[0]?.getD []) (stepsV (xss[0]?.getD [])) lo hi st) (cutD (xss[0]?.getD []) lo hi st),cutE 0 (xss[0]?.getD []) (stepsV (xss[0]?.getD [])) lo hi st))/\Below w.heap.size w w':=by
 have zz:=And.intro hcap (And.intro hlen (And.intro hn (And.intro b0 (And.intro b1 (And.intro b2 (And.intro b3 b4))))))
 clear zz
 have HE:=hide he
 have HP:=hide hp
 have HLO:=hide hlo
 have HHI:=hide hhi
 have HST:=hide hst
 have H:=hide h
 have HN:=hide h.1
 have HZ:=hide hz
 have HB1:=hide ((Below.refl w.heap.size w).alloc (Nat.le_refl _) (.cells #[.int .i64 13,.slice ea el ec,.slice pa pl pc,.slice la ll lc,.slice ha hl hc,.slice ta tl tc,.int .i64 x] 38))
 have HOP:=hide (OpAt.new w 13 (.slice ea el ec) (.slice pa pl pc) (.slice la ll lc) (.slice ha hl hc) (.slice ta tl tc) x)
 obtain ⟨o0,o1,o2,o3,o4,o5,o6⟩:=HOP.out.cells
 obtain ⟨b,off,rfl,hc⟩:=h.at (by omega)
 obtain ⟨X0,m0,c0,hc0,hl0⟩:=hc 0 (by omega)
 have hc0':w.cell? ⟨b,off,none⟩=some (.slice X0 m0 c0):=hc0
 obtain ⟨ds,hds⟩:∃ ds,ds=xss[0]?.getD []:=⟨_,rfl⟩
 rw [<-hds] at hl0 ⊢
 have HL0:=hide hl0
 have HC0:=hide hc0'
 have hzd:sizeE ds=0:=by rw [hds];exact hz _ (mem_getDL xss 0 (by rw [h.1];omega))
 have HZD:=hide hzd
 have h06:m0<=6:=by have:=(sizeE_ok hzd).1;have:=hl0.1.1;omega
 have HD1:=hide (HL0.out.below HB1.out)
 have q0:=(HB1.out.cell (p:=⟨b,off,none⟩) (lt_of_cell hc0')).trans hc0'
 have i0:(0:Int)<(len:Int):=by omega
 have q0b:=((HB1.out.alloc HB1.out.size (.cells #[.int .i64 0,.slice none 0 0,.slice none 0 0] 83)).cell (p:=⟨b,off,none⟩) (lt_of_cell hc0')).trans hc0'
 obtain ⟨p0,p1,p2,p3,p4,p5,p6⟩:=(HOP.out.alloc (.cells #[.int .i64 0,.slice none 0 0,.slice none 0 0] 83)).cells
 clear h he hp hlo hhi hst hz hc hc0 hc0' hl0 hds hzd
 go_enter Tryz.func44,Tryz.ntmps44
 go_wp2_with fail
 go_region_with (first | (go_at_call 60;refine (seen_cut 13 x _ _ _ ds _ _ _ es _ _ _ ps _ _ _ lo _ _ _ hi _ _ _ st _ (HL0.out.below (HB1.out.drew)).1 (HE.out.below (HB1.out.drew)).1 (HP.out.below (HB1.out.drew)).1 (HLO.out.below (HB1.out.drew)).1 (HHI.out.below (HB1.out.drew)).1 (HST.out.below (HB1.out.drew)).1 HZD.out rfl).mono ?_;rintro e w1 ⟨⟨da1,dl1,dc1,sa1,sl1,sc1,rfl,hi1,_,hc1,_,hF⟩,hb⟩;have HI1:=hide hi1;have HB2:=hide (Below.on (HB1.out.drew) hb); clear hi1 hb hF) | (go_at_call 60;refine (seen_cut 13 x _ _ _ ds _ _ _ es _ _ _ ps _ _ _ lo _ _ _ hi _ _ _ st _ (HL0.out.below ((HB1.out.alloc HB1.out.size (.cells #[.int .i64 0,.slice none 0 0,.slice none 0 0] 83)).drew)).1 (HE.out.below ((HB1.out.alloc HB1.out.size (.cells #[.int .i64 0,.slice none 0 0,.slice none 0 0] 83)).drew)).1 (HP.out.below ((HB1.out.alloc HB1.out.size (.cells #[.int .i64 0,.slice none 0 0,.slice none 0 0] 83)).drew)).1 (HLO.out.below ((HB1.out.alloc HB1.out.size (.cells #[.int .i64 0,.slice none 0 0,.slice none 0 0] 83)).drew)).1 (HHI.out.below ((HB1.out.alloc HB1.out.size (.cells #[.int .i64 0,.slice none 0 0,.slice none 0 0] 83)).drew)).1 (HST.out.below ((HB1.out.alloc HB1.out.size (.cells #[.int .i64 0,.slice none 0 0,.slice none 0 0] 83)).drew)).1 HZD.out rfl).mono ?_;rintro e w1 ⟨⟨da1,dl1,dc1,sa1,sl1,sc1,rfl,hi1,_,hc1,_,hF⟩,hb⟩;have HI1:=hide hi1;have HB2:=hide (Below.on ((HB1.out.alloc HB1.out.size (.cells #[.int .i64 0,.slice none 0 0,.slice none 0 0] 83)).drew) hb);have HF1:Hid (Far (w.heap.size+2) da1):=(far_mono hF (by { simp }));have hv0:=(ViewAt.new (w.alloc (.cells #[.int .i64 13,.slice ea el ec,.slice pa pl pc,.slice la ll lc,.slice ha hl hc,.slice ta tl tc,.int .i64 x] 38)) (.int .i64 0) (.slice none 0 0) (.slice none 0 0)).below (Below.on ((Below.refl _ _).drew) hb);simp only [World.size_alloc] at hv0;obtain ⟨⟨u0,u1,u2⟩,f0,f1,f2⟩:=hv0.cells;clear hv0;clear hi1 hb hF))
 all_goals go_wp2
 all_goals go_ret2
 all_goals first | exact ⟨⟨_,_,_,rfl,HI1.out.below ((Below.refl _ _).alloc (Nat.le_refl _) _),hc1⟩,HB2.out.alloc HB2.out.size _⟩ | exact ⟨⟨_,_,_,rfl,ints_putF HI1.out HF1.out (by omega),hc1⟩,below_put HB2.out (by omega)⟩
theorem shape_14 (x:Int) (ea:Option Addr) (el ec:Nat) (es:List Int) (pa:Option Addr) (pl pc:Nat) (ps:List Int) (la:Option Addr) (ll lc:Nat) (lo:List Int) (ha:Option Addr) (hl hc:Nat) (hi:List Int) (ta:Option Addr) (tl tc:Nat) (st:List Int) (A:Option Addr) (len cap:Nat) (xss:List (List Int)) (w:World)
 (he:Lst w ea el ec es) (hp:Lst w pa pl pc ps) (hlo:Lst w la ll lc lo) (hhi:Lst w ha hl hc hi) (hst:Lst w ta tl tc st) (h:Lsts w A len xss) (hcap:len<=cap) (hz:∀ d∈xss,sizeE d=0) (hn:len=1) (hlen:len<=1048576) (b0:el<=1048576) (b1:pl<=1048576) (b2:ll<=1048576) (b3:hl<=1048576) (b4:tl<=1048576) :
 Calls Tryz.prog 44 #[.agg #[.int .i64 14,.slice ea el ec,.slice pa pl pc,.slice la ll lc,.slice ha hl hc,.slice ta tl tc,.int .i64 x],.slice A len cap] w fun e w'=>OutP e w' (padP (xss[0]?.getD []) lo hi st)/\Below w.heap.size w w':=by
 have zz:=And.intro hcap (And.intro hlen (And.intro hn (And.intro b0 (And.intro b1 (And.intro b2 (And.intro b3 b4))))))
 clear zz
 have HE:=hide he
 have HP:=hide hp
 have HLO:=hide hlo
 have HHI:=hide hhi
 have HST:=hide hst
 have H:=hide h
 have HN:=hide h.1
 have HZ:=hide hz
 have HB1:=hide ((Below.refl w.heap.size w).alloc (Nat.le_refl _) (.cells #[.int .i64 14,.slice ea el ec,.slice pa pl pc,.slice la ll lc,.slice ha hl hc,.slice ta tl tc,.int .i64 x] 38))
 have HOP:=hide (OpAt.new w 14 (.slice ea el ec) (.slice pa pl pc) (.slice la ll lc) (.slice ha hl hc) (.slice ta tl tc) x)
 obtain ⟨o0,o1,o2,o3,o4,o5,o6⟩:=HOP.out.cells
 obtain ⟨b,off,rfl,hc⟩:=h.at (by omega)
 obtain ⟨X0,m0,c0,hc0,hl0⟩:=hc 0 (by omega)
 have hc0':w.cell? ⟨b,off,none⟩=some (.slice X0 m0 c0):=hc0
 obtain ⟨ds,hds⟩:∃ ds,ds=xss[0]?.getD []:=⟨_,rfl⟩
 rw [<-hds] at hl0 ⊢
 have HL0:=hide hl0
 have HC0:=hide hc0'
 have hzd:sizeE ds=0:=by rw [hds];exact hz _ (mem_getDL xss 0 (by rw [h.1];omega))
 have HZD:=hide hzd
 have h06:m0<=6:=by have:=(sizeE_ok hzd).1;have:=hl0.1.1;omega
 have HD1:=hide (HL0.out.below HB1.out)
 have q0:=(HB1.out.cell (p:=⟨b,off,none⟩) (lt_of_cell hc0')).trans hc0'
 have i0:(0:Int)<(len:Int):=by omega
 clear h he hp hlo hhi hst hz hc hc0 hc0' hl0 hds hzd
 go_enter Tryz.func44,Tryz.ntmps44
 go_wp2_with fail
 go_region_with (go_at_call 63;refine (padDims_any _ _ _ _ _ _ _ lo _ _ _ hi _ _ _ st _ _ _ ds _ (HLO.out.below (HB1.out.drew)).1 (HHI.out.below (HB1.out.drew)).1 (HST.out.below (HB1.out.drew)).1 (HL0.out.below (HB1.out.drew)).1 HZD.out).mono ?_;rintro e w1 ⟨⟨Z,nz,cz,rfl,hi1,hnc⟩,hb⟩;have HI1:=hide hi1;have HB2:=hide (Below.on (HB1.out.drew) hb);clear hi1 hb)
 all_goals go_wp2
 all_goals go_ret2
 all_goals exact ⟨⟨_,_,_,rfl,HI1.out,hnc⟩,HB2.out⟩
theorem shape_15 (x:Int) (ea:Option Addr) (el ec:Nat) (es:List Int) (pa:Option Addr) (pl pc:Nat) (ps:List Int) (la:Option Addr) (ll lc:Nat) (lo:List Int) (ha:Option Addr) (hl hc:Nat) (hi:List Int) (ta:Option Addr) (tl tc:Nat) (st:List Int) (A:Option Addr) (len cap:Nat) (xss:List (List Int)) (w:World)
 (he:Lst w ea el ec es) (hp:Lst w pa pl pc ps) (hlo:Lst w la ll lc lo) (hhi:Lst w ha hl hc hi) (hst:Lst w ta tl tc st) (h:Lsts w A len xss) (hcap:len<=cap) (hz:∀ d∈xss,sizeE d=0) (hn:len=1) (hlen:len<=1048576) (b0:el<=1048576) (b1:pl<=1048576) (b2:ll<=1048576) (b3:hl<=1048576) (b4:tl<=1048576) :
 Calls Tryz.prog 44 #[.agg #[.int .i64 15,.slice ea el ec,.slice pa pl pc,.slice la ll lc,.slice ha hl hc,.slice ta tl tc,.int .i64 x],.slice A len cap] w fun e w'=>OutP e w' ((okL (flipE 0 (xss[0]?.getD []) (stepsV (xss[0]?.getD [])) ps) (xss[0]?.getD []),flipE 0 (xss[0]?.getD []) (stepsV (xss[0]?.getD [])) ps))/\Below w.heap.size w w':=by
 have zz:=And.intro hcap (And.intro hlen (And.intro hn (And.intro b0 (And.intro b1 (And.intro b2 (And.intro b3 b4))))))
 clear zz
 have HE:=hide he
 have HP:=hide hp
 have HLO:=hide hlo
 have HHI:=hide hhi
 have HST:=hide hst
 have H:=hide h
 have HN:=hide h.1
 have HZ:=hide hz
 have HB1:=hide ((Below.refl w.heap.size w).alloc (Nat.le_refl _) (.cells #[.int .i64 15,.slice ea el ec,.slice pa pl pc,.slice la ll lc,.slice ha hl hc,.slice ta tl tc,.int .i64 x] 38))
 have HOP:=hide (OpAt.new w 15 (.slice ea el ec) (.slice pa pl pc) (.slice la ll lc) (.slice ha hl hc) (.slice ta tl tc) x)
 obtain ⟨o0,o1,o2,o3,o4,o5,o6⟩:=HOP.out.cells
 obtain ⟨b,off,rfl,hc⟩:=h.at (by omega)
 obtain ⟨X0,m0,c0,hc0,hl0⟩:=hc 0 (by omega)
 have hc0':w.cell? ⟨b,off,none⟩=some (.slice X0 m0 c0):=hc0
 obtain ⟨ds,hds⟩:∃ ds,ds=xss[0]?.getD []:=⟨_,rfl⟩
 rw [<-hds] at hl0 ⊢
 have HL0:=hide hl0
 have HC0:=hide hc0'
 have hzd:sizeE ds=0:=by rw [hds];exact hz _ (mem_getDL xss 0 (by rw [h.1];omega))
 have HZD:=hide hzd
 have h06:m0<=6:=by have:=(sizeE_ok hzd).1;have:=hl0.1.1;omega
 have HD1:=hide (HL0.out.below HB1.out)
 have q0:=(HB1.out.cell (p:=⟨b,off,none⟩) (lt_of_cell hc0')).trans hc0'
 have i0:(0:Int)<(len:Int):=by omega
 have q0b:=((HB1.out.alloc HB1.out.size (.cells #[.int .i64 0,.slice none 0 0,.slice none 0 0] 83)).cell (p:=⟨b,off,none⟩) (lt_of_cell hc0')).trans hc0'
 obtain ⟨p0,p1,p2,p3,p4,p5,p6⟩:=(HOP.out.alloc (.cells #[.int .i64 0,.slice none 0 0,.slice none 0 0] 83)).cells
 clear h he hp hlo hhi hst hz hc hc0 hc0' hl0 hds hzd
 go_enter Tryz.func44,Tryz.ntmps44
 go_wp2_with fail
 go_region_with (first | (go_at_call 60;refine (seen_flip 15 x _ _ _ ds _ _ _ es _ _ _ ps _ _ _ lo _ _ _ hi _ _ _ st _ (HL0.out.below (HB1.out.drew)).1 (HE.out.below (HB1.out.drew)).1 (HP.out.below (HB1.out.drew)).1 (HLO.out.below (HB1.out.drew)).1 (HHI.out.below (HB1.out.drew)).1 (HST.out.below (HB1.out.drew)).1 HZD.out (by decide)).mono ?_;rintro e w1 ⟨⟨da1,dl1,dc1,sa1,sl1,sc1,rfl,hi1,_,hc1,_,hF⟩,hb⟩;have HI1:=hide hi1;have HB2:=hide (Below.on (HB1.out.drew) hb); clear hi1 hb hF) | (go_at_call 60;refine (seen_flip 15 x _ _ _ ds _ _ _ es _ _ _ ps _ _ _ lo _ _ _ hi _ _ _ st _ (HL0.out.below ((HB1.out.alloc HB1.out.size (.cells #[.int .i64 0,.slice none 0 0,.slice none 0 0] 83)).drew)).1 (HE.out.below ((HB1.out.alloc HB1.out.size (.cells #[.int .i64 0,.slice none 0 0,.slice none 0 0] 83)).drew)).1 (HP.out.below ((HB1.out.alloc HB1.out.size (.cells #[.int .i64 0,.slice none 0 0,.slice none 0 0] 83)).drew)).1 (HLO.out.below ((HB1.out.alloc HB1.out.size (.cells #[.int .i64 0,.slice none 0 0,.slice none 0 0] 83)).drew)).1 (HHI.out.below ((HB1.out.alloc HB1.out.size (.cells #[.int .i64 0,.slice none 0 0,.slice none 0 0] 83)).drew)).1 (HST.out.below ((HB1.out.alloc HB1.out.size (.cells #[.int .i64 0,.slice none 0 0,.slice none 0 0] 83)).drew)).1 HZD.out (by decide)).mono ?_;rintro e w1 ⟨⟨da1,dl1,dc1,sa1,sl1,sc1,rfl,hi1,_,hc1,_,hF⟩,hb⟩;have HI1:=hide hi1;have HB2:=hide (Below.on ((HB1.out.alloc HB1.out.size (.cells #[.int .i64 0,.slice none 0 0,.slice none 0 0] 83)).drew) hb);have HF1:Hid (Far (w.heap.size+2) da1):=(far_mono hF (by { simp }));have hv0:=(ViewAt.new (w.alloc (.cells #[.int .i64 15,.slice ea el ec,.slice pa pl pc,.slice la ll lc,.slice ha hl hc,.slice ta tl tc,.int .i64 x] 38)) (.int .i64 0) (.slice none 0 0) (.slice none 0 0)).below (Below.on ((Below.refl _ _).drew) hb);simp only [World.size_alloc] at hv0;obtain ⟨⟨u0,u1,u2⟩,f0,f1,f2⟩:=hv0.cells;clear hv0;clear hi1 hb hF))
 all_goals go_wp2
 all_goals go_ret2
 all_goals first | exact ⟨⟨_,_,_,rfl,HI1.out.below ((Below.refl _ _).alloc (Nat.le_refl _) _),hc1⟩,HB2.out.alloc HB2.out.size _⟩ | exact ⟨⟨_,_,_,rfl,ints_putF HI1.out HF1.out (by omega),hc1⟩,below_put HB2.out (by omega)⟩
theorem shape_16 (x:Int) (ea:Option Addr) (el ec:Nat) (es:List Int) (pa:Option Addr) (pl pc:Nat) (ps:List Int) (la:Option Addr) (ll lc:Nat) (lo:List Int) (ha:Option Addr) (hl hc:Nat) (hi:List Int) (ta:Option Addr) (tl tc:Nat) (st:List Int) (A:Option Addr) (len cap:Nat) (xss:List (List Int)) (w:World)
 (he:Lst w ea el ec es) (hp:Lst w pa pl pc ps) (hlo:Lst w la ll lc lo) (hhi:Lst w ha hl hc hi) (hst:Lst w ta tl tc st) (h:Lsts w A len xss) (hcap:len<=cap) (hz:∀ d∈xss,sizeE d=0) (hn:len=2) (hlen:len<=1048576) (b0:el<=1048576) (b1:pl<=1048576) (b2:ll<=1048576) (b3:hl<=1048576) (b4:tl<=1048576) :
 Calls Tryz.prog 44 #[.agg #[.int .i64 16,.slice ea el ec,.slice pa pl pc,.slice la ll lc,.slice ha hl hc,.slice ta tl tc,.int .i64 x],.slice A len cap] w fun e w'=>OutP e w' (dotP ps st lo hi (xss[0]?.getD []) (xss[1]?.getD []))/\Below w.heap.size w w':=by
 have zz:=And.intro hcap (And.intro hlen (And.intro hn (And.intro b0 (And.intro b1 (And.intro b2 (And.intro b3 b4))))))
 clear zz
 have HE:=hide he
 have HP:=hide hp
 have HLO:=hide hlo
 have HHI:=hide hhi
 have HST:=hide hst
 have H:=hide h
 have HN:=hide h.1
 have HZ:=hide hz
 have HB1:=hide ((Below.refl w.heap.size w).alloc (Nat.le_refl _) (.cells #[.int .i64 16,.slice ea el ec,.slice pa pl pc,.slice la ll lc,.slice ha hl hc,.slice ta tl tc,.int .i64 x] 38))
 have HOP:=hide (OpAt.new w 16 (.slice ea el ec) (.slice pa pl pc) (.slice la ll lc) (.slice ha hl hc) (.slice ta tl tc) x)
 obtain ⟨o0,o1,o2,o3,o4,o5,o6⟩:=HOP.out.cells
 obtain ⟨b,off,rfl,hc⟩:=h.at (by omega)
 obtain ⟨X0,m0,c0,hc0,hl0⟩:=hc 0 (by omega)
 have hc0':w.cell? ⟨b,off,none⟩=some (.slice X0 m0 c0):=hc0
 obtain ⟨ds,hds⟩:∃ ds,ds=xss[0]?.getD []:=⟨_,rfl⟩
 rw [<-hds] at hl0 ⊢
 have HL0:=hide hl0
 have HC0:=hide hc0'
 have hzd:sizeE ds=0:=by rw [hds];exact hz _ (mem_getDL xss 0 (by rw [h.1];omega))
 have HZD:=hide hzd
 have h06:m0<=6:=by have:=(sizeE_ok hzd).1;have:=hl0.1.1;omega
 have HD1:=hide (HL0.out.below HB1.out)
 have q0:=(HB1.out.cell (p:=⟨b,off,none⟩) (lt_of_cell hc0')).trans hc0'
 have i0:(0:Int)<(len:Int):=by omega
 obtain ⟨X1,m1,c1,hc1,hl1⟩:=hc 1 (by omega)
 obtain ⟨ds1,hds1⟩:∃ ds1,ds1=xss[1]?.getD []:=⟨_,rfl⟩
 rw [<-hds1] at hl1 ⊢
 have HL1:=hide hl1
 have hzd1:sizeE ds1=0:=by rw [hds1];exact hz _ (mem_getDL xss 1 (by rw [h.1];omega))
 have h16:m1<=6:=by have:=(sizeE_ok hzd1).1;have:=hl1.1.1;omega
 have q1:=(HB1.out.cell (p:=⟨b,off+1,none⟩) (lt_of_cell hc1)).trans hc1
 have i1:(1:Int)<(len:Int):=by omega
 clear h he hp hlo hhi hst hz hc hc0 hc0' hl0 hds hzd hc1 hl1 hds1 hzd1
 go_enter Tryz.func44,Tryz.ntmps44
 go_wp2_with fail
 go_region_with (go_at_call 64;refine (dotDims_any _ _ _ _ _ _ ps _ _ _ lo _ _ _ hi _ _ _ st _ _ _ ds _ _ _ ds1 _ (HP.out.below (HB1.out.drew)) (HLO.out.below (HB1.out.drew)) (HHI.out.below (HB1.out.drew)) (HST.out.below (HB1.out.drew)) (HL0.out.below (HB1.out.drew)).1 (HL1.out.below (HB1.out.drew)).1 h06 h16).mono ?_;rintro e w1 ⟨⟨Z,nz,cz,rfl,hi1,hnc⟩,hb⟩;have HI1:=hide hi1;have HB2:=hide (Below.on (HB1.out.drew) hb);clear hi1 hb)
 all_goals go_wp2
 all_goals go_ret2
 all_goals exact ⟨⟨_,_,_,rfl,HI1.out,hnc⟩,HB2.out⟩
theorem shape_17 (x:Int) (ea:Option Addr) (el ec:Nat) (es:List Int) (pa:Option Addr) (pl pc:Nat) (ps:List Int) (la:Option Addr) (ll lc:Nat) (lo:List Int) (ha:Option Addr) (hl hc:Nat) (hi:List Int) (ta:Option Addr) (tl tc:Nat) (st:List Int) (A:Option Addr) (len cap:Nat) (xss:List (List Int)) (w:World)
 (he:Lst w ea el ec es) (hp:Lst w pa pl pc ps) (hlo:Lst w la ll lc lo) (hhi:Lst w ha hl hc hi) (hst:Lst w ta tl tc st) (h:Lsts w A len xss) (hcap:len<=cap) (hz:∀ d∈xss,sizeE d=0) (hn:1<=len) (hlen:len<=1048576) (b0:el<=1048576) (b1:pl<=1048576) (b2:ll<=1048576) (b3:hl<=1048576) (b4:tl<=1048576) :
 Calls Tryz.prog 44 #[.agg #[.int .i64 17,.slice ea el ec,.slice pa pl pc,.slice la ll lc,.slice ha hl hc,.slice ta tl tc,.int .i64 x],.slice A len cap] w fun e w'=>OutP e w' (joinP ps xss)/\Below w.heap.size w w':=by
 have zz:=And.intro hcap (And.intro hlen (And.intro hn (And.intro b0 (And.intro b1 (And.intro b2 (And.intro b3 b4))))))
 clear zz
 have HE:=hide he
 have HP:=hide hp
 have HLO:=hide hlo
 have HHI:=hide hhi
 have HST:=hide hst
 have H:=hide h
 have HN:=hide h.1
 have HZ:=hide hz
 have HB1:=hide ((Below.refl w.heap.size w).alloc (Nat.le_refl _) (.cells #[.int .i64 17,.slice ea el ec,.slice pa pl pc,.slice la ll lc,.slice ha hl hc,.slice ta tl tc,.int .i64 x] 38))
 have HOP:=hide (OpAt.new w 17 (.slice ea el ec) (.slice pa pl pc) (.slice la ll lc) (.slice ha hl hc) (.slice ta tl tc) x)
 obtain ⟨o0,o1,o2,o3,o4,o5,o6⟩:=HOP.out.cells
 obtain ⟨b,off,rfl,hc⟩:=h.at (by omega)
 obtain ⟨X0,m0,c0,hc0,hl0⟩:=hc 0 (by omega)
 have hc0':w.cell? ⟨b,off,none⟩=some (.slice X0 m0 c0):=hc0
 obtain ⟨ds,hds⟩:∃ ds,ds=xss[0]?.getD []:=⟨_,rfl⟩
 rw [<-hds] at hl0
 have HL0:=hide hl0
 have HC0:=hide hc0'
 have hzd:sizeE ds=0:=by rw [hds];exact hz _ (mem_getDL xss 0 (by rw [h.1];omega))
 have HZD:=hide hzd
 have h06:m0<=6:=by have:=(sizeE_ok hzd).1;have:=hl0.1.1;omega
 have HD1:=hide (HL0.out.below HB1.out)
 have q0:=(HB1.out.cell (p:=⟨b,off,none⟩) (lt_of_cell hc0')).trans hc0'
 have i0:(0:Int)<(len:Int):=by omega
 clear h he hp hlo hhi hst hz hc hc0 hc0' hl0 hds hzd
 go_enter Tryz.func44,Tryz.ntmps44
 go_wp2_with (go_at_call 65;refine (joinDims_any _ _ _ _ _ _ _ _ _ ps _ _ _ xss _ (HP.out.below (HB1.out)) (H.out.below (HB1.out)) hcap hn hlen HZ.out).mono ?_;rintro e w1 ⟨⟨Z,nz,cz,rfl,hi1,hnc⟩,hb⟩;have HI1:=hide hi1;have HB2:=hide (Below.on (HB1.out) hb);clear hi1 hb)
 go_ret2
 all_goals exact ⟨⟨_,_,_,rfl,HI1.out,hnc⟩,HB2.out⟩
theorem shape_18 (x:Int) (ea:Option Addr) (el ec:Nat) (es:List Int) (pa:Option Addr) (pl pc:Nat) (ps:List Int) (la:Option Addr) (ll lc:Nat) (lo:List Int) (ha:Option Addr) (hl hc:Nat) (hi:List Int) (ta:Option Addr) (tl tc:Nat) (st:List Int) (A:Option Addr) (len cap:Nat) (xss:List (List Int)) (w:World)
 (he:Lst w ea el ec es) (hp:Lst w pa pl pc ps) (hlo:Lst w la ll lc lo) (hhi:Lst w ha hl hc hi) (hst:Lst w ta tl tc st) (h:Lsts w A len xss) (hcap:len<=cap) (hz:∀ d∈xss,sizeE d=0) (hn:len=2) (hlen:len<=1048576) (b0:el<=1048576) (b1:pl<=1048576) (b2:ll<=1048576) (b3:hl<=1048576) (b4:tl<=1048576) :
 Calls Tryz.prog 44 #[.agg #[.int .i64 18,.slice ea el ec,.slice pa pl pc,.slice la ll lc,.slice ha hl hc,.slice ta tl tc,.int .i64 x],.slice A len cap] w fun e w'=>OutP e w' (takeP (xss[0]?.getD []) (xss[1]?.getD []))/\Below w.heap.size w w':=by
 have zz:=And.intro hcap (And.intro hlen (And.intro hn (And.intro b0 (And.intro b1 (And.intro b2 (And.intro b3 b4))))))
 clear zz
 have HE:=hide he
 have HP:=hide hp
 have HLO:=hide hlo
 have HHI:=hide hhi
 have HST:=hide hst
 have H:=hide h
 have HN:=hide h.1
 have HZ:=hide hz
 have HB1:=hide ((Below.refl w.heap.size w).alloc (Nat.le_refl _) (.cells #[.int .i64 18,.slice ea el ec,.slice pa pl pc,.slice la ll lc,.slice ha hl hc,.slice ta tl tc,.int .i64 x] 38))
 have HOP:=hide (OpAt.new w 18 (.slice ea el ec) (.slice pa pl pc) (.slice la ll lc) (.slice ha hl hc) (.slice ta tl tc) x)
 obtain ⟨o0,o1,o2,o3,o4,o5,o6⟩:=HOP.out.cells
 obtain ⟨b,off,rfl,hc⟩:=h.at (by omega)
 obtain ⟨X0,m0,c0,hc0,hl0⟩:=hc 0 (by omega)
 have hc0':w.cell? ⟨b,off,none⟩=some (.slice X0 m0 c0):=hc0
 obtain ⟨ds,hds⟩:∃ ds,ds=xss[0]?.getD []:=⟨_,rfl⟩
 rw [<-hds] at hl0 ⊢
 have HL0:=hide hl0
 have HC0:=hide hc0'
 have hzd:sizeE ds=0:=by rw [hds];exact hz _ (mem_getDL xss 0 (by rw [h.1];omega))
 have HZD:=hide hzd
 have h06:m0<=6:=by have:=(sizeE_ok hzd).1;have:=hl0.1.1;omega
 have HD1:=hide (HL0.out.below HB1.out)
 have q0:=(HB1.out.cell (p:=⟨b,off,none⟩) (lt_of_cell hc0')).trans hc0'
 have i0:(0:Int)<(len:Int):=by omega
 obtain ⟨X1,m1,c1,hc1,hl1⟩:=hc 1 (by omega)
 obtain ⟨ds1,hds1⟩:∃ ds1,ds1=xss[1]?.getD []:=⟨_,rfl⟩
 rw [<-hds1] at hl1 ⊢
 have HL1:=hide hl1
 have hzd1:sizeE ds1=0:=by rw [hds1];exact hz _ (mem_getDL xss 1 (by rw [h.1];omega))
 have h16:m1<=6:=by have:=(sizeE_ok hzd1).1;have:=hl1.1.1;omega
 have q1:=(HB1.out.cell (p:=⟨b,off+1,none⟩) (lt_of_cell hc1)).trans hc1
 have i1:(1:Int)<(len:Int):=by omega
 clear h he hp hlo hhi hst hz hc hc0 hc0' hl0 hds hzd hc1 hl1 hds1 hzd1
 go_enter Tryz.func44,Tryz.ntmps44
 go_wp2_with fail
 go_region_with (go_at_call 66;refine (takeDims_any _ _ _ ds _ _ _ ds1 _ (HL0.out.below (HB1.out.drew)) (HL1.out.below (HB1.out.drew)) h06 h16).mono ?_;rintro e w1 ⟨⟨Z,nz,cz,rfl,hi1,hnc⟩,hb⟩;have HI1:=hide hi1;have HB2:=hide (Below.on (HB1.out.drew) hb);clear hi1 hb)
 all_goals go_wp2
 all_goals go_ret2
 all_goals exact ⟨⟨_,_,_,rfl,HI1.out,hnc⟩,HB2.out⟩
theorem shape_19 (x:Int) (ea:Option Addr) (el ec:Nat) (es:List Int) (pa:Option Addr) (pl pc:Nat) (ps:List Int) (la:Option Addr) (ll lc:Nat) (lo:List Int) (ha:Option Addr) (hl hc:Nat) (hi:List Int) (ta:Option Addr) (tl tc:Nat) (st:List Int) (A:Option Addr) (len cap:Nat) (xss:List (List Int)) (w:World)
 (he:Lst w ea el ec es) (hp:Lst w pa pl pc ps) (hlo:Lst w la ll lc lo) (hhi:Lst w ha hl hc hi) (hst:Lst w ta tl tc st) (h:Lsts w A len xss) (hcap:len<=cap) (hz:∀ d∈xss,sizeE d=0) (hn:len=2) (hlen:len<=1048576) (b0:el<=1048576) (b1:pl<=1048576) (b2:ll<=1048576) (b3:hl<=1048576) (b4:tl<=1048576) :
 Calls Tryz.prog 44 #[.agg #[.int .i64 19,.slice ea el ec,.slice pa pl pc,.slice la ll lc,.slice ha hl hc,.slice ta tl tc,.int .i64 x],.slice A len cap] w fun e w'=>OutP e w' (putP es (xss[0]?.getD []) (xss[1]?.getD []))/\Below w.heap.size w w':=by
 have zz:=And.intro hcap (And.intro hlen (And.intro hn (And.intro b0 (And.intro b1 (And.intro b2 (And.intro b3 b4))))))
 clear zz
 have HE:=hide he
 have HP:=hide hp
 have HLO:=hide hlo
 have HHI:=hide hhi
 have HST:=hide hst
 have H:=hide h
 have HN:=hide h.1
 have HZ:=hide hz
 have HB1:=hide ((Below.refl w.heap.size w).alloc (Nat.le_refl _) (.cells #[.int .i64 19,.slice ea el ec,.slice pa pl pc,.slice la ll lc,.slice ha hl hc,.slice ta tl tc,.int .i64 x] 38))
 have HOP:=hide (OpAt.new w 19 (.slice ea el ec) (.slice pa pl pc) (.slice la ll lc) (.slice ha hl hc) (.slice ta tl tc) x)
 obtain ⟨o0,o1,o2,o3,o4,o5,o6⟩:=HOP.out.cells
 obtain ⟨b,off,rfl,hc⟩:=h.at (by omega)
 obtain ⟨X0,m0,c0,hc0,hl0⟩:=hc 0 (by omega)
 have hc0':w.cell? ⟨b,off,none⟩=some (.slice X0 m0 c0):=hc0
 obtain ⟨ds,hds⟩:∃ ds,ds=xss[0]?.getD []:=⟨_,rfl⟩
 rw [<-hds] at hl0 ⊢
 have HL0:=hide hl0
 have HC0:=hide hc0'
 have hzd:sizeE ds=0:=by rw [hds];exact hz _ (mem_getDL xss 0 (by rw [h.1];omega))
 have HZD:=hide hzd
 have h06:m0<=6:=by have:=(sizeE_ok hzd).1;have:=hl0.1.1;omega
 have HD1:=hide (HL0.out.below HB1.out)
 have q0:=(HB1.out.cell (p:=⟨b,off,none⟩) (lt_of_cell hc0')).trans hc0'
 have i0:(0:Int)<(len:Int):=by omega
 obtain ⟨X1,m1,c1,hc1,hl1⟩:=hc 1 (by omega)
 obtain ⟨ds1,hds1⟩:∃ ds1,ds1=xss[1]?.getD []:=⟨_,rfl⟩
 rw [<-hds1] at hl1 ⊢
 have HL1:=hide hl1
 have hzd1:sizeE ds1=0:=by rw [hds1];exact hz _ (mem_getDL xss 1 (by rw [h.1];omega))
 have h16:m1<=6:=by have:=(sizeE_ok hzd1).1;have:=hl1.1.1;omega
 have q1:=(HB1.out.cell (p:=⟨b,off+1,none⟩) (lt_of_cell hc1)).trans hc1
 have i1:(1:Int)<(len:Int):=by omega
 clear h he hp hlo hhi hst hz hc hc0 hc0' hl0 hds hzd hc1 hl1 hds1 hzd1
 go_enter Tryz.func44,Tryz.ntmps44
 go_wp2_with fail
 go_region_with (go_at_call 67;refine (putDims_any _ _ _ _ _ _ _ _ _ es _ _ _ ds _ _ _ ds1 _ (HE.out.below (HB1.out.drew)) (HL0.out.below (HB1.out.drew)) (HL1.out.below (HB1.out.drew)) h06 h16).mono ?_;rintro e w1 ⟨⟨Z,nz,cz,rfl,hi1,hnc⟩,hb⟩;have HI1:=hide hi1;have HB2:=hide (Below.on (HB1.out.drew) hb);clear hi1 hb)
 all_goals go_wp2
 all_goals go_ret2
 all_goals exact ⟨⟨_,_,_,rfl,HI1.out,hnc⟩,HB2.out⟩
theorem shape_11 (x:Int) (ea:Option Addr) (el ec:Nat) (es:List Int) (pa:Option Addr) (pl pc:Nat) (ps:List Int) (la:Option Addr) (ll lc:Nat) (lo:List Int) (ha:Option Addr) (hl hc:Nat) (hi:List Int) (ta:Option Addr) (tl tc:Nat) (st:List Int) (A:Option Addr) (len cap:Nat) (xss:List (List Int)) (w:World)
 (he:Lst w ea el ec es) (hp:Lst w pa pl pc ps) (hlo:Lst w la ll lc lo) (hhi:Lst w ha hl hc hi) (hst:Lst w ta tl tc st) (h:Lsts w A len xss) (hcap:len<=cap) (hz:∀ d∈xss,sizeE d=0) (hn:len=1) (hlen:len<=1048576) (b0:el<=1048576) (b1:pl<=1048576) (b2:ll<=1048576) (b3:hl<=1048576) (b4:tl<=1048576) :
 Calls Tryz.prog 44 #[.agg #[.int .i64 11,.slice ea el ec,.slice pa pl pc,.slice la ll lc,.slice ha hl hc,.slice ta tl tc,.int .i64 x],.slice A len cap] w fun e w'=>OutP e w' ((okL (turnE 0 (xss[0]?.getD []) (stepsV (xss[0]?.getD [])) ps) (taken (xss[0]?.getD []) ps),turnE 0 (xss[0]?.getD []) (stepsV (xss[0]?.getD [])) ps))/\Below w.heap.size w w':=by
 have zz:=And.intro hcap (And.intro hlen (And.intro hn (And.intro b0 (And.intro b1 (And.intro b2 (And.intro b3 b4))))))
 clear zz
 have HE:=hide he
 have HP:=hide hp
 have HLO:=hide hlo
 have HHI:=hide hhi
 have HST:=hide hst
 have H:=hide h
 have HN:=hide h.1
 have HZ:=hide hz
 have HB1:=hide ((Below.refl w.heap.size w).alloc (Nat.le_refl _) (.cells #[.int .i64 11,.slice ea el ec,.slice pa pl pc,.slice la ll lc,.slice ha hl hc,.slice ta tl tc,.int .i64 x] 38))
 have HOP:=hide (OpAt.new w 11 (.slice ea el ec) (.slice pa pl pc) (.slice la ll lc) (.slice ha hl hc) (.slice ta tl tc) x)
 obtain ⟨o0,o1,o2,o3,o4,o5,o6⟩:=HOP.out.cells
 obtain ⟨b,off,rfl,hc⟩:=h.at (by omega)
 obtain ⟨X0,m0,c0,hc0,hl0⟩:=hc 0 (by omega)
 have hc0':w.cell? ⟨b,off,none⟩=some (.slice X0 m0 c0):=hc0
 obtain ⟨ds,hds⟩:∃ ds,ds=xss[0]?.getD []:=⟨_,rfl⟩
 rw [<-hds] at hl0 ⊢
 have HL0:=hide hl0
 have HC0:=hide hc0'
 have hzd:sizeE ds=0:=by rw [hds];exact hz _ (mem_getDL xss 0 (by rw [h.1];omega))
 have HZD:=hide hzd
 have h06:m0<=6:=by have:=(sizeE_ok hzd).1;have:=hl0.1.1;omega
 have HD1:=hide (HL0.out.below HB1.out)
 have q0:=(HB1.out.cell (p:=⟨b,off,none⟩) (lt_of_cell hc0')).trans hc0'
 have i0:(0:Int)<(len:Int):=by omega
 have q0b:=((HB1.out.alloc HB1.out.size (.cells #[.int .i64 0,.slice none 0 0,.slice none 0 0] 83)).cell (p:=⟨b,off,none⟩) (lt_of_cell hc0')).trans hc0'
 obtain ⟨p0,p1,p2,p3,p4,p5,p6⟩:=(HOP.out.alloc (.cells #[.int .i64 0,.slice none 0 0,.slice none 0 0] 83)).cells
 clear h he hp hlo hhi hst hz hc hc0 hc0' hl0 hds hzd
 go_enter Tryz.func44,Tryz.ntmps44
 go_wp2_with fail
 go_region_with (first | (go_at_call 60;refine (seen_turn 11 x _ _ _ ds _ _ _ es _ _ _ ps _ _ _ lo _ _ _ hi _ _ _ st _ (HL0.out.below (HB1.out.drew)).1 (HE.out.below (HB1.out.drew)).1 (HP.out.below (HB1.out.drew)).1 (HLO.out.below (HB1.out.drew)).1 (HHI.out.below (HB1.out.drew)).1 (HST.out.below (HB1.out.drew)).1 HZD.out rfl).mono ?_;rintro e w1 ⟨⟨da1,dl1,dc1,sa1,sl1,sc1,rfl,hi1,_,hc1,_,hF⟩,hb⟩;have HI1:=hide hi1;have HB2:=hide (Below.on (HB1.out.drew) hb); clear hi1 hb hF) | (go_at_call 60;refine (seen_turn 11 x _ _ _ ds _ _ _ es _ _ _ ps _ _ _ lo _ _ _ hi _ _ _ st _ (HL0.out.below ((HB1.out.alloc HB1.out.size (.cells #[.int .i64 0,.slice none 0 0,.slice none 0 0] 83)).drew)).1 (HE.out.below ((HB1.out.alloc HB1.out.size (.cells #[.int .i64 0,.slice none 0 0,.slice none 0 0] 83)).drew)).1 (HP.out.below ((HB1.out.alloc HB1.out.size (.cells #[.int .i64 0,.slice none 0 0,.slice none 0 0] 83)).drew)).1 (HLO.out.below ((HB1.out.alloc HB1.out.size (.cells #[.int .i64 0,.slice none 0 0,.slice none 0 0] 83)).drew)).1 (HHI.out.below ((HB1.out.alloc HB1.out.size (.cells #[.int .i64 0,.slice none 0 0,.slice none 0 0] 83)).drew)).1 (HST.out.below ((HB1.out.alloc HB1.out.size (.cells #[.int .i64 0,.slice none 0 0,.slice none 0 0] 83)).drew)).1 HZD.out rfl).mono ?_;rintro e w1 ⟨⟨da1,dl1,dc1,sa1,sl1,sc1,rfl,hi1,_,hc1,_,hF⟩,hb⟩;have HI1:=hide hi1;have HB2:=hide (Below.on ((HB1.out.alloc HB1.out.size (.cells #[.int .i64 0,.slice none 0 0,.slice none 0 0] 83)).drew) hb);have HF1:Hid (Far (w.heap.size+2) da1):=(far_mono hF (by { simp }));have hv0:=(ViewAt.new (w.alloc (.cells #[.int .i64 11,.slice ea el ec,.slice pa pl pc,.slice la ll lc,.slice ha hl hc,.slice ta tl tc,.int .i64 x] 38)) (.int .i64 0) (.slice none 0 0) (.slice none 0 0)).below (Below.on ((Below.refl _ _).drew) hb);simp only [World.size_alloc] at hv0;obtain ⟨⟨u0,u1,u2⟩,f0,f1,f2⟩:=hv0.cells;clear hv0;clear hi1 hb hF))
 all_goals go_wp2
 all_goals go_ret2
 all_goals first | exact ⟨⟨_,_,_,rfl,HI1.out.below ((Below.refl _ _).alloc (Nat.le_refl _) _),hc1⟩,HB2.out.alloc HB2.out.size _⟩ | exact ⟨⟨_,_,_,rfl,ints_putF HI1.out HF1.out (by omega),hc1⟩,below_put HB2.out (by omega)⟩
end Go.Proofs.YtdbkgeehjfnhbaaGreatDoor.V
