import Derived.Test.YtakpedjhgdkhkaaGreatDoorK10
import Derived.BigRegion
import Derived.Deep.Cut
namespace Go.Proofs.YtakpedjhgdkhkaaGreatDoor.V
set_option maxRecDepth 100000
set_option maxHeartbeats 8000000
open Go.RowKit
set_option linter.unusedVariables false
structure Nd where
 k:Int
 es:List Int
 ps:List Int
 lo:List Int
 hi:List Int
 st:List Int
 x:Int
 ar:List Int
def ndD:Nd:=⟨0,[],[],[],[],[],0,[]⟩
structure Sw where
 a:Option Addr
 l:Nat
 c:Nat
def Sw.v (s:Sw):Value:=.slice s.a s.l s.c
def Sw.Is (s:Sw) (w:World) (xs:List Int):Prop:=Lst w s.a s.l s.c xs/\s.l<=1048576
theorem Sw.Is.below {s:Sw} {w w1:World} {xs:List Int} (h:s.Is w xs) (hb:Below w.heap.size w w1):s.Is w1 xs:=⟨h.1.below hb,h.2⟩
structure Nw where
 k:Int
 e:Sw
 p:Sw
 lo:Sw
 hi:Sw
 st:Sw
 x:Int
 ar:Sw
def Nw.op (u:Nw):Value:=.agg #[.int .i64 u.k,u.e.v,u.p.v,u.lo.v,u.hi.v,u.st.v,.int .i64 u.x]
def Nw.v (u:Nw):Value:=.agg #[.int .i64 u.k,u.e.v,u.p.v,u.lo.v,u.hi.v,u.st.v,.int .i64 u.x,u.ar.v]
structure Nw.Is (u:Nw) (w:World) (d:Nd):Prop where
 k:u.k=d.k
 x:u.x=d.x
 e:u.e.Is w d.es
 p:u.p.Is w d.ps
 lo:u.lo.Is w d.lo
 hi:u.hi.Is w d.hi
 st:u.st.Is w d.st
 ar:u.ar.Is w d.ar
theorem Nw.Is.below {u:Nw} {w w1:World} {d:Nd} (h:u.Is w d) (hb:Below w.heap.size w w1):u.Is w1 d :=
 ⟨h.k,h.x,h.e.below hb,h.p.below hb,h.lo.below hb,h.hi.below hb,h.st.below hb,h.ar.below hb⟩
structure Nw.At (u:Nw) (w:World) (b o:Nat):Prop where
 c0:w.cell? ⟨b,o,none⟩=some (.int .i64 u.k)
 c1:w.cell? ⟨b,o+1,none⟩=some u.e.v
 c2:w.cell? ⟨b,o+2,none⟩=some u.p.v
 c3:w.cell? ⟨b,o+3,none⟩=some u.lo.v
 c4:w.cell? ⟨b,o+4,none⟩=some u.hi.v
 c5:w.cell? ⟨b,o+5,none⟩=some u.st.v
 c6:w.cell? ⟨b,o+6,none⟩=some (.int .i64 u.x)
 c7:w.cell? ⟨b,o+7,none⟩=some u.ar.v
theorem Nw.At.of {u:Nw} {w w1:World} {b o:Nat} (h:u.At w b o) (e:w1.heap[b]?=w.heap[b]?):u.At w1 b o :=
 have k:=fun p=>World.cell?_of_block (w:=w) (w':=w1) (a:=⟨b,p,none⟩) e
 ⟨(k _).trans h.c0,(k _).trans h.c1,(k _).trans h.c2,(k _).trans h.c3,(k _).trans h.c4,(k _).trans h.c5,(k _).trans h.c6,(k _).trans h.c7⟩
theorem Nw.At.lt {u:Nw} {w:World} {b o:Nat} (h:u.At w b o):b<w.heap.size:=lt_of_cell h.c0
theorem Nw.At.below {u:Nw} {w w1:World} {b o:Nat} (h:u.At w b o) (hb:Below w.heap.size w w1):u.At w1 b o:=h.of (hb.block b h.lt)
def Nds (w:World) (A:Option Addr) (n:Nat) (l:List Nd):Prop :=
 l.length=n/\n<=1048576/\(n=0\/∃ b off,A=some ⟨b,off,none⟩/\∀ j,j<n->∃ u:Nw,u.At w b (off+j*8)/\u.Is w (l[j]?.getD ndD))
theorem Nds.below {w w1:World} {A:Option Addr} {n:Nat} {l:List Nd} (h:Nds w A n l) (hb:Below w.heap.size w w1):Nds w1 A n l:=by
 obtain ⟨h1,h2,h3⟩:=h
 refine ⟨h1,h2,?_⟩
 rcases h3 with h3 | ⟨b,off,e,h3⟩
 · exact .inl h3
 · exact .inr ⟨b,off,e,fun j hj=>by obtain ⟨u,k1,k2⟩:=h3 j hj;exact ⟨u,k1.below hb,k2.below hb⟩⟩
theorem Nds.at {w:World} {A:Option Addr} {n:Nat} {l:List Nd} (h:Nds w A n l) (h0:0<n):∃ b off,A=some ⟨b,off,none⟩/\∀ j,j<n->∃ u:Nw,u.At w b (off+j*8)/\u.Is w (l[j]?.getD ndD):=by
 rcases h.2.2 with e | h3
 · omega
 · exact h3
def parN:List Nd->Nat
 | []=>0
 | d::r=>if d.k=1 then parN r+1 else 0
theorem parN_le:∀ l:List Nd,parN l<=l.length
 | []=>Nat.le_refl _
 | d::r=>by
  unfold parN
  have:=parN_le r
  split<;>simp<;>omega
theorem parN_at:∀ (l:List Nd) (j:Nat),(∀ i,i<j->(l[i]?.getD ndD).k=1)->j<l.length->(l[j]?.getD ndD).k≠1->parN l=j
 | [],j,_,hj,_=>by simp at hj
 | d::r,0,_,_,h=>by
  simp at h
  simp [parN,h]
 | d::r,j+1,h,hj,h2=>by
  have h0:=h 0 (by omega)
  simp at h0
  have:=parN_at r j (fun i hi=>by have:=h (i+1) (by omega);simpa using this) (by simpa using hj) (by simpa using h2)
  simp [parN,h0,this]
theorem parN_all:∀ (l:List Nd),(∀ i,i<l.length->(l[i]?.getD ndD).k=1)->parN l=l.length
 | [],_=>rfl
 | d::r,h=>by
  have h0:=h 0 (by simp)
  simp at h0
  have:=parN_all r (fun i hi=>by have:=h (i+1) (by simpa using hi);simpa using this)
  simp [parN,h0,this]
theorem params1_any (u:Nw) (w:World):Calls Tryz.prog 21 #[u.v] w fun e w'=>e=.returned (.bool (u.k != 1))/\Below w.heap.size w w':=by
 obtain ⟨k,⟨ea,el,ec⟩,⟨pa,pl,pc⟩,⟨la,ll,lc⟩,⟨ha,hl,hc⟩,⟨ta,tl,tc⟩,x,⟨aa,al,ac⟩⟩:=u
 simp only [Nw.v,Sw.v]
 go_enter Tryz.func21,Tryz.ntmps21
 go_wp2
 go_ret
 exact ⟨rfl,bl_new _⟩
theorem indexN_any (A:Option Addr) (n cap:Nat) (l:List Nd) (w:World) (h:Nds w A n l) :
 Calls Tryz.prog 20 #[.slice A n cap,.func (.func 21) #[] #[]] w fun e w'=>(∃ r:Int,e=.returned (.int .i64 r)/\((r=-1/\parN l=n)\/(0<=r/\r=(parN l:Nat)/\parN l<n)))/\Below w.heap.size w w':=by
 have H:=hide h
 have hm:=h.2.1
 clear h
 go_enter Tryz.func20,Tryz.ntmps20
 go_wp2
 go_loopw [8] (fun i wr=>∃ j:Nat,j<=n/\i=.int .i64 j/\(∀ t,t<j->(l[t]?.getD ndD).k=1)/\Below w.heap.size w wr) (fun i _=>n-(intOf i).toNat)
 case atStart=>exact ⟨0,Nat.zero_le _,rfl,fun t ht=>by omega,Below.refl _ _⟩
 case round =>
  obtain ⟨j,hj,rfl,hno,hb⟩:=hrel
  have HN:=hide hno
  have HB:=hide hb
  clear hno hb
  by_cases hlt:j<n
  · obtain ⟨b,off,rfl,hc⟩:=(H.out.below HB.out).at (by omega)
    obtain ⟨u,hu,hi⟩:=hc j hlt
    have HC:=hide (params1_any u wr)
    have HK:=hide hi.k
    have HLT:=hide hlt
    obtain ⟨c0,c1,c2,c3,c4,c5,c6,c7⟩:=hu
    have z:=lt_of_cell c0
    simp only at z
    have i1:(j:Int)<(n:Int):=by omega
    clear hc hi
    obtain ⟨k,⟨ea,el,ec⟩,⟨pa,pl,pc⟩,⟨la,ll,lc⟩,⟨ha,hl,hhc⟩,⟨ta,tl,tc⟩,x,⟨aa,al,ac⟩⟩:=u
    simp only [Nw.v,Sw.v] at c0 c1 c2 c3 c4 c5 c6 c7 HC HK
    by_cases hk:k=1
    · have hq:(k != 1)=false:=by simp [hk]
      rw [hq] at HC
      have HK1:=hide hk
      clear hk hq
      go_wp2_with fail
      refine HC.out.mono ?_
      rintro e w2 ⟨rfl,hb2⟩
      have HB2:=hide (bl_on HB.out hb2)
      clear hb2 c0 c1 c2 c3 c4 c5 c6 c7
      go_wp2
      go_roundw
      case rel =>
       refine ⟨j+1,by omega,by go_num,fun t ht=>?_,HB2.out⟩
       by_cases e:t=j
       · rw [e,<-HK.out,HK1.out]
       · exact HN.out t (by omega)
      case measure=>simp [intOf];omega
    · have hq:(k != 1)=true:=by simp [hk]
      rw [hq] at HC
      have HK1:=hide hk
      clear hk hq
      go_wp2_with fail
      refine HC.out.mono ?_
      rintro e w2 ⟨rfl,hb2⟩
      have HB2:=hide (bl_on HB.out hb2)
      clear hb2 c0 c1 c2 c3 c4 c5 c6 c7
      go_wp2
      go_ret
      have hp:=parN_at l j HN.out (by rw [H.out.1];exact HLT.out) (by rw [<-HK.out];exact HK1.out)
      exact ⟨⟨_,rfl,.inr ⟨by omega,by rw [hp],by rw [hp];exact HLT.out⟩⟩,HB2.out⟩
  · go_wp2
    go_ret
    refine ⟨⟨_,rfl,.inl ⟨rfl,?_⟩⟩,HB.out⟩
    rw [parN_all l (fun i hi=>HN.out i (by have:=H.out.1;omega)),H.out.1]
theorem params_any (A:Option Addr) (n cap:Nat) (l:List Nd) (oa:Option Addr) (ol oc:Nat) (w:World) (h:Nds w A n l) :
 Calls Tryz.prog 8 #[.agg #[.slice A n cap,.slice oa ol oc]] w fun e w'=>e=.returned (.int .i64 (parN l:Nat))/\Below w.heap.size w w':=by
 have HC:=hide (indexN_any A n cap l _ (h.below (bl_new (.cells #[.slice A n cap,.slice oa ol oc] 25))))
 have hm:=h.2.1
 clear h
 have hc:(w.alloc (.cells #[.slice A n cap,.slice oa ol oc] 25)).cell? ⟨w.heap.size,0,none⟩=some (.slice A n cap):=by
  unfold World.cell?;rw [World.alloc_heap_new w (.cells #[.slice A n cap,.slice oa ol oc] 25)];rfl
 go_enter Tryz.func8,Tryz.ntmps8
 go_wp2_with fail
 refine HC.out.mono ?_
 rintro e w1 ⟨⟨r,rfl,hr⟩,hb⟩
 have hc1:=(hb.cell (p:=⟨w.heap.size,0,none⟩) (lt_of_cell hc)).trans hc
 have HB:=hide (bl_on (bl_new _) hb)
 clear hb hc
 rcases hr with ⟨rfl,hp⟩ | ⟨h0,h1,h2⟩
 · have HP:=hide hp
   clear hp
   go_wp2
   go_ret
   exact ⟨by rw [HP.out];rfl,HB.out⟩
 · have HP:=hide h1
   have h0':¬ (r<0):=by omega
   clear h1 h2 h0
   go_wp2
   go_ret
   exact ⟨by rw [<-HP.out];rfl,HB.out⟩
theorem rParams_any (A:Option Addr) (n cap:Nat) (l:List Nd) (oa:Option Addr) (ol oc:Nat) (w:World) (h:Nds w A n l) :
 Calls Tryz.prog 13 #[.agg #[.slice A n cap,.slice oa ol oc]] w fun e w'=>e=.returned (.int .i64 (parN l:Nat))/\Below w.heap.size w w':=by
 have HB0:=hide (bl_new (w:=w) (.cells #[.slice A n cap,.slice oa ol oc] 25))
 have H:=hide h
 have hm:=h.2.1
 clear h
 have hc0:(w.alloc (.cells #[.slice A n cap,.slice oa ol oc] 25)).cell? ⟨w.heap.size,0,none⟩=some (.slice A n cap):=by
  unfold World.cell?;rw [World.alloc_heap_new w (.cells #[.slice A n cap,.slice oa ol oc] 25)];rfl
 have HC0:=hide hc0
 clear hc0
 go_enter Tryz.func13,Tryz.ntmps13
 go_wp2
 go_loopw [8] (fun i wr=>∃ j:Nat,j<=n/\i=.int .i64 j/\(∀ t,t<j->(l[t]?.getD ndD).k=1)/\Below (w.heap.size+1) (w.alloc (.cells #[.slice A n cap,.slice oa ol oc] 25)) wr) (fun i _=>n-(intOf i).toNat)
 case atStart=>exact ⟨0,Nat.zero_le _,rfl,fun t ht=>by omega,Below.refl _ _⟩
 case round =>
  obtain ⟨j,hj,rfl,hno,hb⟩:=hrel
  have HN:=hide hno
  have hb':Below (w.alloc (.cells #[.slice A n cap,.slice oa ol oc] 25)).heap.size (w.alloc (.cells #[.slice A n cap,.slice oa ol oc] 25)) wr:=by rw [World.size_alloc];exact hb
  have HB:=hide (bl_on HB0.out hb')
  have hc1:=(hb'.cell (p:=⟨w.heap.size,0,none⟩) (by simp)).trans HC0.out
  have HB1:=hide hb
  have hsz:w.heap.size+1<=wr.heap.size:=by have:=hb.size;simpa using this
  clear hno hb hb'
  by_cases hlt:j<n
  · obtain ⟨b,off,rfl,hc⟩:=(H.out.below HB.out).at (by omega)
    obtain ⟨u,hu,hi⟩:=hc j hlt
    have HK:=hide hi.k
    have HLT:=hide hlt
    obtain ⟨c0,c1,c2,c3,c4,c5,c6,c7⟩:=hu
    have z:=lt_of_cell c0
    simp only at z
    have i1:(j:Int)<(n:Int):=by omega
    clear hc hi
    obtain ⟨k,⟨ea,el,ec⟩,⟨pa,pl,pc⟩,⟨la,ll,lc⟩,⟨ha,hl,hhc⟩,⟨ta,tl,tc⟩,x,⟨aa,al,ac⟩⟩:=u
    simp only [Sw.v] at c0 c1 c2 c3 c4 c5 c6 c7 HK
    by_cases hk:k=1
    · have hq:(k != 1)=false:=by simp [hk]
      have HK1:=hide hk
      clear hk
      go_wp2
      go_roundw
      case rel =>
       refine ⟨j+1,by omega,by go_num,fun t ht=>?_,HB1.out.alloc hsz _⟩
       by_cases e:t=j
       · rw [e,<-HK.out,HK1.out]
       · exact HN.out t (by omega)
      case measure=>simp [intOf];omega
    · have hq:(k != 1)=true:=by simp [hk]
      have HK1:=hide hk
      clear hk
      go_wp2
      go_ret
      have hp:=parN_at l j HN.out (by rw [H.out.1];exact HLT.out) (by rw [<-HK.out];exact HK1.out)
      exact ⟨by rw [hp];rfl,HB.out.alloc HB.out.size _⟩
  · go_wp2
    go_ret
    refine ⟨?_,HB.out⟩
    rw [parN_all l (fun i hi=>HN.out i (by have:=H.out.1;omega)),H.out.1]
    rfl
def farA (xs:List Int) (n:Nat):Bool:=xs.any fun a=>decide (a<0) || decide ((n:Int)<=a)
theorem among1_any (a:Int) (B n:Nat) (w:World) (hc:w.cell? ⟨B,0,none⟩=some (.int .i64 n)):Calls Tryz.prog 37 #[.int .i64 a,.pointer (some ⟨B,0,none⟩)] w fun e w'=>e=.returned (.bool (decide (a<0) || decide ((n:Int)<=a)))/\w'=w:=by
 have z:=lt_of_cell hc
 simp only at z
 by_cases h1:a<0
 · go_enter Tryz.func37,Tryz.ntmps37
   go_wp2
   go_ret
   exact ⟨by simp [h1],rfl⟩
 · go_enter Tryz.func37,Tryz.ntmps37
   go_wp2
   go_ret
   exact ⟨by simp;intro;omega,rfl⟩
theorem indexA_any (a:Option Addr) (len cap:Nat) (xs:List Int) (B n:Nat) (w:World) (h:Ints w a len xs) (hc:w.cell? ⟨B,0,none⟩=some (.int .i64 n)) :
 Calls Tryz.prog 48 #[.slice a len cap,.func (.func 37) #[] #[.pointer (some ⟨B,0,none⟩)]] w fun e w'=>(∃ r:Int,e=.returned (.int .i64 r)/\decide (0<=r)=farA xs n)/\w'=w:=by
 have H:=hide h
 have HK:=hide hc
 have hm:=h.2.1
 clear h hc
 go_enter Tryz.func48,Tryz.ntmps48
 go_wp2
 go_loop [8] (fun i=>∃ j:Nat,j<=len/\i=.int .i64 j/\farA (xs.take j) n=false) (fun i=>len-(intOf i).toNat)
 case atStart=>exact ⟨0,Nat.zero_le _,rfl,by simp [farA]⟩
 case round =>
  obtain ⟨j,hj,rfl,hno⟩:=hrel
  have HN:=hide hno
  clear hno
  by_cases hlt:j<len
  · obtain ⟨b,off,rfl,_,hcc⟩:=H.out.at (by omega)
    have hcj:=hcc j hlt
    have HJL:Hid (j<xs.length):=by rw [Hid,H.out.1];exact hlt
    have HC:=hide (among1_any (xs[j]?.getD 0) B n w HK.out)
    obtain ⟨q,hq⟩:∃ q,q=(decide (xs[j]?.getD 0<0) || decide ((n:Int)<=xs[j]?.getD 0)):=⟨_,rfl⟩
    rw [<-hq] at HC
    have HNX:Hid (farA (xs.take (j+1)) n=q):=by
     rw [Hid,farA,any_take_next xs _ 0 j HJL.out,show (xs.take j).any _=false from HN.out,hq,Bool.false_or]
    have i1:(j:Int)<(len:Int):=by omega
    have HM:Hid (q=true->farA xs n=true):=fun e=>by
     unfold farA
     rw [List.any_eq_true]
     exact ⟨xs[j]?.getD 0,by simp [HJL.out],by rw [<-hq];exact e⟩
    clear hcc hq
    cases q with
    | true =>
     go_wp2_with fail
     refine HC.out.mono ?_
     rintro e w' ⟨rfl,hw'⟩
     obtain rfl:=hw'.symm
     go_wp2
     go_ret
     exact ⟨⟨_,rfl,by rw [HM.out trivial];simp⟩,rfl⟩
    | false =>
     go_wp2_with fail
     refine HC.out.mono ?_
     rintro e w' ⟨rfl,hw'⟩
     obtain rfl:=hw'.symm
     go_wp2
     refine ⟨⟨j+1,by omega,by go_num,HNX.out⟩,by simp [intOf];omega⟩
  · go_wp2
    go_ret
    refine ⟨⟨_,rfl,?_⟩,rfl⟩
    have:=HN.out
    rw [List.take_of_length_le (by rw [H.out.1];omega)] at this
    rw [this]
    rfl
theorem containsA_any (a:Option Addr) (len cap:Nat) (xs:List Int) (B n:Nat) (w:World) (h:Ints w a len xs) (hc:w.cell? ⟨B,0,none⟩=some (.int .i64 n)) :
 Calls Tryz.prog 36 #[.slice a len cap,.func (.func 37) #[] #[.pointer (some ⟨B,0,none⟩)]] w fun e w'=>e=.returned (.bool (farA xs n))/\w'=w:=by
 have H:=hide (indexA_any a len cap xs B n w h hc)
 clear h hc
 go_enter Tryz.func36,Tryz.ntmps36
 go_wp2_with (go_at_call 48;refine H.out.mono ?_;rintro e w' ⟨⟨r,rfl,hr⟩,hw'⟩;obtain rfl:=hw'.symm;have HR:=hide hr;clear hr)
 go_ret
 exact ⟨by rw [HR.out];rfl,rfl⟩
theorem among_any (a:Option Addr) (len cap:Nat) (xs:List Int) (n:Nat) (w:World) (h:Ints w a len xs) :
 Calls Tryz.prog 19 #[.slice a len cap,.int .i64 n] w fun e w'=>e=.returned (.bool (!farA xs n))/\Below w.heap.size w w':=by
 have hc:(w.alloc (.cells #[.int .i64 (n:Int)] 3)).cell? ⟨w.heap.size,0,none⟩=some (.int .i64 n):=by
  unfold World.cell?;rw [World.alloc_heap_new w (.cells #[.int .i64 (n:Int)] 3)];rfl
 have HC:=hide (containsA_any a len cap xs w.heap.size n _ (h.below (bl_new (.cells #[.int .i64 (n:Int)] 3))) hc)
 clear h hc
 go_enter Tryz.func19,Tryz.ntmps19
 go_wp2_with (go_at_call 36;refine HC.out.mono ?_;rintro e w' ⟨rfl,hw'⟩;obtain rfl:=hw')
 go_ret
 exact ⟨rfl,bl_new _⟩
def pickD (ds:List (List Int)) (xs:List Int):List (List Int):=xs.map fun a=>ds[a.toNat]?.getD []
theorem pickD_len (ds:List (List Int)) (xs:List Int):(pickD ds xs).length=xs.length:=by simp [pickD]
theorem pickD_at (ds:List (List Int)) (xs:List Int) (j:Nat) (h:j<xs.length):(pickD ds xs)[j]?.getD []=ds[(xs[j]?.getD 0).toNat]?.getD []:=by simp [pickD,h]
theorem farA_at {xs:List Int} {n:Nat} (h:farA xs n=false) (j:Nat) (hj:j<xs.length):0<=xs[j]?.getD 0/\xs[j]?.getD 0<(n:Int):=by
 unfold farA at h
 rw [List.any_eq_false] at h
 have:=h (xs[j]?.getD 0) (by simp [hj])
 simp at this
 omega
theorem thesl1_any (B k:Nat) (A:Option Addr) (n cap:Nat) (ds:List (List Int)) (w:World) (h:Lsts w A n ds) (hk:k<n) (hc:w.cell? ⟨B,0,none⟩=some (.slice A n cap)) :
 Calls Tryz.prog 45 #[.int .i64 (k:Int),.pointer (some ⟨B,0,none⟩)] w fun e w'=>(∃ X m c,e=.returned (.slice X m c)/\Lst w X m c (ds[k]?.getD []))/\w'=w:=by
 obtain ⟨b,off,rfl,hcc⟩:=h.at (by omega)
 obtain ⟨X,m,c,h1,h2⟩:=hcc k hk
 have HL:=hide h2
 have hm:=h.2.1
 have z:=lt_of_cell hc
 have z1:=lt_of_cell h1
 simp only at z z1
 have i1:(k:Int)<(n:Int):=by omega
 clear h hcc h2
 go_enter Tryz.func45,Tryz.ntmps45
 go_wp2
 go_ret
 exact ⟨⟨X,m,c,rfl,HL.out⟩,rfl⟩
def fillV (vs:Nat->Value) (k j:Nat):Value:=if j<k then vs j else .slice none 0 0
theorem row_ne_num {w:World} {G n:Nat} {f:Nat->Value} (h:w.rowIs G 23 n f) (hs:∀ j,j<n->isSl (f j)) {b o:Nat} {k:IntKind} {x:Int} (hc:w.cell? ⟨b,o,none⟩=some (.int k x)):b≠G:=by
 rintro rfl
 obtain ⟨cur,h1,h2,h3⟩:=h
 have h4:cur[o]?=some (.int k x):=by simpa [World.cell?,h1] using hc
 have ho:o<n:=by
  have:=(Array.getElem?_eq_some_iff.1 h4).1
  omega
 rw [h3 o ho] at h4
 obtain ⟨a,l,c,e⟩:=hs o ho
 rw [e] at h4
 cases h4
theorem each_these (a:Option Addr) (len cap:Nat) (xs:List Int) (B:Nat) (A:Option Addr) (n dcap:Nat) (ds:List (List Int)) (w:World) (hx:Ints w a len xs) (h:Lsts w A n ds) (hc:w.cell? ⟨B,0,none⟩=some (.slice A n dcap)) (hf:farA xs n=false) (hlen:len<=1048576) :
 Calls Tryz.prog 44 #[.slice a len cap,.func (.func 45) #[] #[.pointer (some ⟨B,0,none⟩)]] w fun e w'=>(∃ G,e=.returned (.slice (some ⟨G,0,none⟩) len len)/\Lsts w' (some ⟨G,0,none⟩) len (pickD ds xs))/\Below w.heap.size w w':=by
 have HX:=hide hx
 have H:=hide h
 have HC:=hide hc
 have HF:=hide hf
 have hmk:=run_make_row' (P:=Tryz.prog) 30 23 (.slice none 0 0) 24 Tryz.underlying30 info_sls rfl .i64 .i64 len (by omega) (by omega)
 have zB:=lt_of_cell hc
 simp only at zB
 clear hx h hc hf
 go_enter Tryz.func44,Tryz.ntmps44
 go_wp2
 go_loopw [13] (fun i wr=>∃ (k:Nat) (vs:Nat->Value),k<=len/\i=.int .i64 k/\wr.rowIs w.heap.size 23 len (fillV vs k)/\(∀ j,j<k->∃ X m c,vs j=.slice X m c/\Lst wr X m c ((pickD ds xs)[j]?.getD []))/\Below w.heap.size w wr) (fun i _=>len-(intOf i).toNat)
 case atStart=>exact ⟨0,fun _=>.slice none 0 0,Nat.zero_le _,rfl,(World.rowIs_made w (.slice none 0 0) len 23).congr fun i _=>by simp [fillV],fun j hj=>by omega,bl_new _⟩
 case round =>
  obtain ⟨k,vs,hk,rfl,hr,hv,hb⟩:=hrel
  have HR:=hide hr
  have HV:=hide hv
  have HB:=hide hb
  clear hr hv hb
  by_cases hlt:k<len
  · obtain ⟨b,off,rfl,_,hcc⟩:=(HX.out.below HB.out).at (by omega)
    have hck:=hcc k hlt
    have hkx:k<xs.length:=by rw [HX.out.1];exact hlt
    have hbd:=farA_at HF.out k hkx
    obtain ⟨q,hq⟩:∃ q:Nat,xs[k]?.getD 0=(q:Int):=⟨(xs[k]?.getD 0).toNat,by omega⟩
    have HP:Hid ((pickD ds xs)[k]?.getD []=ds[q]?.getD []):=by rw [Hid,pickD_at ds xs k hkx,hq,Int.toNat_natCast]
    rw [hq] at hck hbd
    have hqn:q<n:=by omega
    have HT:=hide (thesl1_any B q A n dcap ds wr (H.out.below HB.out) hqn ((HB.out.cell (p:=⟨B,0,none⟩) zB).trans HC.out))
    have hcw:=HR.out.cell hlt
    have hfw:=HR.out.frozen k
    have zk:=HR.out.lt
    have i1:(k:Int)<(len:Int):=by omega
    have HSL:Hid (∀ j,j<len->isSl (fillV vs k j)):=fun j hj=>by
     unfold fillV
     by_cases e:j<k
     · rw [if_pos e]
       obtain ⟨X,m,c,e1,_⟩:=HV.out j e
       exact ⟨X,m,c,e1⟩
     · rw [if_neg e]
       exact ⟨none,0,0,rfl⟩
    clear hcc hbd hq hkx
    go_wp2_with fail
    refine HT.out.mono ?_
    rintro e w2 ⟨⟨X,m,c,rfl,hl⟩,hw2⟩
    obtain rfl:=hw2.symm
    have HL:=hide hl
    clear hl
    go_wp2
    go_roundw
    case rel =>
     have hne:∀ b o x,b<wr.heap.size->wr.cell? ⟨b,o,none⟩=some (.int .i64 x)->(wr.setCell ⟨w.heap.size,k,none⟩ (.slice X m c)).heap[b]?=wr.heap[b]?:=fun b o x _ hc=>Below.heap_setCell _ ⟨w.heap.size,k,none⟩ _ b (row_ne_num HR.out HSL.out hc)
     refine ⟨k+1,fun j=>if j=k then .slice X m c else vs j,by omega,by go_num,(HR.out.set k _).congr fun j _=>?_,fun j hj=>?_,HB.out.setCell (p:=⟨w.heap.size,k,none⟩) (Nat.le_refl _) _⟩
     · unfold fillV
       by_cases e:j=k
       · subst e;simp
       · by_cases e2:j<k
         · simp [e,e2,show j<k+1 by omega]
         · simp [e,e2,show ¬ j<k+1 by omega]
     · by_cases e:j=k
       · subst e
         exact ⟨X,m,c,by simp,by rw [HP.out];exact lst_keep1 HL.out hne⟩
       · obtain ⟨X',m',c',e1,e2⟩:=HV.out j (by omega)
         exact ⟨X',m',c',by simp [e,e1],lst_keep1 e2 hne⟩
    case measure=>simp [intOf];omega
  · obtain rfl:k=len:=by omega
    go_wp2
    go_ret
    refine ⟨⟨_,rfl,by rw [pickD_len,HX.out.1],by omega,?_⟩,HB.out⟩
    refine .inr ⟨w.heap.size,0,rfl,fun j hj=>?_⟩
    obtain ⟨X,m,c,e1,e2⟩:=HV.out j hj
    exact ⟨X,m,c,by rw [Nat.zero_add,HR.out.cell hj];simp [fillV,hj,e1],e2⟩
theorem thesl_any (a:Option Addr) (len cap:Nat) (xs:List Int) (A:Option Addr) (n dcap:Nat) (ds:List (List Int)) (w:World) (hx:Ints w a len xs) (h:Lsts w A n ds) (hf:farA xs n=false) (hlen:len<=1048576) :
 Calls Tryz.prog 33 #[.slice A n dcap,.slice a len cap] w fun e w'=>(∃ G,e=.returned (.slice (some ⟨G,0,none⟩) len len)/\Lsts w' (some ⟨G,0,none⟩) len (pickD ds xs))/\Below w.heap.size w w':=by
 have hb:=bl_new (w:=w) (.cells #[.slice A n dcap] 30)
 have hc:(w.alloc (.cells #[.slice A n dcap] 30)).cell? ⟨w.heap.size,0,none⟩=some (.slice A n dcap):=by
  unfold World.cell?;rw [World.alloc_heap_new w (.cells #[.slice A n dcap] 30)];rfl
 have HC:=hide (each_these a len cap xs w.heap.size A n dcap ds _ (hx.below hb) (h.below hb) hc hf hlen)
 have HB:=hide hb
 clear hx h hc hf hb
 go_enter Tryz.func33,Tryz.ntmps33
 go_wp2_with (go_at_call 44;refine HC.out.mono ?_;rintro e w2 ⟨⟨G,rfl,hl⟩,hb2⟩;have HL:=hide hl;have HB2:=hide (bl_on HB.out hb2);clear hl hb2)
 go_ret
 exact ⟨⟨G,rfl,HL.out⟩,HB2.out⟩
end Go.Proofs.YtakpedjhgdkhkaaGreatDoor.V
