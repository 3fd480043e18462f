import Derived.Test.YtakpedjhgdkhkaaGreatDoorK3
import Derived.Test.YtakpedjhgdkhkaaGreatDoorK6
import Derived.Test.YtakpedjhgdkhkaaGreatDoorK5
import Derived.Deep.OwnRows
import Derived.Test.YtakpedjhgdkhkaaGreatDoorK2
import Derived.Laws.CopyOwn
import Derived.Deep.RegionWith
import Derived.BigRegion
namespace Go.Proofs.YtakpedjhgdkhkaaGreatDoor.V
set_option maxRecDepth 100000
set_option maxHeartbeats 8000000
open Go.RowKit Go.Shelf
attribute [local go_sem] Oper.semAt_some
def idxV (xs:List Int) (p:Int) (k:Nat):Int:=p / beh xs k % xs[k]?.getD 0
def rowF (xs:List Int) (p:Int) {n:Nat} (pre:List (Fin n)) (j:Nat):Value:=.int .i64 (if pre.any (fun k=>k.1 == j)=true then idxV xs p j else 0)
theorem row_own {β:Type} (R:Nat) (t:TypeId) (n:Nat) (f:β->Nat->Value):Own (fun s W=>W.rowIs R t n (f s)):=fun s X Y row hs hg hrow =>
 hs.of_block (hg.block R hs.lt (fun e'=>by obtain ⟨o,ho,hc⟩:=hrow R e'.symm;obtain ⟨c,hb,_⟩:=hs;rw [hb] at ho;cases ho;cases hc))
theorem wrap_in (n:Int) (h1:-9223372036854775808<=n) (h2:n<=9223372036854775807):IntKind.i64.wrap n=n:=by
 simp only [IntKind.wrap,IntKind.bits,IntKind.signed]
 simp
 split<;>omega
end Go.Proofs.YtakpedjhgdkhkaaGreatDoor.V
namespace Go.Proofs.YtakpedjhgdkhkaaGreatDoor.V
set_option maxRecDepth 100000
set_option maxHeartbeats 8000000
open Go.RowKit
theorem fresh_any (a:Option Addr) (len cap:Nat) (xs:List Int) (w:World) (h:Ints w a len xs) (h6:len<=6) :
 Calls Tryz.prog 35 #[.slice a len cap] w fun e w'=>(∃ g:Nat,e=.returned (.slice (some ⟨g,0,none⟩) len len)/\RowI w' g len xs/\w.heap.size<=g)/\Below w.heap.size w w':=by
 have H:=hide h
 have HL:=hide h.1
 have hmk:=run_make_row' (P:=Tryz.prog) 23 3 (.int .i64 0) 8 Tryz.underlying23 info_int rfl .i64 .i64 len (by omega) (by omega)
 clear h
 obtain ⟨cs,hcs⟩:∃ cs:List Value,cs=xs.map (Value.int .i64):=⟨_,rfl⟩
 have HCS:=hide hcs
 have hlen:cs.length=len:=by rw [hcs];simp [HL.out]
 have HLEN:=hide hlen
 clear hcs hlen
 go_enter Tryz.func35,Tryz.ntmps35
 go_wp2_with (refine wpList_copy_splice rfl (.tmp 7) (.tmp 8) 23 23 rfl 3 Tryz.underlying23 size_int (some ⟨w.heap.size,0,none⟩) a len len len cap rfl rfl w.heap.size 0 (List.replicate len (.int .i64 0)) 3 ?hg cs ?hn ?hpos ?hfit ?h1 w.heap.size w ?hb (Nat.le_refl _) ?_)
 case hg =>
  have:=World.alloc_heap_new w (.cells (madeCells #[.int .i64 0] len) 3)
  rw [this]
  rw [<-toList_madeCells_one]
 case hn=>rw [HLEN.out];simp
 case hpos =>
  intro h0
  rw [HLEN.out] at h0
  obtain ⟨b,off,rfl,hb,hc⟩:=H.out.at h0
  refine ⟨_,rfl,fun j v hj=>?_⟩
  have hjl:j<len:=by rw [<-HLEN.out];exact (List.getElem?_eq_some_iff.1 hj).1
  have h2:=hc j hjl
  have h3:v=.int .i64 (xs[j]?.getD 0):=by
   rw [HCS.out] at hj
   simp [HL.out,hjl] at hj ⊢
   exact hj.symm
  rw [h3]
  have hb':Below w.heap.size w (w.alloc (.cells (madeCells #[.int .i64 0] len) 3)):=(Below.refl _ _).alloc (Nat.le_refl _) _
  rw [Go.WideShapes.add_plain]
  exact (hb'.cell (p:=⟨b,off+j,none⟩) hb).trans h2
 case hfit=>simp [HLEN.out]
 case h1=>intro v hv;rw [HCS.out] at hv;simp at hv;obtain ⟨x,_,rfl⟩:=hv;rfl
 case hb=>exact (Below.refl _ _).alloc (Nat.le_refl _) _
 intro w' hrow hbel
 have HB:=hide hbel
 clear hbel hmk
 go_wp2
 go_ret
 refine ⟨⟨_,rfl,?_,Nat.le_refl _⟩,HB.out⟩
 refine ⟨_,hrow.out,by simp [splice,HLEN.out],fun i hi=>?_⟩
 have hs:splice (List.replicate len (Value.int .i64 0)) 0 cs=cs:=by simp [splice,HLEN.out]
 rw [hs,HCS.out]
 simp [HL.out,hi]
theorem cells3 {w W w1:World} {c0 c1 c2:Value} {t:TypeId} (hW:W.heap[w.heap.size]?=some (.cells #[c0,c1,c2] t (0,0))) (hb:Below W.heap.size W w1) :
 w1.cell? ⟨w.heap.size,0,none⟩=some c0/\w1.cell? ⟨w.heap.size,1,none⟩=some c1/\w1.cell? ⟨w.heap.size,2,none⟩=some c2/\w1.frozen? ⟨w.heap.size,0,none⟩=false/\w1.frozen? ⟨w.heap.size,1,none⟩=false/\w1.frozen? ⟨w.heap.size,2,none⟩=false/\w.heap.size<w1.heap.size:=by
 have hl:=(Array.getElem?_eq_some_iff.1 hW).1
 have h1:w1.heap[w.heap.size]?=some (.cells #[c0,c1,c2] t (0,0)):=(hb.block _ hl).trans hW
 have hl1:=(Array.getElem?_eq_some_iff.1 h1).1
 refine ⟨?_,?_,?_,?_,?_,?_,hl1⟩<;>simp [World.cell?,World.frozen?,h1]
theorem blank_any (s:Int) (a:Option Addr) (len cap:Nat) (xs:List Int) (w:World) (h:Ints w a len xs) (h6:len<=6) :
 Calls Tryz.prog 95 #[.int .i64 s,.slice a len cap] w fun e w'=>(∃ g1 g2:Nat,e=.returned (.agg #[.int .i64 s,.slice (some ⟨g1,0,none⟩) len len,.slice (some ⟨g2,0,none⟩) len len])/\(RowI w' g1 len xs/\w'.rowIs g2 3 len (fun _=>.int .i64 0))/\g1≠g2/\w.heap.size<=g1/\w.heap.size<=g2)/\Below w.heap.size w w':=by
 have H:=hide h
 have hmk:=run_make_row' (P:=Tryz.prog) 23 3 (.int .i64 0) 8 Tryz.underlying23 info_int rfl .i64 .i64 len (by omega) (by omega)
 clear h
 go_enter Tryz.func95,Tryz.ntmps95
 go_wp2
 go_region_with (go_at_call 35;refine (fresh_any _ _ _ xs _ (H.out.below (by first | exact ((Below.refl _ _).alloc (Nat.le_refl _) _).drew | exact (((Below.refl _ _).alloc (Nat.le_refl _) _).alloc (by simp) _).drew)) h6).mono ?_;rintro e w1 ⟨⟨g,rfl,hr,hg⟩,hb⟩;have HR:=hide hr;have HG:=hide hg;have HB:=hide hb;have hz:=hb.size;simp at hz;obtain ⟨k0,k1,k2,f0,f1,f2,hz1⟩:=cells3 (w:=w) (t:=79) (c0:=.int .i64 0) (c1:=.slice none 0 0) (c2:=.slice none 0 0) (by first | exact World.alloc_heap_new w _ | exact (Below.heap_alloc _ _ _ (by simp)).trans (World.alloc_heap_new w _)) hb;clear hr hg hb hz)
 all_goals go_wp2
 · have hg:=HG.out
   have hg':w.heap.size+1<=g:=by simpa using hg
   have hgl:=HR.out.lt
   have hr1:RowI (((w1.setCell ⟨w.heap.size,0,none⟩ (.int .i64 s)).setCell ⟨w.heap.size,1,none⟩ (.slice (some ⟨g,0,none⟩) len len)).setCell ⟨w.heap.size,2,none⟩ (.slice (some ⟨w1.heap.size,0,none⟩) len len)) g len xs :=
    ((HR.out.setOther (a:=⟨w.heap.size,0,none⟩) (by simp;omega) _).setOther (a:=⟨w.heap.size,1,none⟩) (by simp;omega) _).setOther (a:=⟨w.heap.size,2,none⟩) (by simp;omega) _
   have hr2:=World.rowIs_made (((w1.setCell ⟨w.heap.size,0,none⟩ (.int .i64 s)).setCell ⟨w.heap.size,1,none⟩ (.slice (some ⟨g,0,none⟩) len len)).setCell ⟨w.heap.size,2,none⟩ (.slice (some ⟨w1.heap.size,0,none⟩) len len)) (.int .i64 0) len 3
   simp only [World.size_setCell] at hr2
   have hb:Below w.heap.size w w1:=((Below.refl _ w).alloc (Nat.le_refl _) _).drew.trans (HB.out.mono (by simp))
   refine bodyPost_ret (v:=.agg #[.int .i64 s,.slice (some ⟨g,0,none⟩) len len,.slice (some ⟨w1.heap.size,0,none⟩) len len]) (by simp [results,Tryz.results95,go_sem,k0,k1,k2,hz1]) rfl ⟨⟨g,_,rfl,⟨World.rowIs.alloc hr1 _,hr2⟩,by omega,by omega,by omega⟩,?_⟩
   exact (((hb.setCell (p:=⟨w.heap.size,0,none⟩) (Nat.le_refl _) _).setCell (p:=⟨w.heap.size,1,none⟩) (Nat.le_refl _) _).setCell (p:=⟨w.heap.size,2,none⟩) (Nat.le_refl _) _).alloc (by simp;omega) _
 · have hg:=HG.out
   have hg':w.heap.size+2<=g:=by simpa using hg
   have hr1:RowI (((w1.setCell ⟨w.heap.size,0,none⟩ (.int .i64 s)).setCell ⟨w.heap.size,1,none⟩ (.slice (some ⟨g,0,none⟩) len len)).setCell ⟨w.heap.size,2,none⟩ (.slice (some ⟨w.heap.size+1,0,none⟩) len len)) g len xs :=
    ((HR.out.setOther (a:=⟨w.heap.size,0,none⟩) (by simp;omega) _).setOther (a:=⟨w.heap.size,1,none⟩) (by simp;omega) _).setOther (a:=⟨w.heap.size,2,none⟩) (by simp;omega) _
   have hr0:=World.rowIs_made (w.alloc (.cells #[.int .i64 0,.slice none 0 0,.slice none 0 0] 79)) (.int .i64 0) len 3
   simp only [World.size_alloc] at hr0
   have hr00:w1.rowIs (w.heap.size+1) 3 len (fun _=>.int .i64 0):=hr0.of_block (HB.out.block _ (by simp))
   have hr2:(((w1.setCell ⟨w.heap.size,0,none⟩ (.int .i64 s)).setCell ⟨w.heap.size,1,none⟩ (.slice (some ⟨g,0,none⟩) len len)).setCell ⟨w.heap.size,2,none⟩ (.slice (some ⟨w.heap.size+1,0,none⟩) len len)).rowIs (w.heap.size+1) 3 len (fun _=>.int .i64 0) :=
    ((hr00.setOther (a:=⟨w.heap.size,0,none⟩) (by simp) _).setOther (a:=⟨w.heap.size,1,none⟩) (by simp) _).setOther (a:=⟨w.heap.size,2,none⟩) (by simp) _
   have hb:Below w.heap.size w w1:=(((Below.refl _ w).alloc (Nat.le_refl _) _).alloc (by simp) _).drew.trans (HB.out.mono (by simp;omega))
   refine bodyPost_ret (v:=.agg #[.int .i64 s,.slice (some ⟨g,0,none⟩) len len,.slice (some ⟨w.heap.size+1,0,none⟩) len len]) (by simp [results,Tryz.results95,go_sem,k0,k1,k2]) rfl ⟨⟨g,_,rfl,⟨hr1,hr2⟩,by omega,by omega,by omega⟩,?_⟩
   exact ((hb.setCell (p:=⟨w.heap.size,0,none⟩) (Nat.le_refl _) _).setCell (p:=⟨w.heap.size,1,none⟩) (Nat.le_refl _) _).setCell (p:=⟨w.heap.size,2,none⟩) (Nat.le_refl _) _
theorem reached_any (s:Int) (da:Option Addr) (dl dc:Nat) (sa:Option Addr) (sl sc:Nat) (ss:List Int) (w:World) (h:Ints w sa sl ss) :
 Calls Tryz.prog 99 #[.agg #[.int .i64 s,.slice da dl dc,.slice sa sl sc]] w fun e w'=>e=.returned (if beyondB s ss=true then .tuple #[.agg #[.int .i64 0,.slice none 0 0,.slice none 0 0],.int .i64 5] else .tuple #[.agg #[.int .i64 s,.slice da dl dc,.slice sa sl sc],.int .i64 0])/\Below w.heap.size w w':=by
 have H:=hide h
 clear h
 have hb2:Below w.heap.size w ((w.alloc (.cells #[.int .i64 s,.slice da dl dc,.slice sa sl sc] 79)).alloc (.cells #[.int .i64 0,.slice none 0 0,.slice none 0 0] 79)):=((Below.refl _ _).alloc (Nat.le_refl _) _).alloc (by simp) _
 have HB2:=hide hb2
 clear hb2
 cases c:beyondB s ss with
 | true =>
  rw [if_pos rfl]
  have C:=hide c
  clear c
  go_enter Tryz.func99,Tryz.ntmps99
  go_wp2_with fail
  refine (beyond_any _ _ _ _ _ _ _ ss _ (H.out.below HB2.out)).mono ?_
  rintro e w1 ⟨rfl,hb⟩
  rw [C.out]
  have HB:=hide (Below.on HB2.out hb)
  obtain ⟨hc1,hf1⟩:=bcell hb
  have hz:=hb.size
  simp at hz
  clear hb
  go_wp2
  refine bodyPost_ret (v:=.tuple #[.agg #[.int .i64 0,.slice none 0 0,.slice none 0 0],.int .i64 5]) (by simp [results,Tryz.results99,go_sem,hc1]) rfl ⟨rfl,?_⟩
  exact ((HB.out.setCell (p:=⟨w.heap.size+1,0,none⟩) (by simp) _).setCell (p:=⟨w.heap.size+1,1,none⟩) (by simp) _).setCell (p:=⟨w.heap.size+1,2,none⟩) (by simp) _
 | false =>
  rw [if_neg (by simp)]
  have C:=hide c
  clear c
  go_enter Tryz.func99,Tryz.ntmps99
  go_wp2_with fail
  refine (beyond_any _ _ _ _ _ _ _ ss _ (H.out.below HB2.out)).mono ?_
  rintro e w1 ⟨rfl,hb⟩
  rw [C.out]
  have HB:=hide (Below.on HB2.out hb)
  obtain ⟨hc1,hf1⟩:=bcell hb
  have hz:=hb.size
  simp at hz
  clear hb
  go_wp2
  refine bodyPost_ret (v:=.tuple #[.agg #[.int .i64 s,.slice da dl dc,.slice sa sl sc],.int .i64 0]) (by simp [results,Tryz.results99,go_sem,hc1]) rfl ⟨rfl,?_⟩
  exact ((HB.out.setCell (p:=⟨w.heap.size+1,0,none⟩) (by simp) _).setCell (p:=⟨w.heap.size+1,1,none⟩) (by simp) _).setCell (p:=⟨w.heap.size+1,2,none⟩) (by simp) _
theorem made_any (s:Int) (da:Option Addr) (dl dc:Nat) (ds:List Int) (sa:Option Addr) (sl sc:Nat) (ss:List Int) (w:World) (hd:Ints w da dl ds) (h:Ints w sa sl ss) :
 Calls Tryz.prog 94 #[.agg #[.int .i64 s,.slice da dl dc,.slice sa sl sc]] w fun e w'=>e=.returned (if wrongE s ds ss≠0 then .tuple #[.agg #[.int .i64 0,.slice none 0 0,.slice none 0 0],.int .i64 5] else .tuple #[.agg #[.int .i64 s,.slice da dl dc,.slice sa sl sc],.int .i64 0])/\Below w.heap.size w w':=by
 have H:=hide h
 have HD:=hide hd
 clear h hd
 have hb2:Below w.heap.size w ((w.alloc (.cells #[.int .i64 s,.slice da dl dc,.slice sa sl sc] 79)).alloc (.cells #[.int .i64 0,.slice none 0 0,.slice none 0 0] 79)):=((Below.refl _ _).alloc (Nat.le_refl _) _).alloc (by simp) _
 have HB2:=hide hb2
 clear hb2
 by_cases c:wrongE s ds ss≠0
 · rw [if_pos c]
   have c1:(wrongE s ds ss != 0)=true:=by simp [c]
   clear c
   go_enter Tryz.func94,Tryz.ntmps94
   go_wp2_with fail
   refine (rwrong_any _ _ _ _ ds _ _ _ ss _ (HD.out.below HB2.out) (H.out.below HB2.out)).mono ?_
   rintro e w1 ⟨rfl,hb⟩
   have HB:=hide (Below.on HB2.out hb)
   obtain ⟨hc1,hf1⟩:=bcell hb
   have hz:=hb.size
   simp at hz
   clear hb
   go_wp2
   refine bodyPost_ret (v:=.tuple #[.agg #[.int .i64 0,.slice none 0 0,.slice none 0 0],.int .i64 5]) (by simp [results,Tryz.results94,go_sem,hc1]) rfl ⟨rfl,?_⟩
   exact ((HB.out.setCell (p:=⟨w.heap.size+1,0,none⟩) (by simp) _).setCell (p:=⟨w.heap.size+1,1,none⟩) (by simp) _).setCell (p:=⟨w.heap.size+1,2,none⟩) (by simp) _
 · rw [if_neg c]
   have c1:wrongE s ds ss=0:=by simpa using c
   have C:=hide c1
   clear c c1
   go_enter Tryz.func94,Tryz.ntmps94
   go_wp2_with fail
   refine (rwrong_any _ _ _ _ ds _ _ _ ss _ (HD.out.below HB2.out) (H.out.below HB2.out)).mono ?_
   rintro e w1 ⟨rfl,hb⟩
   rw [C.out]
   have HB:=hide (Below.on HB2.out hb)
   obtain ⟨hc1,hf1⟩:=bcell hb
   have hz:=hb.size
   simp at hz
   clear hb
   go_wp2
   refine bodyPost_ret (v:=.tuple #[.agg #[.int .i64 s,.slice da dl dc,.slice sa sl sc],.int .i64 0]) (by simp [results,Tryz.results94,go_sem,hc1]) rfl ⟨rfl,?_⟩
   exact ((HB.out.setCell (p:=⟨w.heap.size+1,0,none⟩) (by simp) _).setCell (p:=⟨w.heap.size+1,1,none⟩) (by simp) _).setCell (p:=⟨w.heap.size+1,2,none⟩) (by simp) _
def goodPre (xs:List Int) (n k:Nat):Prop:=∀ i,i<k->0<=xs[i]?.getD 0/\xs[i]?.getD 0<n/\∀ j,j<i->xs[j]?.getD 0≠xs[i]?.getD 0
def PermOk (xs:List Int) (n:Nat):Prop:=xs.length=n/\goodPre xs n n
theorem goodPre_succ {xs:List Int} {n k:Nat} (h:goodPre xs n k) (h0:0<=xs[k]?.getD 0) (h1:xs[k]?.getD 0<n) (h2:∀ j,j<k->xs[j]?.getD 0≠xs[k]?.getD 0):goodPre xs n (k+1):=fun i hi=>by
 by_cases e:i=k
 · subst e;exact ⟨h0,h1,h2⟩
 · exact h i (by omega)
def met (xs:List Int):Nat->Nat
 | 0=>0
 | n+1=>met xs n+xs.countP (fun x=>x == (n:Int))
theorem met_cons (x:Int) (xs:List Int):∀ n:Nat,met (x::xs) n=met xs n+if 0<=x/\x<n then 1 else 0
 | 0=>by
  have:¬ (0<=x/\x<((0:Nat):Int)):=by omega
  rw [if_neg this];rfl
 | n+1=>by
  rw [met,met,met_cons x xs n,List.countP_cons]
  by_cases e:x=(n:Int)
  · subst e
    have h1:¬ (0<=(n:Int)/\(n:Int)<(n:Int)):=by omega
    have h2:0<=(n:Int)/\(n:Int)<((n+1:Nat):Int):=by omega
    rw [if_neg h1,if_pos h2];simp;omega
  · have h3:(x == (n:Int))=false:=by simp [e]
    rw [h3]
    by_cases h:0<=x/\x<(n:Int)
    · have h2:0<=x/\x<((n+1:Nat):Int):=by omega
      rw [if_pos h,if_pos h2];simp;omega
    · have h2:¬ (0<=x/\x<((n+1:Nat):Int)):=by omega
      rw [if_neg h,if_neg h2];simp
theorem met_le (n:Nat):∀ xs:List Int,met xs n<=xs.length
 | []=>by have:∀ n,met [] n=0:=fun n=>by induction n with | zero=>rfl | succ n ih=>simp [met,ih]
          simp [this]
 | x::xs=>by rw [met_cons];have:=met_le n xs;simp;split<;>omega
theorem met_all (n:Nat):∀ xs:List Int,met xs n=xs.length->∀ x∈xs,0<=x/\x<n
 | [],_,_,h=>by cases h
 | x::xs,h,y,hy=>by
  rw [met_cons] at h
  have hle:=met_le n xs
  simp at h
  by_cases hx:0<=x/\x<(n:Int)
  · rw [if_pos hx] at h
    rcases List.mem_cons.1 hy with rfl | hy'
    · exact hx
    · exact met_all n xs (by omega) y hy'
  · rw [if_neg hx] at h;omega
theorem met_of_all (n:Nat):∀ xs:List Int,(∀ x∈xs,0<=x/\x<n)->met xs n=xs.length
 | [],_=>by have:∀ n,met [] n=0:=fun n=>by induction n with | zero=>rfl | succ n ih=>simp [met,ih]
            simp [this]
 | x::xs,h=>by rw [met_cons,met_of_all n xs (fun y hy=>h y (by simp [hy])),if_pos (h x (by simp))];simp
theorem met_ge (xs:List Int):∀ n:Nat,(∀ k:Nat,k<n->(k:Int)∈xs)->n<=met xs n
 | 0,_=>Nat.zero_le _
 | n+1,h=>by
  have ih:=met_ge xs n (fun k hk=>h k (by omega))
  have:0<xs.countP (fun x=>x == (n:Int)):=List.countP_pos_iff.2 ⟨_,h n (by omega),by simp⟩
  rw [met];omega
theorem met_full (xs:List Int):∀ n:Nat,(∀ k:Nat,k<n->xs.countP (fun x=>x == (k:Int))<=1)->met xs n<=n/\(met xs n=n->∀ k:Nat,k<n->(k:Int)∈xs)
 | 0,_=>⟨Nat.le_refl _,fun _ k hk=>by omega⟩
 | n+1,h=>by
  obtain ⟨i1,i2⟩:=met_full xs n (fun k hk=>h k (by omega))
  have hc:=h n (by omega)
  refine ⟨by rw [met];omega,fun he k hk=>?_⟩
  rw [met] at he
  have h1:met xs n=n:=by omega
  by_cases e:k=n
  · subst e
    have:0<xs.countP (fun x=>x == (k:Int)):=by omega
    obtain ⟨y,hy,hb⟩:=List.countP_pos_iff.1 this
    simp at hb
    exact hb ▸ hy
  · exact i2 h1 k (by omega)
theorem countP_le_one {xs:List Int} (v:Int) (h:∀ i j,i<xs.length->j<i->xs[j]?.getD 0≠xs[i]?.getD 0):xs.countP (fun x=>x == v)<=1:=by
 induction xs with
 | nil=>simp
 | cons x r ih =>
  have ih':=ih (fun i j hi hj=>by
   have:=h (i+1) (j+1) (by simp;omega) (by omega)
   simpa using this)
  rw [List.countP_cons]
  by_cases e:x=v
  · subst e
    have h0:r.countP (fun y=>y == x)=0:=by
     rw [List.countP_eq_zero]
     intro y hy hb
     simp at hb
     subst hb
     obtain ⟨k,hk,he⟩:=List.getElem_of_mem hy
     have:=h (k+1) 0 (by simp;omega) (by omega)
     simp [hk,he] at this
    simp [h0]
  · have:(x == v)=false:=by simp [e]
    simp [this];exact ih'
theorem perm_iff {xs:List Int} {n:Nat} (hl:xs.length=n):goodPre xs n n<->∀ k:Nat,k<n->(k:Int)∈xs:=by
 constructor
 · intro h
   have hr:∀ x∈xs,0<=x/\x<n:=fun x hx=>by
    obtain ⟨i,hi,he⟩:=List.getElem_of_mem hx
    have:=h i (by omega)
    simp [hi,he] at this
    exact ⟨this.1,this.2.1⟩
   have h1:=met_of_all n xs hr
   exact (met_full xs n (fun k _=>countP_le_one _ (fun i j hi hj=>(h i (by omega)).2.2 j hj))).2 (by omega)
 · intro h
   have h1:=met_ge xs n h
   have h2:=met_le n xs
   have hr:=met_all n xs (by omega)
   intro i hi
   have hil:i<xs.length:=by omega
   have hm:=hr _ (mem_getD xs i hil)
   refine ⟨hm.1,hm.2,fun j hj he=>?_⟩
   have h3:∀ k:Nat,k<n->(k:Int)∈xs.eraseIdx i:=fun k hk=>by
    obtain ⟨t,ht,hte⟩:=List.getElem_of_mem (h k hk)
    by_cases e:t=i
    · rw [List.mem_eraseIdx_iff_getElem?]
      refine ⟨j,by omega,?_⟩
      have hjl:j<xs.length:=by omega
      subst e
      simp [hjl,hil] at he
      simp [hjl,he,hte]
    · rw [List.mem_eraseIdx_iff_getElem?]
      exact ⟨t,e,by simp [ht,hte]⟩
   have h4:=met_ge (xs.eraseIdx i) n h3
   have h5:=met_le n (xs.eraseIdx i)
   rw [List.length_eraseIdx_of_lt hil] at h5
   omega
def Tells (e:Ending) (p:Prop):Prop:=∃ r:Bool,e=.returned (.bool r)/\(r=true<->p)
def seen (xs:List Int) (k:Nat) (j:Nat):Value:=.bool ((xs.take k).any fun x=>x == (j:Int))
theorem seen_succ (xs:List Int) (k j:Nat) (m:Nat) (h:k<xs.length) (hm:xs[k]?.getD 0=(m:Int)):(if j=m then .bool true else seen xs k j)=seen xs (k+1) j:=by
 unfold seen
 rw [take_succ_getD xs k h,List.any_append,hm]
 by_cases e:j=m
 · subst e;simp
 · have:((m:Int) == (j:Int))=false:=by simp;omega
   simp [e,this]
theorem permutes_any (a:Option Addr) (len cap:Nat) (xs:List Int) (n:Nat) (w:World) (h:Ints w a len xs) (h6:n<=6) :
 Calls Tryz.prog 100 #[.slice a len cap,.int .i64 n] w fun e w'=>Tells e (PermOk xs n)/\Below w.heap.size w w':=by
 have hl:=h.1
 have hm:=h.2.1
 have H:=hide h
 clear h
 by_cases hn:len≠n
 · have hn1:((len:Int) != (n:Int))=true:=by simp;omega
   have P:Hid (¬ PermOk xs n):=fun hp=>hn (by rw [<-hl];exact hp.1)
   clear hn hl
   go_enter Tryz.func100,Tryz.ntmps100
   go_wp2
   go_ret
   exact ⟨⟨false,rfl,by simp;exact P.out⟩,Below.refl _ _⟩
 obtain rfl:len=n:=by omega
 have HL:=hide hl
 clear hl hn
 go_enter Tryz.func100,Tryz.ntmps100
 go_wp2
 go_loopw [14] (fun i wr=>∃ k:Nat,k<=len/\i=.int .i64 k/\wr.rowIs w.heap.size 108 6 (seen xs k)/\Below w.heap.size w wr/\goodPre xs len k) (fun i _=>len-(intOf i).toNat)
 case atStart =>
  refine ⟨0,Nat.zero_le _,rfl,?_,(Below.refl _ _).alloc (Nat.le_refl _) _,fun i hi=>by omega⟩
  refine World.rowIs_alloc w #[.bool false,.bool false,.bool false,.bool false,.bool false,.bool false] 108 (seen xs 0) (fun i hi=>?_)
  have:i=0\/i=1\/i=2\/i=3\/i=4\/i=5:=by simp at hi;omega
  rcases this with e | e | e | e | e | e<;>subst e<;>simp [seen]
 case round =>
  obtain ⟨k,hk,rfl,hrow,hB,hgood⟩:=hrel
  have HR:=hide hrow
  have HB:=hide hB
  have HG:=hide hgood
  clear hrow hB hgood
  by_cases hlt:k<len
  · obtain ⟨b,off,rfl,hb,hc⟩:=H.out.at (by omega)
    have hck:wr.cell? ⟨b,off+k,none⟩=some (.int .i64 (xs[k]?.getD 0)):=(HB.out.cell (p:=⟨b,off+k,none⟩) hb).trans (hc k hlt)
    have HKL:Hid (k<xs.length):=by rw [Hid,HL.out];exact hlt
    clear hc
    by_cases q1:xs[k]?.getD 0<0
    · go_wp2
      go_ret
      exact ⟨⟨false,rfl,by simp;exact fun hp=>by have:=hp.2 k hlt;omega⟩,HB.out⟩
    by_cases q2:(len:Int)<=xs[k]?.getD 0
    · go_wp2
      go_ret
      exact ⟨⟨false,rfl,by simp;exact fun hp=>by have:=hp.2 k hlt;omega⟩,HB.out⟩
    obtain ⟨m,hm'⟩:∃ m:Nat,xs[k]?.getD 0=(m:Int):=⟨(xs[k]?.getD 0).toNat,by omega⟩
    have HM:=hide hm'
    rw [hm'] at hck q1 q2
    have hm6:m<6:=by omega
    have hcm:=HR.out.cell hm6
    have hfm:=HR.out.frozen m
    clear hm'
    cases q3:((xs.take k).any fun x=>x == (m:Int)) with
    | true =>
     have hcm':wr.cell? ⟨w.heap.size,m,none⟩=some (.bool true):=by rw [hcm];simp [seen,q3]
     have Q3:=hide q3
     clear hcm q3
     go_wp2
     go_ret
     have hno:¬ PermOk xs len:=fun hp=>by
      have q:=Q3.out
      rw [List.any_eq_true] at q
      obtain ⟨y,hy,hye⟩:=q
      simp at hye
      obtain ⟨j,hj,hje⟩:=List.getElem_of_mem hy
      have hj':j<k/\j<xs.length:=by simp at hj;omega
      have:=(hp.2 k hlt).2.2 j hj'.1
      apply this
      rw [HM.out,<-hye,<-hje]
      simp [hj'.2]
     exact ⟨⟨false,rfl,by simp;exact hno⟩,HB.out⟩
    | false =>
     have hcm':wr.cell? ⟨w.heap.size,m,none⟩=some (.bool false):=by rw [hcm];simp [seen,q3]
     have Q3:=hide q3
     clear hcm q3
     go_wp2
     go_roundw
     case rel =>
      refine ⟨k+1,by omega,by go_num,(HR.out.set m _).congr (fun j _=>seen_succ xs k j m HKL.out HM.out),HB.out.setCell (p:=⟨w.heap.size,m,none⟩) (Nat.le_refl _) _,goodPre_succ HG.out (by rw [HM.out];omega) (by rw [HM.out];omega) (fun j hj he=>?_)⟩
      have q:=Q3.out
      rw [List.any_eq_false] at q
      have hjl:j<xs.length:=by have:=HKL.out;omega
      apply q (xs[j]?.getD 0) _ (by rw [he,HM.out];simp)
      rw [List.mem_iff_getElem?]
      exact ⟨j,by simp [List.getElem?_take_of_lt hj,hjl]⟩
     case measure=>simp [intOf];omega
  · go_wp2
    go_ret
    obtain rfl:k=len:=by omega
    exact ⟨⟨true,rfl,by simp;exact ⟨HL.out,HG.out⟩⟩,HB.out⟩
def taken (xs perm:List Int):List Int:=perm.map fun k=>xs[k.toNat]?.getD 0
def ViewAt (w:World) (b:Nat) (c0 c1 c2:Value):Prop:=w.heap[b]?=some (.cells #[c0,c1,c2] 79 (0,0))
theorem ViewAt.lt {w:World} {b:Nat} {c0 c1 c2:Value} (h:ViewAt w b c0 c1 c2):b<w.heap.size:=(Array.getElem?_eq_some_iff.1 h).1
theorem ViewAt.below {w w':World} {b:Nat} {c0 c1 c2:Value} (h:ViewAt w b c0 c1 c2) (hb:Below w.heap.size w w'):ViewAt w' b c0 c1 c2:=(hb.block b h.lt).trans h
theorem ViewAt.alloc {w:World} {b:Nat} {c0 c1 c2:Value} (h:ViewAt w b c0 c1 c2) (o:Obj):ViewAt (w.alloc o) b c0 c1 c2:=(Below.heap_alloc _ _ _ h.lt).trans h
theorem ViewAt.set {w:World} {b:Nat} {c0 c1 c2:Value} (h:ViewAt w b c0 c1 c2) {p:Addr} (hne:b≠p.block) (u:Value):ViewAt (w.setCell p u) b c0 c1 c2:=(Below.heap_setCell _ _ _ _ hne).trans h
theorem ViewAt.cells {w:World} {b:Nat} {c0 c1 c2:Value} (h:ViewAt w b c0 c1 c2):(w.cell? ⟨b,0,none⟩=some c0/\w.cell? ⟨b,1,none⟩=some c1/\w.cell? ⟨b,2,none⟩=some c2)/\(w.frozen? ⟨b,0,none⟩=false/\w.frozen? ⟨b,1,none⟩=false/\w.frozen? ⟨b,2,none⟩=false):=by
 unfold ViewAt at h
 refine ⟨⟨?_,?_,?_⟩,?_,?_,?_⟩<;>simp [World.cell?,World.frozen?,h]
theorem ViewAt.new (w:World) (c0 c1 c2:Value):ViewAt (w.alloc (.cells #[c0,c1,c2] 79)) w.heap.size c0 c1 c2:=World.alloc_heap_new w _
def onWay (xs ys:List Int) (k j:Nat):Value:=.int .i64 (if j<k then xs[j]?.getD 0 else ys[j]?.getD 0)
theorem onWay_succ (xs ys:List Int) (k j:Nat):(if j=k then .int .i64 (xs[k]?.getD 0) else onWay xs ys k j)=onWay xs ys (k+1) j:=by
 unfold onWay
 by_cases e:j=k
 · subst e;simp
 · by_cases h:j<k
   · rw [if_neg e,if_pos h,if_pos (by omega)]
   · rw [if_neg e,if_neg h,if_neg (by omega)]
theorem onWay_all {w:World} {g t len:Nat} {xs ys:List Int} (h:w.rowIs g t len (onWay xs ys len)):w.rowIs g t len (fun j=>.int .i64 (xs[j]?.getD 0)):=h.congr (fun j hj=>by simp [onWay,hj])
theorem onWay_zero {w:World} {g t len:Nat} {xs ys:List Int} (h:w.rowIs g t len (fun j=>.int .i64 (ys[j]?.getD 0))):w.rowIs g t len (onWay xs ys 0):=h.congr (fun j _=>by simp [onWay])
theorem taken_getD (xs ps:List Int) (k m:Nat) (hk:k<ps.length) (hm:ps[k]?.getD 0=(m:Int)):(taken xs ps)[k]?.getD 0=xs[m]?.getD 0:=by
 have e:ps[k]=(m:Int):=by simpa [hk] using hm
 simp [taken,hk,e]
theorem taken_length (xs ps:List Int):(taken xs ps).length=ps.length:=by simp [taken]
theorem taken_bd {xs ps:List Int} (h:∀ x∈xs,-9223372036854775808<=x/\x<=9223372036854775807):∀ x∈taken xs ps,-9223372036854775808<=x/\x<=9223372036854775807:=by
 intro y hy
 simp only [taken,List.mem_map] at hy
 obtain ⟨p,_,rfl⟩:=hy
 by_cases hk:p.toNat<xs.length
 · exact h _ (mem_getD xs _ hk)
 · have:xs[p.toNat]?=none:=by simp;omega
   simp [this]
theorem wrongE_ok {s:Int} {ds ss:List Int} (h:wrongE s ds ss=0):sizeE ds=0/\ss.length=ds.length/\beyondB s ss=false:=by
 unfold wrongE at h
 by_cases h1:sizeE ds≠0
 · rw [if_pos h1] at h;exact absurd h h1
 rw [if_neg h1] at h
 by_cases h2:ss.length≠ds.length
 · rw [if_pos h2] at h;omega
 rw [if_neg h2] at h
 by_cases h3:beyondB s ss=true
 · rw [if_pos h3] at h;omega
 exact ⟨by simpa using h1,by simpa using h2,by simpa using h3⟩
theorem turn_far {s:Int} {ds ss ps:List Int} {n:Nat} (h:wrongE s ds ss=0) (hp:PermOk ps n) (hl:ss.length=n):beyondB s (taken ss ps)=false:=by
 obtain ⟨_,_,h3⟩:=wrongE_ok h
 simp only [beyondB,Bool.or_eq_false_iff] at h3 ⊢
 refine ⟨h3.1,?_⟩
 rw [List.any_eq_false] at h3 ⊢
 intro x hx
 simp only [taken,List.mem_map] at hx
 obtain ⟨p,hp',rfl⟩:=hx
 obtain ⟨i,hi,he⟩:=List.getElem_of_mem hp'
 have hg:=hp.2 i (by rw [<-hp.1];exact hi)
 simp [hi,he] at hg
 exact h3.2 _ (mem_getD ss _ (by omega))
theorem ints_set3 {w:World} {g len B:Nat} {xs:List Int} {a b c:Value} (h:Ints w (some ⟨g,0,none⟩) len xs) (hne:g≠B):Ints (((w.setCell ⟨B,0,none⟩ a).setCell ⟨B,1,none⟩ b).setCell ⟨B,2,none⟩ c) (some ⟨g,0,none⟩) len xs:=by
 obtain ⟨h1,h2,h3,h4⟩:=h
 refine ⟨h1,h2,h3,?_⟩
 rcases h4 with h4 | ⟨b',off,ha,hc⟩
 · exact .inl h4
 · cases ha
   have e:(((w.setCell ⟨B,0,none⟩ a).setCell ⟨B,1,none⟩ b).setCell ⟨B,2,none⟩ c).heap[g]?=w.heap[g]? :=
    ((Below.heap_setCell _ ⟨B,2,none⟩ _ g hne).trans (Below.heap_setCell _ ⟨B,1,none⟩ _ g hne)).trans (Below.heap_setCell _ ⟨B,0,none⟩ _ g hne)
   exact .inr ⟨_,_,rfl,fun j hj=>(World.cell?_of_block (w:=w) e).trans (hc j hj)⟩
def permB (xs:List Int) (n:Nat):Bool:=decide (xs.length=n) && (List.range n).all fun k=>xs.any fun x=>x == (k:Int)
theorem permB_iff (xs:List Int) (n:Nat):permB xs n=true<->PermOk xs n:=by
 unfold permB PermOk
 simp only [Bool.and_eq_true,decide_eq_true_eq,List.all_eq_true,List.mem_range,List.any_eq_true,beq_iff_eq]
 constructor
 · rintro ⟨h1,h2⟩
   exact ⟨h1,(perm_iff h1).2 (fun k hk=>by obtain ⟨x,hx,he⟩:=h2 k hk;exact he ▸ hx)⟩
 · rintro ⟨h1,h2⟩
   exact ⟨h1,fun k hk=>⟨_,(perm_iff h1).1 h2 k hk,rfl⟩⟩
def turnE (s:Int) (ds ss ps:List Int):Int:=if wrongE s ds ss≠0 then wrongE s ds ss else if permB ps ds.length=true then 0 else 6
def okS (E:Int) (s:Int):Int:=if E=0 then s else 0
def okL (E:Int) (l:List Int):List Int:=if E=0 then l else []
theorem turn_wrong (s:Int) (da:Option Addr) (dl dc:Nat) (ds:List Int) (sa:Option Addr) (sl sc:Nat) (ss:List Int) (a:Option Addr) (len cap:Nat) (w:World)
 (hd:Ints w da dl ds) (hs:Ints w sa sl ss) (hW:wrongE s ds ss≠0) :
 Calls Tryz.prog 80 #[.agg #[.int .i64 s,.slice da dl dc,.slice sa sl sc],.slice a len cap] w fun e w'=>e=.returned (.tuple #[.agg #[.int .i64 0,.slice none 0 0,.slice none 0 0],.int .i64 (wrongE s ds ss)])/\Below w.heap.size w w':=by
 have HD:=hide hd
 have HS:=hide hs
 have c1:(wrongE s ds ss != 0)=true:=by simp [hW]
 clear hd hs hW
 have hb2:Below w.heap.size w ((w.alloc (.cells #[.int .i64 s,.slice da dl dc,.slice sa sl sc] 79)).alloc (.cells #[.int .i64 0,.slice none 0 0,.slice none 0 0] 79)):=((Below.refl _ _).alloc (Nat.le_refl _) _).alloc (by simp) _
 have HB2:=hide hb2
 clear hb2
 go_enter Tryz.func80,Tryz.ntmps80
 go_wp2_with fail
 refine (wrong_any _ _ _ _ ds _ _ _ ss _ (HD.out.below HB2.out) (HS.out.below HB2.out)).mono ?_
 rintro e w1 ⟨rfl,hb⟩
 have HB:=hide (Below.on HB2.out hb)
 obtain ⟨hc1,hf1⟩:=bcell hb
 have hz:=hb.size
 simp at hz
 clear hb
 go_wp2
 refine bodyPost_ret (v:=.tuple #[.agg #[.int .i64 0,.slice none 0 0,.slice none 0 0],.int .i64 (wrongE s ds ss)]) (by simp [results,Tryz.results80,go_sem,hc1]) rfl ⟨rfl,?_⟩
 exact ((HB.out.setCell (p:=⟨w.heap.size+1,0,none⟩) (by simp) _).setCell (p:=⟨w.heap.size+1,1,none⟩) (by simp) _).setCell (p:=⟨w.heap.size+1,2,none⟩) (by simp) _
theorem turn_shape (s:Int) (da:Option Addr) (dl dc:Nat) (ds:List Int) (sa:Option Addr) (sl sc:Nat) (ss:List Int) (a:Option Addr) (len cap:Nat) (ps:List Int) (w:World)
 (hd:Ints w da dl ds) (hs:Ints w sa sl ss) (hp:Ints w a len ps) (hW:wrongE s ds ss=0) (hP:¬ PermOk ps dl) (h6:dl<=6) :
 Calls Tryz.prog 80 #[.agg #[.int .i64 s,.slice da dl dc,.slice sa sl sc],.slice a len cap] w fun e w'=>e=.returned (.tuple #[.agg #[.int .i64 0,.slice none 0 0,.slice none 0 0],.int .i64 6])/\Below w.heap.size w w':=by
 have HD:=hide hd
 have HS:=hide hs
 have HP:=hide hp
 have HW:=hide hW
 have HPO:=hide hP
 clear hd hs hp hW hP
 have hb2:Below w.heap.size w ((w.alloc (.cells #[.int .i64 s,.slice da dl dc,.slice sa sl sc] 79)).alloc (.cells #[.int .i64 0,.slice none 0 0,.slice none 0 0] 79)):=((Below.refl _ _).alloc (Nat.le_refl _) _).alloc (by simp) _
 have HB2:=hide hb2
 clear hb2
 go_enter Tryz.func80,Tryz.ntmps80
 go_wp2_with fail
 refine (wrong_any _ _ _ _ ds _ _ _ ss _ (HD.out.below HB2.out) (HS.out.below HB2.out)).mono ?_
 rintro e w1 ⟨rfl,hb⟩
 rw [HW.out]
 have HB:=hide (Below.on HB2.out hb)
 have hV1:ViewAt w1 w.heap.size (.int .i64 s) (.slice da dl dc) (.slice sa sl sc):=((ViewAt.new w _ _ _).alloc _).below hb
 have hR1:ViewAt w1 (w.heap.size+1) (.int .i64 0) (.slice none 0 0) (.slice none 0 0):=by
  have:=(ViewAt.new (w.alloc (.cells #[.int .i64 s,.slice da dl dc,.slice sa sl sc] 79)) (.int .i64 0) (.slice none 0 0) (.slice none 0 0)).below hb
  simpa using this
 have HR1:=hide hR1
 obtain ⟨⟨v0,v1,v2⟩,_⟩:=hV1.cells
 clear hb hV1 hR1
 go_wp2_with fail
 refine (permutes_any _ _ _ ps dl _ (HP.out.below HB.out) h6).mono ?_
 rintro e w2 ⟨⟨r,rfl,hr⟩,hb⟩
 obtain rfl:r=false:=by
  cases r with
  | true=>exact absurd (hr.1 rfl) HPO.out
  | false=>rfl
 have HBa:=hide (Below.on HB.out hb)
 obtain ⟨⟨r0,r1,r2⟩,rf0,rf1,rf2⟩:=(HR1.out.below hb).cells
 clear hb hr v0 v1 v2
 go_wp2
 refine bodyPost_ret (v:=.tuple #[.agg #[.int .i64 0,.slice none 0 0,.slice none 0 0],.int .i64 6]) (by simp [results,Tryz.results80,go_sem,r0,r1,r2]) rfl ⟨rfl,?_⟩
 exact ((HBa.out.setCell (p:=⟨w.heap.size+1,0,none⟩) (by simp) _).setCell (p:=⟨w.heap.size+1,1,none⟩) (by simp) _).setCell (p:=⟨w.heap.size+1,2,none⟩) (by simp) _
def opEq (k k' x x':Int) (es es' ps ps' lo lo' hi hi' st st':List Int):Bool:=decide (k=k') && (decide (x=x') && (decide (es=es') && (decide (ps=ps') && (decide (lo=lo') && (decide (hi=hi') && decide (st=st'))))))
theorem opEq_no {k k' x x':Int} {es es' ps ps' lo lo' hi hi' st st':List Int} (h:¬ (k=k'/\x=x'/\es=es'/\ps=ps'/\lo=lo'/\hi=hi'/\st=st')):opEq k k' x x' es es' ps ps' lo lo' hi hi' st st'=false:=by
 rw [<-Bool.not_eq_true]
 intro e
 simp only [opEq,Bool.and_eq_true,decide_eq_true_eq] at e
 exact h e
theorem requal_any (k k' x x':Int) (ea:Option Addr) (el ec:Nat) (es:List Int) (pa:Option Addr) (pl pc:Nat) (ps:List Int) (la:Option Addr) (ll lc:Nat) (lo:List Int) (ha:Option Addr) (hl hc:Nat) (hi:List Int) (ta:Option Addr) (tl tc:Nat) (st:List Int) (ea':Option Addr) (el' ec':Nat) (es':List Int) (pa':Option Addr) (pl' pc':Nat) (ps':List Int) (la':Option Addr) (ll' lc':Nat) (lo':List Int) (ha':Option Addr) (hl' hc':Nat) (hi':List Int) (ta':Option Addr) (tl' tc':Nat) (st':List Int) (w:World)
 (he:Ints w ea el es) (hp:Ints w pa pl ps) (hlo:Ints w la ll lo) (hhi:Ints w ha hl hi) (hst:Ints w ta tl st) (he':Ints w ea' el' es') (hp':Ints w pa' pl' ps') (hlo':Ints w la' ll' lo') (hhi':Ints w ha' hl' hi') (hst':Ints w ta' tl' st') :
 Calls Tryz.prog 31 #[.agg #[.int .i64 k,.slice ea el ec,.slice pa pl pc,.slice la ll lc,.slice ha hl hc,.slice ta tl tc,.int .i64 x],.agg #[.int .i64 k',.slice ea' el' ec',.slice pa' pl' pc',.slice la' ll' lc',.slice ha' hl' hc',.slice ta' tl' tc',.int .i64 x']] w fun e w'=>e=.returned (.bool (opEq k k' x x' es es' ps ps' lo lo' hi hi' st st'))/\Below w.heap.size w w':=by
 have HE0:=hide he
 have HE1:=hide he'
 have HP0:=hide hp
 have HP1:=hide hp'
 have HLO0:=hide hlo
 have HLO1:=hide hlo'
 have HHI0:=hide hhi
 have HHI1:=hide hhi'
 have HST0:=hide hst
 have HST1:=hide hst'
 have HB1:=hide ((Below.refl w.heap.size w).alloc (Nat.le_refl _) (.cells #[.int .i64 k,.slice ea el ec,.slice pa pl pc,.slice la ll lc,.slice ha hl hc,.slice ta tl tc,.int .i64 x] 38))
 have HB2:=hide (HB1.out.alloc HB1.out.size (.cells #[.int .i64 k',.slice ea' el' ec',.slice pa' pl' pc',.slice la' ll' lc',.slice ha' hl' hc',.slice ta' tl' tc',.int .i64 x'] 38))
 have HOP:=hide ((OpAt.new w k (.slice ea el ec) (.slice pa pl pc) (.slice la ll lc) (.slice ha hl hc) (.slice ta tl tc) x).alloc (.cells #[.int .i64 k',.slice ea' el' ec',.slice pa' pl' pc',.slice la' ll' lc',.slice ha' hl' hc',.slice ta' tl' tc',.int .i64 x'] 38))
 have hop':=OpAt.new (w.alloc (.cells #[.int .i64 k,.slice ea el ec,.slice pa pl pc,.slice la ll lc,.slice ha hl hc,.slice ta tl tc,.int .i64 x] 38)) k' (.slice ea' el' ec') (.slice pa' pl' pc') (.slice la' ll' lc') (.slice ha' hl' hc') (.slice ta' tl' tc') x'
 simp only [World.size_alloc] at hop'
 have HOP':=hide hop'
 obtain ⟨o0,o1,o2,o3,o4,o5,o6⟩:=HOP.out.cells
 obtain ⟨r0,r1,r2,r3,r4,r5,r6⟩:=HOP'.out.cells
 clear hop' he he' hp hp' hlo hlo' hhi hhi' hst hst'
 by_cases c0:k=k'
 case neg =>
  rw [opEq_no (fun h=>c0 h.1)]
  have g0:(k == k')=false:=by simp [c0]
  clear c0
  go_enter Tryz.func31,Tryz.ntmps31
  go_wp2
  go_ret
  exact ⟨rfl,HB2.out⟩
 subst c0
 have g0:(k == k)=true:=by simp
 by_cases c1:x=x'
 case neg =>
  rw [opEq_no (fun h=>c1 h.2.1)]
  have g1:(x == x')=false:=by simp [c1]
  clear c1
  go_enter Tryz.func31,Tryz.ntmps31
  go_wp2
  go_ret
  exact ⟨rfl,HB2.out⟩
 subst c1
 have g1:(x == x)=true:=by simp
 by_cases c2:es=es'
 case neg =>
  rw [opEq_no (fun h=>c2 h.2.2.1)]
  have Q0:Hid (decide (es=es')=false):=decide_eq_false c2
  clear c2
  go_enter Tryz.func31,Tryz.ntmps31
  go_wp2_with (first
   | (go_at_call_of 14 (Value.slice ea el ec);refine (sameList_any _ _ _ es _ _ _ es' _ (HE0.out.below (HB2.out)) (HE1.out.below (HB2.out))).mono ?_;rintro e w1 ⟨rfl,m1,hw⟩;rw [Q0.out];have hb:Below ((w.alloc (.cells #[.int .i64 k,.slice ea el ec,.slice pa pl pc,.slice la ll lc,.slice ha hl hc,.slice ta tl tc,.int .i64 x] 38)).alloc (.cells #[.int .i64 k,.slice ea' el' ec',.slice pa' pl' pc',.slice la' ll' lc',.slice ha' hl' hc',.slice ta' tl' tc',.int .i64 x] 38)).heap.size ((w.alloc (.cells #[.int .i64 k,.slice ea el ec,.slice pa pl pc,.slice la ll lc,.slice ha hl hc,.slice ta tl tc,.int .i64 x] 38)).alloc (.cells #[.int .i64 k,.slice ea' el' ec',.slice pa' pl' pc',.slice la' ll' lc',.slice ha' hl' hc',.slice ta' tl' tc',.int .i64 x] 38)) w1:=(hw ▸ below_drewN _ m1);have HBX1:=hide (Below.on (HB2.out) hb);have HOPX1:=hide (HOP.out.below hb);have HOPY1:=hide (HOP'.out.below hb);obtain ⟨y10,y11,y12,y13,y14,y15,y16⟩:=HOPX1.out.cells;obtain ⟨z10,z11,z12,z13,z14,z15,z16⟩:=HOPY1.out.cells;clear hw hb))
  go_ret
  exact ⟨rfl,HBX1.out⟩
 have Q0:Hid (decide (es=es')=true):=decide_eq_true c2
 have HC2:=hide c2
 clear c2
 by_cases c3:ps=ps'
 case neg =>
  rw [opEq_no (fun h=>c3 h.2.2.2.1)]
  have Q1:Hid (decide (ps=ps')=false):=decide_eq_false c3
  clear c3
  go_enter Tryz.func31,Tryz.ntmps31
  go_wp2_with (first
   | (go_at_call_of 14 (Value.slice ea el ec);refine (sameList_any _ _ _ es _ _ _ es' _ (HE0.out.below (HB2.out)) (HE1.out.below (HB2.out))).mono ?_;rintro e w1 ⟨rfl,m1,hw⟩;rw [Q0.out];have hb:Below ((w.alloc (.cells #[.int .i64 k,.slice ea el ec,.slice pa pl pc,.slice la ll lc,.slice ha hl hc,.slice ta tl tc,.int .i64 x] 38)).alloc (.cells #[.int .i64 k,.slice ea' el' ec',.slice pa' pl' pc',.slice la' ll' lc',.slice ha' hl' hc',.slice ta' tl' tc',.int .i64 x] 38)).heap.size ((w.alloc (.cells #[.int .i64 k,.slice ea el ec,.slice pa pl pc,.slice la ll lc,.slice ha hl hc,.slice ta tl tc,.int .i64 x] 38)).alloc (.cells #[.int .i64 k,.slice ea' el' ec',.slice pa' pl' pc',.slice la' ll' lc',.slice ha' hl' hc',.slice ta' tl' tc',.int .i64 x] 38)) w1:=(hw ▸ below_drewN _ m1);have HBX1:=hide (Below.on (HB2.out) hb);have HOPX1:=hide (HOP.out.below hb);have HOPY1:=hide (HOP'.out.below hb);obtain ⟨y10,y11,y12,y13,y14,y15,y16⟩:=HOPX1.out.cells;obtain ⟨z10,z11,z12,z13,z14,z15,z16⟩:=HOPY1.out.cells;clear hw hb)
   | (go_at_call_of 14 (Value.slice pa pl pc);refine (sameList_any _ _ _ ps _ _ _ ps' _ (HP0.out.below (HBX1.out)) (HP1.out.below (HBX1.out))).mono ?_;rintro e w2 ⟨rfl,m2,hw⟩;rw [Q1.out];have hb:Below w1.heap.size w1 w2:=(hw ▸ below_drewN _ m2);have HBX2:=hide (Below.on (HBX1.out) hb);have HOPX2:=hide (HOPX1.out.below hb);have HOPY2:=hide (HOPY1.out.below hb);obtain ⟨y20,y21,y22,y23,y24,y25,y26⟩:=HOPX2.out.cells;obtain ⟨z20,z21,z22,z23,z24,z25,z26⟩:=HOPY2.out.cells;clear hw hb))
  go_ret
  exact ⟨rfl,HBX2.out⟩
 have Q1:Hid (decide (ps=ps')=true):=decide_eq_true c3
 have HC3:=hide c3
 clear c3
 by_cases c4:lo=lo'
 case neg =>
  rw [opEq_no (fun h=>c4 h.2.2.2.2.1)]
  have Q2:Hid (decide (lo=lo')=false):=decide_eq_false c4
  clear c4
  go_enter Tryz.func31,Tryz.ntmps31
  go_wp2_with (first
   | (go_at_call_of 14 (Value.slice ea el ec);refine (sameList_any _ _ _ es _ _ _ es' _ (HE0.out.below (HB2.out)) (HE1.out.below (HB2.out))).mono ?_;rintro e w1 ⟨rfl,m1,hw⟩;rw [Q0.out];have hb:Below ((w.alloc (.cells #[.int .i64 k,.slice ea el ec,.slice pa pl pc,.slice la ll lc,.slice ha hl hc,.slice ta tl tc,.int .i64 x] 38)).alloc (.cells #[.int .i64 k,.slice ea' el' ec',.slice pa' pl' pc',.slice la' ll' lc',.slice ha' hl' hc',.slice ta' tl' tc',.int .i64 x] 38)).heap.size ((w.alloc (.cells #[.int .i64 k,.slice ea el ec,.slice pa pl pc,.slice la ll lc,.slice ha hl hc,.slice ta tl tc,.int .i64 x] 38)).alloc (.cells #[.int .i64 k,.slice ea' el' ec',.slice pa' pl' pc',.slice la' ll' lc',.slice ha' hl' hc',.slice ta' tl' tc',.int .i64 x] 38)) w1:=(hw ▸ below_drewN _ m1);have HBX1:=hide (Below.on (HB2.out) hb);have HOPX1:=hide (HOP.out.below hb);have HOPY1:=hide (HOP'.out.below hb);obtain ⟨y10,y11,y12,y13,y14,y15,y16⟩:=HOPX1.out.cells;obtain ⟨z10,z11,z12,z13,z14,z15,z16⟩:=HOPY1.out.cells;clear hw hb)
   | (go_at_call_of 14 (Value.slice pa pl pc);refine (sameList_any _ _ _ ps _ _ _ ps' _ (HP0.out.below (HBX1.out)) (HP1.out.below (HBX1.out))).mono ?_;rintro e w2 ⟨rfl,m2,hw⟩;rw [Q1.out];have hb:Below w1.heap.size w1 w2:=(hw ▸ below_drewN _ m2);have HBX2:=hide (Below.on (HBX1.out) hb);have HOPX2:=hide (HOPX1.out.below hb);have HOPY2:=hide (HOPY1.out.below hb);obtain ⟨y20,y21,y22,y23,y24,y25,y26⟩:=HOPX2.out.cells;obtain ⟨z20,z21,z22,z23,z24,z25,z26⟩:=HOPY2.out.cells;clear hw hb)
   | (go_at_call_of 14 (Value.slice la ll lc);refine (sameList_any _ _ _ lo _ _ _ lo' _ (HLO0.out.below (HBX2.out)) (HLO1.out.below (HBX2.out))).mono ?_;rintro e w3 ⟨rfl,m3,hw⟩;rw [Q2.out];have hb:Below w2.heap.size w2 w3:=(hw ▸ below_drewN _ m3);have HBX3:=hide (Below.on (HBX2.out) hb);have HOPX3:=hide (HOPX2.out.below hb);have HOPY3:=hide (HOPY2.out.below hb);obtain ⟨y30,y31,y32,y33,y34,y35,y36⟩:=HOPX3.out.cells;obtain ⟨z30,z31,z32,z33,z34,z35,z36⟩:=HOPY3.out.cells;clear hw hb))
  go_ret
  exact ⟨rfl,HBX3.out⟩
 have Q2:Hid (decide (lo=lo')=true):=decide_eq_true c4
 have HC4:=hide c4
 clear c4
 by_cases c5:hi=hi'
 case neg =>
  rw [opEq_no (fun h=>c5 h.2.2.2.2.2.1)]
  have Q3:Hid (decide (hi=hi')=false):=decide_eq_false c5
  clear c5
  go_enter Tryz.func31,Tryz.ntmps31
  go_wp2_with (first
   | (go_at_call_of 14 (Value.slice ea el ec);refine (sameList_any _ _ _ es _ _ _ es' _ (HE0.out.below (HB2.out)) (HE1.out.below (HB2.out))).mono ?_;rintro e w1 ⟨rfl,m1,hw⟩;rw [Q0.out];have hb:Below ((w.alloc (.cells #[.int .i64 k,.slice ea el ec,.slice pa pl pc,.slice la ll lc,.slice ha hl hc,.slice ta tl tc,.int .i64 x] 38)).alloc (.cells #[.int .i64 k,.slice ea' el' ec',.slice pa' pl' pc',.slice la' ll' lc',.slice ha' hl' hc',.slice ta' tl' tc',.int .i64 x] 38)).heap.size ((w.alloc (.cells #[.int .i64 k,.slice ea el ec,.slice pa pl pc,.slice la ll lc,.slice ha hl hc,.slice ta tl tc,.int .i64 x] 38)).alloc (.cells #[.int .i64 k,.slice ea' el' ec',.slice pa' pl' pc',.slice la' ll' lc',.slice ha' hl' hc',.slice ta' tl' tc',.int .i64 x] 38)) w1:=(hw ▸ below_drewN _ m1);have HBX1:=hide (Below.on (HB2.out) hb);have HOPX1:=hide (HOP.out.below hb);have HOPY1:=hide (HOP'.out.below hb);obtain ⟨y10,y11,y12,y13,y14,y15,y16⟩:=HOPX1.out.cells;obtain ⟨z10,z11,z12,z13,z14,z15,z16⟩:=HOPY1.out.cells;clear hw hb)
   | (go_at_call_of 14 (Value.slice pa pl pc);refine (sameList_any _ _ _ ps _ _ _ ps' _ (HP0.out.below (HBX1.out)) (HP1.out.below (HBX1.out))).mono ?_;rintro e w2 ⟨rfl,m2,hw⟩;rw [Q1.out];have hb:Below w1.heap.size w1 w2:=(hw ▸ below_drewN _ m2);have HBX2:=hide (Below.on (HBX1.out) hb);have HOPX2:=hide (HOPX1.out.below hb);have HOPY2:=hide (HOPY1.out.below hb);obtain ⟨y20,y21,y22,y23,y24,y25,y26⟩:=HOPX2.out.cells;obtain ⟨z20,z21,z22,z23,z24,z25,z26⟩:=HOPY2.out.cells;clear hw hb)
   | (go_at_call_of 14 (Value.slice la ll lc);refine (sameList_any _ _ _ lo _ _ _ lo' _ (HLO0.out.below (HBX2.out)) (HLO1.out.below (HBX2.out))).mono ?_;rintro e w3 ⟨rfl,m3,hw⟩;rw [Q2.out];have hb:Below w2.heap.size w2 w3:=(hw ▸ below_drewN _ m3);have HBX3:=hide (Below.on (HBX2.out) hb);have HOPX3:=hide (HOPX2.out.below hb);have HOPY3:=hide (HOPY2.out.below hb);obtain ⟨y30,y31,y32,y33,y34,y35,y36⟩:=HOPX3.out.cells;obtain ⟨z30,z31,z32,z33,z34,z35,z36⟩:=HOPY3.out.cells;clear hw hb)
   | (go_at_call_of 14 (Value.slice ha hl hc);refine (sameList_any _ _ _ hi _ _ _ hi' _ (HHI0.out.below (HBX3.out)) (HHI1.out.below (HBX3.out))).mono ?_;rintro e w4 ⟨rfl,m4,hw⟩;rw [Q3.out];have hb:Below w3.heap.size w3 w4:=(hw ▸ below_drewN _ m4);have HBX4:=hide (Below.on (HBX3.out) hb);have HOPX4:=hide (HOPX3.out.below hb);have HOPY4:=hide (HOPY3.out.below hb);obtain ⟨y40,y41,y42,y43,y44,y45,y46⟩:=HOPX4.out.cells;obtain ⟨z40,z41,z42,z43,z44,z45,z46⟩:=HOPY4.out.cells;clear hw hb))
  go_ret
  exact ⟨rfl,HBX4.out⟩
 have Q3:Hid (decide (hi=hi')=true):=decide_eq_true c5
 have HC5:=hide c5
 clear c5
 by_cases c6:st=st'
 case neg =>
  rw [opEq_no (fun h=>c6 h.2.2.2.2.2.2)]
  have Q4:Hid (decide (st=st')=false):=decide_eq_false c6
  clear c6
  go_enter Tryz.func31,Tryz.ntmps31
  go_wp2_with (first
   | (go_at_call_of 14 (Value.slice ea el ec);refine (sameList_any _ _ _ es _ _ _ es' _ (HE0.out.below (HB2.out)) (HE1.out.below (HB2.out))).mono ?_;rintro e w1 ⟨rfl,m1,hw⟩;rw [Q0.out];have hb:Below ((w.alloc (.cells #[.int .i64 k,.slice ea el ec,.slice pa pl pc,.slice la ll lc,.slice ha hl hc,.slice ta tl tc,.int .i64 x] 38)).alloc (.cells #[.int .i64 k,.slice ea' el' ec',.slice pa' pl' pc',.slice la' ll' lc',.slice ha' hl' hc',.slice ta' tl' tc',.int .i64 x] 38)).heap.size ((w.alloc (.cells #[.int .i64 k,.slice ea el ec,.slice pa pl pc,.slice la ll lc,.slice ha hl hc,.slice ta tl tc,.int .i64 x] 38)).alloc (.cells #[.int .i64 k,.slice ea' el' ec',.slice pa' pl' pc',.slice la' ll' lc',.slice ha' hl' hc',.slice ta' tl' tc',.int .i64 x] 38)) w1:=(hw ▸ below_drewN _ m1);have HBX1:=hide (Below.on (HB2.out) hb);have HOPX1:=hide (HOP.out.below hb);have HOPY1:=hide (HOP'.out.below hb);obtain ⟨y10,y11,y12,y13,y14,y15,y16⟩:=HOPX1.out.cells;obtain ⟨z10,z11,z12,z13,z14,z15,z16⟩:=HOPY1.out.cells;clear hw hb)
   | (go_at_call_of 14 (Value.slice pa pl pc);refine (sameList_any _ _ _ ps _ _ _ ps' _ (HP0.out.below (HBX1.out)) (HP1.out.below (HBX1.out))).mono ?_;rintro e w2 ⟨rfl,m2,hw⟩;rw [Q1.out];have hb:Below w1.heap.size w1 w2:=(hw ▸ below_drewN _ m2);have HBX2:=hide (Below.on (HBX1.out) hb);have HOPX2:=hide (HOPX1.out.below hb);have HOPY2:=hide (HOPY1.out.below hb);obtain ⟨y20,y21,y22,y23,y24,y25,y26⟩:=HOPX2.out.cells;obtain ⟨z20,z21,z22,z23,z24,z25,z26⟩:=HOPY2.out.cells;clear hw hb)
   | (go_at_call_of 14 (Value.slice la ll lc);refine (sameList_any _ _ _ lo _ _ _ lo' _ (HLO0.out.below (HBX2.out)) (HLO1.out.below (HBX2.out))).mono ?_;rintro e w3 ⟨rfl,m3,hw⟩;rw [Q2.out];have hb:Below w2.heap.size w2 w3:=(hw ▸ below_drewN _ m3);have HBX3:=hide (Below.on (HBX2.out) hb);have HOPX3:=hide (HOPX2.out.below hb);have HOPY3:=hide (HOPY2.out.below hb);obtain ⟨y30,y31,y32,y33,y34,y35,y36⟩:=HOPX3.out.cells;obtain ⟨z30,z31,z32,z33,z34,z35,z36⟩:=HOPY3.out.cells;clear hw hb)
   | (go_at_call_of 14 (Value.slice ha hl hc);refine (sameList_any _ _ _ hi _ _ _ hi' _ (HHI0.out.below (HBX3.out)) (HHI1.out.below (HBX3.out))).mono ?_;rintro e w4 ⟨rfl,m4,hw⟩;rw [Q3.out];have hb:Below w3.heap.size w3 w4:=(hw ▸ below_drewN _ m4);have HBX4:=hide (Below.on (HBX3.out) hb);have HOPX4:=hide (HOPX3.out.below hb);have HOPY4:=hide (HOPY3.out.below hb);obtain ⟨y40,y41,y42,y43,y44,y45,y46⟩:=HOPX4.out.cells;obtain ⟨z40,z41,z42,z43,z44,z45,z46⟩:=HOPY4.out.cells;clear hw hb)
   | (go_at_call_of 14 (Value.slice ta tl tc);refine (sameList_any _ _ _ st _ _ _ st' _ (HST0.out.below (HBX4.out)) (HST1.out.below (HBX4.out))).mono ?_;rintro e w5 ⟨rfl,m5,hw⟩;rw [Q4.out];have hb:Below w4.heap.size w4 w5:=(hw ▸ below_drewN _ m5);have HBX5:=hide (Below.on (HBX4.out) hb);have HOPX5:=hide (HOPX4.out.below hb);have HOPY5:=hide (HOPY4.out.below hb);obtain ⟨y50,y51,y52,y53,y54,y55,y56⟩:=HOPX5.out.cells;obtain ⟨z50,z51,z52,z53,z54,z55,z56⟩:=HOPY5.out.cells;clear hw hb))
  go_ret
  exact ⟨rfl,HBX5.out⟩
 have Q4:Hid (decide (st=st')=true):=decide_eq_true c6
 have HC6:=hide c6
 clear c6
 have hB:opEq k k x x es es' ps ps' lo lo' hi hi' st st'=true:=by
  unfold opEq
  rw [HC2.out,HC3.out,HC4.out,HC5.out,HC6.out]
  simp
 rw [hB]
 clear hB
 go_enter Tryz.func31,Tryz.ntmps31
 go_wp2_with (first
  | (go_at_call_of 14 (Value.slice ea el ec);refine (sameList_any _ _ _ es _ _ _ es' _ (HE0.out.below (HB2.out)) (HE1.out.below (HB2.out))).mono ?_;rintro e w1 ⟨rfl,m1,hw⟩;rw [Q0.out];have hb:Below ((w.alloc (.cells #[.int .i64 k,.slice ea el ec,.slice pa pl pc,.slice la ll lc,.slice ha hl hc,.slice ta tl tc,.int .i64 x] 38)).alloc (.cells #[.int .i64 k,.slice ea' el' ec',.slice pa' pl' pc',.slice la' ll' lc',.slice ha' hl' hc',.slice ta' tl' tc',.int .i64 x] 38)).heap.size ((w.alloc (.cells #[.int .i64 k,.slice ea el ec,.slice pa pl pc,.slice la ll lc,.slice ha hl hc,.slice ta tl tc,.int .i64 x] 38)).alloc (.cells #[.int .i64 k,.slice ea' el' ec',.slice pa' pl' pc',.slice la' ll' lc',.slice ha' hl' hc',.slice ta' tl' tc',.int .i64 x] 38)) w1:=(hw ▸ below_drewN _ m1);have HBX1:=hide (Below.on (HB2.out) hb);have HOPX1:=hide (HOP.out.below hb);have HOPY1:=hide (HOP'.out.below hb);obtain ⟨y10,y11,y12,y13,y14,y15,y16⟩:=HOPX1.out.cells;obtain ⟨z10,z11,z12,z13,z14,z15,z16⟩:=HOPY1.out.cells;clear hw hb)
  | (go_at_call_of 14 (Value.slice pa pl pc);refine (sameList_any _ _ _ ps _ _ _ ps' _ (HP0.out.below (HBX1.out)) (HP1.out.below (HBX1.out))).mono ?_;rintro e w2 ⟨rfl,m2,hw⟩;rw [Q1.out];have hb:Below w1.heap.size w1 w2:=(hw ▸ below_drewN _ m2);have HBX2:=hide (Below.on (HBX1.out) hb);have HOPX2:=hide (HOPX1.out.below hb);have HOPY2:=hide (HOPY1.out.below hb);obtain ⟨y20,y21,y22,y23,y24,y25,y26⟩:=HOPX2.out.cells;obtain ⟨z20,z21,z22,z23,z24,z25,z26⟩:=HOPY2.out.cells;clear hw hb)
  | (go_at_call_of 14 (Value.slice la ll lc);refine (sameList_any _ _ _ lo _ _ _ lo' _ (HLO0.out.below (HBX2.out)) (HLO1.out.below (HBX2.out))).mono ?_;rintro e w3 ⟨rfl,m3,hw⟩;rw [Q2.out];have hb:Below w2.heap.size w2 w3:=(hw ▸ below_drewN _ m3);have HBX3:=hide (Below.on (HBX2.out) hb);have HOPX3:=hide (HOPX2.out.below hb);have HOPY3:=hide (HOPY2.out.below hb);obtain ⟨y30,y31,y32,y33,y34,y35,y36⟩:=HOPX3.out.cells;obtain ⟨z30,z31,z32,z33,z34,z35,z36⟩:=HOPY3.out.cells;clear hw hb)
  | (go_at_call_of 14 (Value.slice ha hl hc);refine (sameList_any _ _ _ hi _ _ _ hi' _ (HHI0.out.below (HBX3.out)) (HHI1.out.below (HBX3.out))).mono ?_;rintro e w4 ⟨rfl,m4,hw⟩;rw [Q3.out];have hb:Below w3.heap.size w3 w4:=(hw ▸ below_drewN _ m4);have HBX4:=hide (Below.on (HBX3.out) hb);have HOPX4:=hide (HOPX3.out.below hb);have HOPY4:=hide (HOPY3.out.below hb);obtain ⟨y40,y41,y42,y43,y44,y45,y46⟩:=HOPX4.out.cells;obtain ⟨z40,z41,z42,z43,z44,z45,z46⟩:=HOPY4.out.cells;clear hw hb)
  | (go_at_call_of 14 (Value.slice ta tl tc);refine (sameList_any _ _ _ st _ _ _ st' _ (HST0.out.below (HBX4.out)) (HST1.out.below (HBX4.out))).mono ?_;rintro e w5 ⟨rfl,m5,hw⟩;rw [Q4.out];have hb:Below w4.heap.size w4 w5:=(hw ▸ below_drewN _ m5);have HBX5:=hide (Below.on (HBX4.out) hb);have HOPX5:=hide (HOPX4.out.below hb);have HOPY5:=hide (HOPY4.out.below hb);obtain ⟨y50,y51,y52,y53,y54,y55,y56⟩:=HOPX5.out.cells;obtain ⟨z50,z51,z52,z53,z54,z55,z56⟩:=HOPY5.out.cells;clear hw hb))
 go_ret
 exact ⟨rfl,HBX5.out⟩
def risePre (xs:List Int) (n k:Nat):Prop:=∀ i,i<k->0<=xs[i]?.getD 0/\xs[i]?.getD 0<n/\(0<i->xs[i-1]?.getD 0<xs[i]?.getD 0)
def RiseOk (xs:List Int) (n:Nat):Prop:=risePre xs n xs.length
def riseB (xs:List Int) (n:Nat):Bool:=(List.range xs.length).all fun i=>decide (0<=xs[i]?.getD 0) && (decide (xs[i]?.getD 0<n) && (decide (i=0) || decide (xs[i-1]?.getD 0<xs[i]?.getD 0)))
theorem riseB_iff (xs:List Int) (n:Nat):riseB xs n=true<->RiseOk xs n:=by
 unfold riseB RiseOk risePre
 simp only [List.all_eq_true,List.mem_range,Bool.and_eq_true,Bool.or_eq_true,decide_eq_true_eq]
 constructor
 · intro h i hi
   obtain ⟨h1,h2,h3⟩:=h i hi
   exact ⟨h1,h2,fun h0=>h3.resolve_left (by omega)⟩
 · intro h i hi
   obtain ⟨h1,h2,h3⟩:=h i hi
   refine ⟨h1,h2,?_⟩
   by_cases e:i=0
   · exact .inl e
   · exact .inr (h3 (by omega))
theorem risePre_succ {xs:List Int} {n k:Nat} (h:risePre xs n k) (h0:0<=xs[k]?.getD 0) (h1:xs[k]?.getD 0<n) (h2:0<k->xs[k-1]?.getD 0<xs[k]?.getD 0):risePre xs n (k+1):=fun i hi=>by
 by_cases e:i=k
 · subst e;exact ⟨h0,h1,h2⟩
 · exact h i (by omega)
theorem rise_ge {xs:List Int} {n k:Nat} (h:risePre xs n k):∀ i,i<k->(i:Int)<=xs[i]?.getD 0
 | 0,hi=>by have:=(h 0 hi).1;simpa using this
 | i+1,hi=>by
  have h1:=rise_ge h i (by omega)
  have h2:=(h (i+1) hi).2.2 (by omega)
  simp at h2
  omega
theorem rise_len {xs:List Int} {n:Nat} (h:RiseOk xs n):xs.length<=n:=by
 by_cases e:xs.length=0
 · omega
 · have h1:=rise_ge h (xs.length-1) (by omega)
   have h2:=(h (xs.length-1) (by omega)).2.1
   omega
theorem rise_lt {xs:List Int} {n:Nat} (h:RiseOk xs n):∀ i j,i<j->j<xs.length->xs[i]?.getD 0<xs[j]?.getD 0:=by
 intro i j
 induction j with
 | zero=>intro h0;omega
 | succ j ih =>
  intro hij hj
  have h1:=(h (j+1) hj).2.2 (by omega)
  simp only [Nat.add_sub_cancel] at h1
  by_cases e:i=j
  · subst e;exact h1
  · have:=ih (by omega) (by omega);omega
theorem rises_any (a:Option Addr) (len cap:Nat) (xs:List Int) (n:Nat) (w:World) (h:Ints w a len xs) (_h6:n<=6) :
 Calls Tryz.prog 98 #[.slice a len cap,.int .i64 n] w fun e w'=>Tells e (RiseOk xs n)/\w'=w:=by
 have hl:=h.1
 have hm:=h.2.1
 have H:=hide h
 have HL:=hide hl
 clear h hl
 go_enter Tryz.func98,Tryz.ntmps98
 go_wp2
 go_loop [5,10] (fun v i=>∃ k:Nat,k<=len/\i=.int .i64 k/\v=.int .i64 (if k=0 then -1 else xs[k-1]?.getD 0)/\risePre xs n k) (fun _ i=>len-(intOf i).toNat)
 case atStart=>exact ⟨0,Nat.zero_le _,rfl,rfl,fun i hi=>by omega⟩
 case round =>
  obtain ⟨k,hk,rfl,rfl,hp⟩:=hrel
  have HP:=hide hp
  obtain ⟨p,hpe⟩:∃ p:Int,(if k=0 then -1 else xs[k-1]?.getD 0)=p:=⟨_,rfl⟩
  have hpm:-1<=p:=by
   rw [<-hpe]
   by_cases e:k=0
   · rw [if_pos e];omega
   · rw [if_neg e];have:=(hp (k-1) (by omega)).1;omega
  rw [hpe]
  have HPE:=hide hpe
  clear hp hpe
  by_cases hlt:k<len
  · obtain ⟨b,off,rfl,hb,hc⟩:=H.out.at (by omega)
    have hck:=hc k hlt
    clear hc
    by_cases q1:xs[k]?.getD 0<=p
    · go_wp2
      go_ret
      have hno:¬ RiseOk xs n:=fun hr=>by
       have h1:=hr k (by rw [HL.out];exact hlt)
       have h2:=HPE.out
       by_cases e:k=0
       · rw [if_pos e] at h2;omega
       · rw [if_neg e] at h2;have:=h1.2.2 (by omega);omega
      exact ⟨⟨false,rfl,by simp;exact hno⟩,rfl⟩
    by_cases q2:(n:Int)<=xs[k]?.getD 0
    · go_wp2
      go_ret
      have hno:¬ RiseOk xs n:=fun hr=>by have h1:=hr k (by rw [HL.out];exact hlt);omega
      exact ⟨⟨false,rfl,by simp;exact hno⟩,rfl⟩
    go_wp2
    go_round
    case rel =>
     refine ⟨k+1,by omega,by go_num,by simp,risePre_succ HP.out (by omega) (by omega) (fun h0=>?_)⟩
     have h2:=HPE.out
     rw [if_neg (by omega)] at h2
     omega
    case measure=>simp [intOf];omega
  · go_wp2
    go_ret
    obtain rfl:k=len:=by omega
    exact ⟨⟨true,rfl,by simp;unfold RiseOk;rw [HL.out];exact HP.out⟩,rfl⟩
theorem rrising_any (a:Option Addr) (len cap:Nat) (xs:List Int) (n:Nat) (w:World) (h:Ints w a len xs) (_h6:n<=6) :
 Calls Tryz.prog 51 #[.slice a len cap,.int .i64 n] w fun e w'=>Tells e (RiseOk xs n)/\w'=w:=by
 have hl:=h.1
 have hm:=h.2.1
 have H:=hide h
 have HL:=hide hl
 clear h hl
 go_enter Tryz.func51,Tryz.ntmps51
 go_wp2
 go_loop [9] (fun i=>∃ k:Nat,k<=len/\i=.int .i64 k/\risePre xs n k) (fun i=>len-(intOf i).toNat)
 case atStart=>exact ⟨0,Nat.zero_le _,rfl,fun i hi=>by omega⟩
 case round =>
  obtain ⟨k,hk,rfl,hp⟩:=hrel
  have HP:=hide hp
  clear hp
  by_cases hlt:k<len
  · obtain ⟨b,off,rfl,hb,hc⟩:=H.out.at (by omega)
    have hck:=hc k hlt
    by_cases q1:xs[k]?.getD 0<0
    · clear hc
      go_wp2
      go_ret
      have hno:¬ RiseOk xs n:=fun hr=>by have h1:=hr k (by rw [HL.out];exact hlt);omega
      exact ⟨⟨false,rfl,by simp;exact hno⟩,rfl⟩
    by_cases q2:(n:Int)<=xs[k]?.getD 0
    · clear hc
      go_wp2
      go_ret
      have hno:¬ RiseOk xs n:=fun hr=>by have h1:=hr k (by rw [HL.out];exact hlt);omega
      exact ⟨⟨false,rfl,by simp;exact hno⟩,rfl⟩
    by_cases q3:0<k
    · obtain ⟨j,rfl⟩:∃ j,k=j+1:=⟨k-1,by omega⟩
      have hcj:=hc j (by omega)
      clear hc
      by_cases q4:xs[j+1]?.getD 0<=xs[j]?.getD 0
      · go_wp2
        go_ret
        have hno:¬ RiseOk xs n:=fun hr=>by have h1:=(hr (j+1) (by rw [HL.out];exact hlt)).2.2 (by omega);simp at h1;omega
        exact ⟨⟨false,rfl,by simp;exact hno⟩,rfl⟩
      · go_wp2
        go_round
        case rel=>exact ⟨j+1+1,by omega,by go_num,risePre_succ HP.out (by omega) (by omega) (fun _=>by simp;omega)⟩
        case measure=>simp [intOf];omega
    · obtain rfl:k=0:=by omega
      have hck0:w.cell? ⟨b,off,none⟩=some (.int .i64 (xs[0]?.getD 0)):=by simpa using hck
      clear hc hck
      go_wp2
      go_round
      case rel=>exact ⟨1,by omega,by go_num,risePre_succ HP.out (by omega) (by omega) (fun h0=>by omega)⟩
      case measure=>simp [intOf];omega
  · go_wp2
    go_ret
    obtain rfl:k=len:=by omega
    exact ⟨⟨true,rfl,by simp;unfold RiseOk;rw [HL.out];exact HP.out⟩,rfl⟩
theorem rowIs_heap {W W':World} {g:Nat} {t:TypeId} {n:Nat} {f:Nat->Value} (h:W.rowIs g t n f) (e:W'.heap=W.heap):W'.rowIs g t n f:=h.of_block (by rw [e])
theorem enters {f : FuncId} {fn : Func} (hf : Tryz.prog.funcs[f]? = some fn) (hn : (fn.name == "runtime.NumGoroutine") = false) (hb : fn.body.isNone = false) (args : Array Value) (w : World) : (callFunc f args).run Tryz.prog w = .ok (.enter f args) w := by
 simp [callFunc,go_sem,hf]
 rw [if_neg (by intro e;rw [e] at hn;simp at hn),if_neg (by intro e;rw [e] at hb;simp at hb)]
end Go.Proofs.YtakpedjhgdkhkaaGreatDoor.V
