import Derived.Lib.ItoaNum
namespace Go.Proofs.YtakpedjhgdkhkaaGreatDoor.V
set_option maxRecDepth 100000
set_option maxHeartbeats 8000000
def valD (l:List UInt8):Nat:=l.foldl (fun a c=>10*a+(c.toNat-48)) 0
theorem valD_snoc (l:List UInt8) (c:UInt8):valD (l++[c])=10*valD l+(c.toNat-48):=by simp [valD]
theorem valD_dec:∀ u:Nat,valD (Lib.decDigits u)=u:=by
 intro u
 induction u using Nat.strongRecOn with
 | _ u ih =>
  rw [Lib.decDigits]
  by_cases h:u<10
  · rw [dif_pos h]
    simp [valD]
    omega
  · rw [dif_neg h,valD_snoc,ih (u / 10) (by omega)]
    simp
    omega
theorem dec_digit:∀ u:Nat,∀ c∈Lib.decDigits u,48<=c.toNat/\c.toNat<=57:=by
 intro u
 induction u using Nat.strongRecOn with
 | _ u ih =>
  rw [Lib.decDigits]
  by_cases h:u<10
  · rw [dif_pos h]
    intro c hc
    simp at hc
    subst hc
    simp
    omega
  · rw [dif_neg h]
    intro c hc
    rcases List.mem_append.1 hc with hc | hc
    · exact ih (u / 10) (by omega) c hc
    · simp at hc
      subst hc
      simp
      omega
theorem dec_inj {u v:Nat} (h:Lib.decDigits u=Lib.decDigits v):u=v:=by rw [<-valD_dec u,<-valD_dec v,h]
theorem itoa_sign (n:Int):∀ c∈Lib.itoa n,c.toNat≠32/\c.toNat≠59:=by
 intro c hc
 unfold Lib.itoa at hc
 split at hc
 · rcases List.mem_cons.1 hc with rfl | hc
   · decide
   · have:=dec_digit _ c hc;omega
 · have:=dec_digit _ c hc;omega
theorem itoa_inj {m n:Int} (h:Lib.itoa m=Lib.itoa n):m=n:=by
 unfold Lib.itoa at h
 by_cases h1:m<0<;>by_cases h2:n<0
 · rw [if_pos h1,if_pos h2] at h
   have:=dec_inj (List.cons.inj h).2
   omega
 · rw [if_pos h1,if_neg h2] at h
   have:=dec_digit n.toNat 45 (by rw [<-h];simp)
   simp at this
 · rw [if_neg h1,if_pos h2] at h
   have:=dec_digit m.toNat 45 (by rw [h];simp)
   simp at this
 · rw [if_neg h1,if_neg h2] at h
   have:=dec_inj h
   omega
def lsT (l:List Int):List UInt8:=l.flatMap fun n=>32::Lib.itoa n
def llT (ls:List (List Int)):List UInt8:=ls.flatMap fun l=>59::lsT l
theorem num_cut {a b x y:List UInt8} (ha:∀ c∈a,c.toNat≠32/\c.toNat≠59) (hb:∀ c∈b,c.toNat≠32/\c.toNat≠59) (hx:x=[]\/∃ c r,x=c::r/\(c.toNat=32\/c.toNat=59)) (hy:y=[]\/∃ c r,y=c::r/\(c.toNat=32\/c.toNat=59)) (h:a++x=b++y):a=b/\x=y:=by
 induction a generalizing b with
 | nil =>
  cases b with
  | nil=>exact ⟨rfl,by simpa using h⟩
  | cons c b =>
   exfalso
   have hc:=hb c (by simp)
   rcases hx with rfl | ⟨d,r,rfl,hd⟩
   · simp at h
   · simp at h
     obtain ⟨rfl,_⟩:=h
     omega
 | cons c a ih =>
  cases b with
  | nil =>
   exfalso
   have hc:=ha c (by simp)
   rcases hy with rfl | ⟨d,r,rfl,hd⟩
   · simp at h
   · simp at h
     obtain ⟨rfl,_⟩:=h
     omega
  | cons d b =>
   simp at h
   obtain ⟨rfl,h⟩:=h
   obtain ⟨e1,e2⟩:=ih (fun c hc=>ha c (List.mem_cons_of_mem _ hc)) (fun c hc=>hb c (List.mem_cons_of_mem _ hc)) (by simpa using h)
   exact ⟨by rw [e1],e2⟩
theorem llT_head (ls:List (List Int)):llT ls=[]\/∃ c r,llT ls=c::r/\(c.toNat=32\/c.toNat=59):=by
 cases ls with
 | nil=>exact .inl rfl
 | cons l ls=>exact .inr ⟨59,_,rfl,.inr rfl⟩
theorem ls_head (l:List Int) (ls:List (List Int)):lsT l++llT ls=[]\/∃ c r,lsT l++llT ls=c::r/\(c.toNat=32\/c.toNat=59):=by
 cases l with
 | nil=>exact llT_head ls
 | cons n l=>exact .inr ⟨32,_,rfl,.inl rfl⟩
theorem ls_inj:∀ {l m:List Int} {ls ms:List (List Int)},lsT l++llT ls=lsT m++llT ms->l=m/\llT ls=llT ms
 | [],[],_,_,h=>⟨rfl,by simpa [lsT] using h⟩
 | [],n::m,ls,ms,h=>by
  exfalso
  cases ls with
  | nil=>simp [lsT,llT] at h
  | cons l ls=>simp [lsT,llT] at h
 | n::l,[],ls,ms,h=>by
  exfalso
  cases ms with
  | nil=>simp [lsT,llT] at h
  | cons m ms=>simp [lsT,llT] at h
 | n::l,n'::m,ls,ms,h=>by
  have h1:Lib.itoa n++(lsT l++llT ls)=Lib.itoa n'++(lsT m++llT ms):=by
   simpa [lsT,List.append_assoc] using h
  obtain ⟨e1,e2⟩:=num_cut (itoa_sign n) (itoa_sign n') (ls_head l ls) (ls_head m ms) h1
  obtain ⟨e3,e4⟩:=ls_inj e2
  exact ⟨by rw [itoa_inj e1,e3],e4⟩
theorem ll_inj:∀ {ls ms:List (List Int)},llT ls=llT ms->ls=ms
 | [],[],_=>rfl
 | [],m::ms,h=>by simp [llT] at h
 | l::ls,[],h=>by simp [llT] at h
 | l::ls,m::ms,h=>by
  have h1:lsT l++llT ls=lsT m++llT ms:=by simpa [llT] using h
  obtain ⟨e1,e2⟩:=ls_inj h1
  rw [e1,ll_inj e2]
def keyT (v:Int) (ls:List (List Int)):List UInt8:=Lib.itoa v++llT ls
theorem key_inj {v v':Int} {ls ls':List (List Int)} (h:keyT v ls=keyT v' ls'):v=v'/\ls=ls':=by
 obtain ⟨e1,e2⟩:=num_cut (itoa_sign v) (itoa_sign v') (llT_head ls) (llT_head ls') h
 exact ⟨itoa_inj e1,ll_inj e2⟩
end Go.Proofs.YtakpedjhgdkhkaaGreatDoor.V
