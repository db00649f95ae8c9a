import Derived.Test.YtibjhkpgaaapaaaGreatDoorZibj
import Derived.Test.YtibjhkpgaaapaaaGreatDoorZibf
import Derived.Test.YtibjhkpgaaapaaaGreatDoorZibi
import Derived.Test.YtibjhkpgaaapaaaGreatDoorZibg
import Derived.Test.YtibjhkpgaaapaaaGreatDoorZiaw
set_option maxRecDepth 100000
set_option maxHeartbeats 1000000
namespace Go.Proofs.YtibjhkpgaaapaaaGreatDoor
open Go.RowKit Go.Proofs.Sha Tryz
theorem sv_sub (wd:Nat)(ss:List ByteArray):∀ (es ad0 ad:List ByteArray),es.foldl (svStep wd ss) (.go ad0)=.go ad->(∀x ∈ ad,x ∈ ad0\/x ∈ es)/\ad.length<=ad0.length+es.length
 | [],ad0,ad,h=>by
  have:ad0=ad:=by injection h
  subst this
  exact⟨λx hx=>.inl hx,Nat.le_refl _⟩
 | e :: es,ad0,ad,h=>by
  rw[List.foldl_cons] at h
  cases hf:fst2 wd ss ad0 (hashT wd e) with
  | some u =>
   rw[qbQ hf] at h
   split at h
   ·obtain⟨a1,a2⟩:=sv_sub wd ss es ad0 ad h
    exact⟨λx hx=>(a1 x hx).imp id (List.mem_cons_of_mem _),by rw[List.length_cons];omega⟩
   ·rw[qaZ wd ss es _ rfl] at h;cases h
  | none =>
   rw[qbM hf] at h
   split at h
   ·rw[qaZ wd ss es _ rfl] at h;cases h
   ·obtain⟨a1,a2⟩:=sv_sub wd ss es _ ad h
    refine⟨λx hx=>?_,by rw[List.length_append] at a2;rw[List.length_cons];simp at a2;omega⟩
    rcases a1 x hx with q|q
    ·rcases List.mem_append.1 q with q|q
     ·exact .inl q
     ·exact .inr (by rw[List.mem_singleton.1 q];exact List.mem_cons_self ..)
    ·exact .inr (List.mem_cons_of_mem _ q)
structure SmT (xs:List ByteArray) (n s:Nat):Prop where
 len:xs.length<=n
 sz:∀x ∈ xs,x.size<=s
theorem SmT.getD {xs:List ByteArray}{n s:Nat}(h:SmT xs n s)(j:Nat):(xs.getD j ⟨#[]⟩).size<=s:=by
 rw[zL];cases hx:xs[j]? with
 | none=>exact Nat.zero_le _
 | some y=>exact h.sz y (List.mem_of_getElem? hx)
theorem SmT.app {xs ys:List ByteArray}{n m s:Nat}(h:SmT xs n s)(k:SmT ys m s):SmT (xs++ys) (n+m) s :=
 ⟨by rw[List.length_append];have:=h.len;have:=k.len;omega,λx hx=>(List.mem_append.1 hx).elim (h.sz x) (k.sz x)⟩
theorem SArg.grown {a:Option Addr}{ss:List ByteArray}{w w':World}{row:Option Nat}(h:SArg a ss w)(hg:w.grownBy w' row)(hn:∀b off,a=some ⟨b,off,none⟩->0<ss.length->some b ≠ row):SArg a ss w':=by
 refine⟨h.le,h.sz,λhp=>?_⟩;obtain⟨b,off,e,hb,hc⟩:=h.at_ hp;exact⟨b,off,e,Nat.lt_of_lt_of_le hb hg.size,λj hj=>(hg.cell_far ⟨b,off+j,none⟩ hb (hn b off e hp)).trans (hc j hj)⟩
theorem pool_cell {W:World}{g o:Nat}{n:Int}{v:Option Addr}{m c:Nat}{s:ByteArray}(h:W.heap[g]?=some (.cells #[.int .i64 n,.slice v m c] 31))(k:W.cell? ⟨g,o,none⟩=some (.string s)):False:=by
 have:=(ZC h o).symm.trans k
 match o with
 | 0=>simp at this
 | 1=>simp at this
 | o+2=>simp at this
theorem SArg.pool {a:Option Addr}{ss:List ByteArray}{W:World}{g:Nat}{n:Int}{v:Option Addr}{m c:Nat}(hS:SArg a ss W)(h:W.heap[g]?=some (.cells #[.int .i64 n,.slice v m c] 31))(b off:Nat)(e:a=some ⟨b,off,none⟩)(hp:0<ss.length):b ≠ g:=λq=>by
 obtain⟨b',off',e',_,hc⟩:=hS.at_ hp;rw[e] at e';simp only[Option.some.injEq,Addr.mk.injEq,and_true] at e';obtain⟨rfl,rfl⟩:=e';subst q;exact pool_cell h (hc 0 hp)
section
variable {w:World} {gq wd:Nat} {ss roots:List ByteArray} {ps:List PairT} {ap:Option Addr} {cp:Nat} {ar:Option Addr} {cr:Nat} {a4:Option Addr} {c4:Nat} {W W':World}
end
theorem u8_wf {x:Int}(h:(Lit.int .u8 x).wf=true):0<=x/\x<256:=by
 have e1:IntKind.u8.min=0:=rfl;have e2:IntKind.u8.max=255:=rfl;unfold Lit.wf at h;rw[Bool.and_eq_true,decide_eq_true_eq,decide_eq_true_eq,e1,e2] at h;omega
theorem BL.of {a:Option Addr}{xs:List Int}{w:World}(hl:xs.length<=1048576)(hw:∀x ∈ xs,(Lit.int .u8 x).wf=true)(h:0<xs.length->∃b off:Nat,a=some ⟨b,off,none⟩/\b<w.heap.size/\∀j,j<xs.length->w.cell? ⟨b,off+j,none⟩=some (.int .u8 (xs.getD j 0))):∃ys:List Nat,ys.length=xs.length/\Code8 ys/\BL a ys w:=by
 have hg:∀j,(xs.map Int.toNat).getD j 0=(xs.getD j 0).toNat:=λj=>by
  rw[zL,zL,List.getElem?_map];cases xs[j]? <;> rfl
 have hm:∀j,0<=xs.getD j 0/\xs.getD j 0<256:=λj=>by
  by_cases hj:j<xs.length
  ·have:xs.getD j 0 ∈ xs:=by
    rw[zL,List.getElem?_eq_getElem hj];exact List.getElem_mem hj
   exact u8_wf (hw _ this)
  ·rw[zL,List.getElem?_eq_none (by omega)];exact⟨Int.le_refl _,by decide⟩
 refine⟨xs.map Int.toNat,List.length_map _,⟨by rw[List.length_map];exact hl,λj=>?_⟩,⟨λhp=>?_⟩⟩
 ·rw[hg];have:=hm j;omega
 ·rw[List.length_map] at hp;obtain⟨b,off,ha,hlt,hc⟩:=h hp;refine⟨b,off,ha,hlt,λj hj=>?_⟩;rw[List.length_map] at hj;rw[hc j hj,hg,Int.toNat_of_nonneg (hm j).1]
def DecEnc (wd:Nat) (D:Dec):Prop:=∀k v l r,nodeOk k.size v.size l.size r.size (wd:Int)=true->D.ok (encS k v l r wd)=true/\D.k (encS k v l r wd)=k/\D.v (encS k v l r wd)=v/\D.l (encS k v l r wd)=l/\D.r (encS k v l r wd)=r
theorem fst2_more {wd:Nat}{ss ad:List ByteArray}{h u x:ByteArray}(hf:fst2 wd ss ad h=some u):fst2 wd ss (ad++[x]) h=some u:=by
 unfold fst2 at hf⊢;cases hi:firstI (hitB wd (ss++ad) h) (ss.length+ad.length) with
 | none=>rw[hi] at hf;cases hf
 | some i =>
  have hl:=qbB hi;have e:∀j,j<ss.length+ad.length->(ss++(ad++[x])).getD j ⟨#[]⟩=(ss++ad).getD j ⟨#[]⟩:=λj hj=>by
   rw[<-List.append_assoc,zL,zL,List.getElem?_append_left (by rw[List.length_append];exact hj)]
  have h1:firstI (hitB wd (ss++(ad++[x])) h) (ss.length+ad.length)=some i:=by
   rw[<-hi];refine qbh λj hj=>?_;unfold hitB;rw[e j hj]
  have h2:=qcW h1 1;rw[hi] at hf;rw[List.length_append,List.length_singleton,<-Nat.add_assoc,h2,Option.map_some,e i hl];exact hf
theorem fst2_last {wd:Nat}{ss ad:List ByteArray}{e:ByteArray}(hf:fst2 wd ss ad (hashT wd e)=none):fst2 wd ss (ad++[e]) (hashT wd e)=some e:=by
 unfold fst2 at hf⊢;cases hi:firstI (hitB wd (ss++ad) (hashT wd e)) (ss.length+ad.length) with
 | some i=>rw[hi] at hf;cases hf
 | none =>
  have g:(ss++(ad++[e])).getD (ss.length+ad.length) ⟨#[]⟩=e:=by
   rw[<-List.append_assoc,zL,List.getElem?_append_right (by rw[List.length_append];exact Nat.le_refl _),List.length_append,Nat.sub_self];rfl
  have h1:firstI (hitB wd (ss++(ad++[e])) (hashT wd e)) (ss.length+ad.length)=none:=by
   rw[<-hi];refine qbh λj hj=>?_;unfold hitB;rw[<-List.append_assoc,zL,zL,List.getElem?_append_left (by rw[List.length_append];exact hj)]
  have h2:hitB wd (ss++(ad++[e])) (hashT wd e) (ss.length+ad.length)=true:=by
   unfold hitB;rw[g];exact decide_eq_true rfl
  rw[List.length_append,List.length_singleton,<-Nat.add_assoc,qbq h1 h2,Option.map_some,g]
theorem sv_has (wd:Nat)(ss:List ByteArray):∀ (es ad0 ad:List ByteArray),es.foldl (svStep wd ss) (.go ad0)=.go ad->(∀h u,fst2 wd ss ad0 h=some u->fst2 wd ss ad h=some u)/\∀e ∈ es,fst2 wd ss ad (hashT wd e)=some e
 | [],ad0,ad,h=>by
  have:ad0=ad:=by injection h
  subst this
  exact⟨λ_ _ q=>q,λe he=>by cases he⟩
 | e :: es,ad0,ad,h=>by
  rw[List.foldl_cons] at h
  cases hf:fst2 wd ss ad0 (hashT wd e) with
  | some u =>
   rw[qbQ hf] at h
   by_cases hu:u=e
   ·subst hu
    rw[if_pos rfl] at h
    obtain⟨a1,a2⟩:=sv_has wd ss es ad0 ad h
    refine⟨a1,λx hx=>?_⟩
    rcases List.mem_cons.1 hx with rfl|hx
    ·exact a1 _ _ hf
    ·exact a2 x hx
   ·rw[if_neg hu,qaZ wd ss es _ rfl] at h;cases h
  | none =>
   rw[qbM hf] at h
   split at h
   ·rw[qaZ wd ss es _ rfl] at h;cases h
   ·obtain⟨a1,a2⟩:=sv_has wd ss es _ ad h
    refine⟨λq u hq=>a1 q u (fst2_more hq),λx hx=>?_⟩
    rcases List.mem_cons.1 hx with rfl|hx
    ·exact a1 _ _ (fst2_last hf)
    ·exact a2 x hx
theorem fnd_of (D:Dec)(wd:Nat)(hD:DecEnc wd D){ss ad:List ByteArray}{k v l r:ByteArray}(ho:nodeOk k.size v.size l.size r.size (wd:Int)=true)(hf:fst2 wd ss ad (hashT wd (encS k v l r wd))=some (encS k v l r wd)):fndD D wd (ss++ad) (hashT wd (encS k v l r wd))=((k,v,l,r),0):=by
 unfold fst2 at hf;unfold fndD;rw[List.length_append];cases hi:firstI (hitB wd (ss++ad) (hashT wd (encS k v l r wd))) (ss.length+ad.length) with
 | none=>rw[hi] at hf;cases hf
 | some i =>
  rw[hi] at hf;have g:(ss++ad).getD i ⟨#[]⟩=encS k v l r wd:=Option.some.inj hf;obtain⟨q1,q2,q3,q4,q5⟩:=hD k v l r ho;show (if D.ok ((ss++ad).getD i ⟨#[]⟩)=true then ((D.k ((ss++ad).getD i ⟨#[]⟩),D.v ((ss++ad).getD i ⟨#[]⟩),D.l ((ss++ad).getD i ⟨#[]⟩),D.r ((ss++ad).getD i ⟨#[]⟩)),(0:Int)) else ((⟨#[]⟩,⟨#[]⟩,⟨#[]⟩,⟨#[]⟩),3))=_;rw[g,if_pos q1,q2,q3,q4,q5]
def HasT (fnd:ByteArray->FN) (wd:Nat):Tr PairT->Prop
 | .nil=>True
 | .node l x r=>fnd (rootT wd (.node l x r))=((x.1,x.2,rootT wd l,rootT wd r),0)/\HasT fnd wd l/\HasT fnd wd r
theorem nodeOk_of {wd:Nat}(h1:1<=wd)(h2:wd<=32){x:PairT}{l r:Tr PairT}(hk:okKey x.1=true)(hv:okVal x.2=true):nodeOk x.1.size x.2.size (rootT wd l).size (rootT wd r).size (wd:Int)=true:=by
 unfold okKey at hk;unfold okVal at hv;rw[decide_eq_true_eq] at hk hv;have hl:=qax wd h2 l;have hr:=qax wd h2 r;unfold nodeOk hashOk;rw[Bool.and_eq_true,Bool.and_eq_true,decide_eq_true_eq];refine⟨by omega,?_,?_⟩
 ·rw[Bool.or_eq_true,decide_eq_true_eq,decide_eq_true_eq];omega
 ·rw[Bool.or_eq_true,decide_eq_true_eq,decide_eq_true_eq];omega
theorem qdo (D:Dec)(wd:Nat)(hD:DecEnc wd D)(h1:1<=wd)(h2:wd<=32){ss ad:List ByteArray}:∀ (t:Tr PairT),(∀p ∈ t.inord,okKey p.1=true/\okVal p.2=true)->(∀e ∈ encsT wd t,fst2 wd ss ad (hashT wd e)=some e)->HasT (fndD D wd (ss++ad)) wd t
 | .nil,_,_=>trivial
 | .node l x r,hok,he=>by
  have hx:=hok x (by simp[Tr.inord])
  have hm:encT wd (.node l x r) ∈ encsT wd (.node l x r):=by simp[encsT]
  refine⟨?_,qdo D wd hD h1 h2 l (λp hp=>hok p (by simp[Tr.inord,hp])) (λe q=>he e (by simp[encsT,q])),qdo D wd hD h1 h2 r (λp hp=>hok p (by simp[Tr.inord,hp])) (λe q=>he e (by simp[encsT,q]))⟩
  exact fnd_of D wd hD (nodeOk_of h1 h2 hx.1 hx.2) (he _ hm)
theorem goF_tree {fnd:ByteArray->FN}{wd:Nat}(h1:1<=wd)(h2:wd<=32):∀ (t:Tr PairT) (f:Nat) (over under par:ByteArray) (cnt:Nat),t.size<f->t.heap abP->KeysUp (keys t.inord)->(∀p ∈ t.inord,lessB over p.1=true/\(emp under=true\/lessB p.1 under=true)/\(emp par=true\/hgW par p.1=true))->cnt+t.size<=500->HasT fnd wd t->goF fnd hgW ⟨#[]⟩ ⟨#[]⟩ f (rootT wd t) over under par cnt=(0,cnt+t.size,t.inord)
 | .nil,0,_,_,_,_,h,_,_,_,_,_=>by simp[Tr.size] at h
 | .nil,f+1,over,under,par,cnt,_,_,_,_,_,_=>by
  rw[qaQ (by rfl)]
  rfl
 | .node l x r,0,_,_,_,_,h,_,_,_,_,_=>by simp at h
 | .node l x r,f+1,over,under,par,cnt,hf,hh,hk,hp,hc,hs=>by
  obtain⟨q1,q2,q3,q4⟩:=hh
  obtain⟨s1,s2,s3⟩:=hs
  have h':KeysUp (keys l.inord++x.1 :: keys r.inord):=by
   have e:keys (Tr.node l x r).inord=keys l.inord++x.1 :: keys r.inord:=by simp[Tr.inord,keys]
   rw[<-e];exact hk
  obtain⟨k1,⟨k4,k5⟩,k3⟩:=ku_app h'
  have hlx:∀y ∈ l.inord,lessB y.1 x.1=true:=λy hy=>k3 _ (qcs hy) _ (List.mem_cons_self ..)
  have hxr:∀y ∈ r.inord,lessB x.1 y.1=true:=λy hy=>k4 _ (qcs hy)
  have hx:=hp x (by simp[Tr.inord])
  simp only[Tr.size] at hf hc
  have hrs:emp (rootT wd (.node l x r))=false:=by
   unfold emp
   have:(rootT wd (.node l x r)).size=wd:=qaG _ _ h2
   rw[this,decide_eq_false]
   omega
  have hL:=goF_tree h1 h2 l f over x.1 x.1 (cnt+1) (by omega) q3 k1 (λp hpl=>⟨(hp p (by simp[Tr.inord,hpl])).1,.inr (hlx p hpl),.inr (q1 p hpl)⟩) (by omega) s2
  have hR:=goF_tree h1 h2 r f x.1 under x.1 (cnt+1+l.size) (by omega) q4 k5 (λp hpr=>⟨hxr p hpr,(hp p (by simp[Tr.inord,hpr])).2.1,.inr (q2 p hpr)⟩) (by omega) s3
  have hins:(insW over under x.1 && parW hgW par x.1)=true:=by
   unfold insW parW
   rw[hx.1,Bool.true_and,Bool.and_eq_true,Bool.or_eq_true,Bool.or_eq_true]
   exact⟨hx.2.1,hx.2.2⟩
  rw[qbc (by rw[hrs,canW_all];rfl) s1 hins (by omega) hL hR,if_neg (by simp),if_neg (by simp),hasW_all,if_pos rfl]
  simp only[Tr.size,Tr.inord,Prod.mk.injEq,true_and]
  refine⟨by omega,?_⟩
  rw[List.append_assoc]
  rfl
theorem ku_of_map {ps:List PairT}(h:isMapT ps=true):KeysUp (keys ps):=by
 have hm:mapTo ps ps.length=true:=by
  unfold isMapT at h;exact((Bool.and_eq_true _ _).mp h).2
 have key:∀ (l:List PairT),(∀i j,i<j->j<l.length->lessB (l.getD i noPair).1 (l.getD j noPair).1=true)->KeysUp (keys l):=by
  intro l
  induction l with
  | nil=>intro _;trivial
  | cons x xs ih =>
   intro hl;refine⟨λk hk=>?_,ih λi j hij hj=>?_⟩
   ·obtain⟨p,hp,rfl⟩:=List.mem_map.1 hk;obtain⟨i,hi,rfl⟩:=List.getElem_of_mem hp;have:=hl 0 (i+1) (by omega) (by simpa using hi);have e0:(x :: xs).getD 0 noPair=x:=(by simp[List.getD_eq_getElem?_getD]);have e1:(x :: xs).getD (i+1) noPair=xs[i]:=(by simp[List.getD_eq_getElem?_getD,hi]);rw[e0,e1] at this;exact this
   ·have:=hl (i+1) (j+1) (by omega) (by simpa using hj);have e0:∀q,(x :: xs).getD (q+1) noPair=xs.getD q noPair:=λq=>by simp[List.getD_eq_getElem?_getD]
    rw[e0,e0] at this;exact this
 refine key ps λi j hij hj=>?_;have:=mapTo_less ps ps.length hm i j hij hj;unfold lessB;rw[ByteArray.toList_eq,ByteArray.toList_eq];exact this
theorem qdh (n:Int):∃D:Dec,(∀wd:Nat,(wd:Int)=n->DecOk wd D)/\Hid (∀wd:Nat,(wd:Int)=n->1<=wd->wd<=32->DecSaid 198 wd D)/\Hid (∀wd:Nat,(wd:Int)=n->1<=wd->wd<=32->DecSaid 146 wd D)/\∀wd:Nat,(wd:Int)=n->DecEnc wd D:=by
 obtain⟨f,hf⟩:=Classical.axiomOfChoice (dec_ex n);obtain⟨D,hD⟩:∃D:Dec,D=⟨λs=>(f s).1,λs=>(f s).2.1,λs=>(f s).2.2.1,λs=>(f s).2.2.2.1,λs=>(f s).2.2.2.2⟩:=⟨_,rfl⟩;refine⟨D,λwd hwd s hs=>?_,?_,?_,λwd hwd k v l r ho=>?_⟩
 ·have h1:=hf s;rw[hD] at hs;simp only at hs;rw[hs] at h1;have h2:=qaY (decOk_of h1);rw[hD];simp only;unfold okKey okVal;refine⟨decide_eq_true (by omega),decide_eq_true (by omega),by omega,by omega⟩
 ·intro wd hwd _ _ s w' hs;refine(dec_impl s wd w' hs).mono ?_;rintro e w'' ⟨h1,hb⟩;rw[hwd] at h1;rw[hD];exact⟨h1.one (hf s),hb⟩
 ·intro wd hwd _ _ s w' hs;refine(dec_any s wd w' hs).mono ?_;rintro e w'' ⟨h1,hb⟩;rw[hwd] at h1;rw[hD];exact⟨h1.one (hf s),hb⟩
 ·subst hwd;have hE:IsEnc (encS k v l r wd) (wd:Int) k v l r:=⟨ho,by unfold encS;rw[if_pos ho]⟩;rcases hf (encS k v l r wd) with ⟨k',v',l',r',h1,h2⟩|⟨h1,_⟩
  ·obtain⟨rfl,rfl,rfl,rfl⟩:=hE.inj h1;simp only[nodeV,Ending.returned.injEq,Value.tuple.injEq,Array.mk.injEq,List.cons.injEq,Value.agg.injEq,Value.string.injEq,Value.bool.injEq] at h2;obtain⟨⟨e1,e2,e3,e4,_⟩,e5,_⟩:=h2;rw[hD];exact⟨e5,e1,e2,e3,e4⟩
  ·exact absurd hE (h1 k v l r)
theorem firstI_is {p:Nat->Bool}:∀ {k i:Nat},firstI p k=some i->p i=true
 | 0,i,h=>by simp[firstI] at h
 | k+1,i,h=>by
  rw[firstI] at h
  cases hk:firstI p k with
  | some j =>
   rw[hk] at h
   cases h
   exact firstI_is hk
  | none =>
   rw[hk] at h
   simp only at h
   split at h
   ·cases h;assumption
   ·cases h
theorem fst2_is {wd:Nat}{ss ad:List ByteArray}{e u:ByteArray}(h:fst2 wd ss ad (hashT wd e)=some u):hashT wd u=hashT wd e/\u ∈ ss++ad:=by
 unfold fst2 at h;cases hi:firstI (hitB wd (ss++ad) (hashT wd e)) (ss.length+ad.length) with
 | none=>rw[hi] at h;cases h
 | some i =>
  rw[hi] at h;simp only[Option.map_some,Option.some.injEq] at h;have h1:=firstI_is hi;have hl:=qbB hi;unfold hitB at h1;rw[h,decide_eq_true_eq] at h1;refine⟨?_,?_⟩
  ·unfold hashT at h1⊢;simp only at h1;rw[h1]
  ·rw[<-h,zL,List.getElem?_eq_getElem (by rw[List.length_append];omega)];exact List.getElem_mem _
theorem sv_ends (wd:Nat)(ss:List ByteArray):∀ (es ad0:List ByteArray),(∀u e,es.foldl (svStep wd ss) (.go ad0)=.clash u e->u ≠ e/\hashT wd u=hashT wd e/\(u ∈ ss\/u ∈ ad0\/u ∈ es)/\e ∈ es)/\(es.foldl (svStep wd ss) (.go ad0)=.full->20000<=ss.length+ad0.length+es.length)
 | [],ad0=>⟨λu e h=>(by cases h),λh=>(by cases h)⟩
 | e :: es,ad0=>by
  rw[List.foldl_cons]
  cases hf:fst2 wd ss ad0 (hashT wd e) with
  | some u =>
   rw[qbQ hf]
   split
   ·obtain⟨a1,a2⟩:=sv_ends wd ss es ad0
    refine⟨λu' e' h=>?_,λh=>by have:=a2 h;rw[List.length_cons];omega⟩
    obtain⟨b1,b2,b3,b4⟩:=a1 u' e' h
    exact⟨b1,b2,b3.imp id (λq=>q.imp id (List.mem_cons_of_mem _)),List.mem_cons_of_mem _ b4⟩
   ·rename_i hne
    rw[qaZ wd ss es _ rfl]
    refine⟨λu' e' h=>?_,λh=>by cases h⟩
    cases h
    obtain⟨b1,b2⟩:=fst2_is hf
    refine⟨hne,b1,?_,List.mem_cons_self⟩
    rcases List.mem_append.1 b2 with q|q
    ·exact .inl q
    ·exact .inr (.inl q)
  | none =>
   rw[qbM hf]
   split
   ·rename_i hfl
    rw[qaZ wd ss es _ rfl]
    refine⟨λu' e' h=>(by cases h),λ_=>?_⟩
    rw[List.length_cons]
    omega
   ·obtain⟨a1,a2⟩:=sv_ends wd ss es (ad0++[e])
    refine⟨λu' e' h=>?_,λh=>by have:=a2 h;rw[List.length_append] at this;rw[List.length_cons];simp at this;omega⟩
    obtain⟨b1,b2,b3,b4⟩:=a1 u' e' h
    refine⟨b1,b2,?_,List.mem_cons_of_mem _ b4⟩
    rcases b3 with q|q|q
    ·exact .inl q
    ·rcases List.mem_append.1 q with q|q
     ·exact .inr (.inl q)
     ·exact .inr (.inr (by rw[List.mem_singleton.1 q];exact List.mem_cons_self))
    ·exact .inr (.inr (List.mem_cons_of_mem _ q))
theorem qdx {wd n k s:Nat}{ss:List ByteArray}{ps:List PairT}(hs:SmT ss n s)(h10:10000<=s)(hp:ps.length<=k)(hnk:n+k<20000) : (∃ad,svAll wd ss (encsT wd (cutTree ps))=.go ad/\savO wd ss (cutTree ps)=⟨0,(wd:Int),ss++ad,rootT wd (cutTree ps),⟨#[]⟩,⟨#[]⟩⟩/\SmT (ss++ad) (n+k) s) ∨ (∃u e,savO wd ss (cutTree ps)=⟨4,(wd:Int),ss,⟨#[]⟩,txt u,txt e⟩/\u ≠ e/\hashT wd u=hashT wd e/\u.size<=s/\e.size<=s):=by
 have hen:=sv_ends wd ss (encsT wd (cutTree ps)) [];unfold savO;cases hR:svAll wd ss (encsT wd (cutTree ps)) with
 | full =>
  have:=hen.2 hR;rw[qcb,qaW] at this;have h1:=hs.len;simp at this;omega
 | clash u e =>
  obtain⟨b1,b2,b3,b4⟩:=hen.1 u e hR;refine .inr ⟨u,e,rfl,b1,b2,?_,Nat.le_trans (qbj wd _ e b4) h10⟩;rcases b3 with q|q|q
  ·exact hs.sz u q
  ·cases q
  ·exact Nat.le_trans (qbj wd _ u q) h10
 | go ad =>
  obtain⟨a1,a2⟩:=sv_sub wd ss _ [] ad hR;refine .inl ⟨ad,rfl,rfl,hs.app ⟨?_,λx hx=>?_⟩⟩
  ·rw[qcb,qaW] at a2;simp at a2;omega
  ·rcases a1 x hx with q|q
   ·cases q
   ·exact Nat.le_trans (qbj wd _ x q) h10
theorem bounds_det (a:Option Addr)(xs:List Nat)(cap p:Nat)(hX:Code8 xs)(hp:p<=70000) : ∃ (lo hi:ByteArray),(lo.size<=80/\hi.size<=80)/\∀w,BL a xs w->Calls prog 77 #[.slice a xs.length cap,.int .i64 (p:Int)] w λe w'=>e=.returned (.tuple #[.string lo,.string hi,.int .i64 ((p+1+1+1:Nat):Int)])/\Below w.heap.size w w':=by
 obtain⟨x,hx,HT⟩:=qaP a xs cap p 10 hX (by omega) (by omega) (by omega);obtain⟨k1,hk1,HK1⟩:=key_det a xs cap (p+1) hX (by omega);obtain⟨k2,hk2,HK2⟩:=key_det a xs cap (p+1+1) hX (by omega);have hsum:¬ (9223372036854775807<k1.size+(⟨#[0]⟩:ByteArray).size):=by show ¬ _<k1.size+1;omega
 have hsum':¬ (9223372036854775807<k1.size+1):=by omega
 have HL:Hid (∀w',Calls prog 85 #[.string k2,.string k1] w' λe w''=>e=.returned (.bool (lessB k2 k1))/\Below w'.heap.size w' w''):=λw'=>(qbl k2 k1 w' (by omega) (by omega)).mono (by rintro e w2 ⟨rfl,m,rfl⟩;exact⟨rfl,qaV _ _⟩);generalize xs.length=L at HT HK1 HK2⊢;obtain⟨q3,hq3⟩:∃q,p+1+1+1=q:=⟨_,rfl⟩;rw[hq3] at HK2⊢;obtain⟨q2,hq2⟩:∃q,p+1+1=q:=⟨_,rfl⟩;rw[hq2] at HK1 HK2;obtain⟨q1,hq1⟩:∃q,p+1=q:=⟨_,rfl⟩;rw[hq1] at HK1 HT;have hne1:q1 ≠ q2:=by omega
 clear hq1 hq2 hq3;have HTh:Hid _:=HT;have HK1h:Hid _:=HK1;have HK2h:Hid _:=HK2;clear HT HK1 HK2;by_cases h6:x<6
 ·have z1:decide ((x:Int)<6)=true:=(by rw[decide_eq_true_eq];omega);have z6:((x:Int) == 6)=false:=(by simp;omega);have z7:((x:Int) == 7)=false:=(by simp;omega);have z8:((x:Int) == 8)=false:=(by simp;omega);have z9:((x:Int) == 9)=false:=(by simp;omega);cases hl:lessB k2 k1 with
  | true =>
   rw[hl] at HL;clear hl h6 hx;refine⟨k2,k1,⟨by omega,by omega⟩,λw hB=>?_⟩;have H1:=HTh.out w hB;have H2:Hid (∀w',Below w.heap.size w w'->Calls prog 135 #[.slice a L cap,.int .i64 (q1:Int)] w' λe w''=>e=.returned (.tuple #[.string k1,.int .i64 (q2:Int)])/\Below w'.heap.size w' w''):=λw' hb=>HK1h.out w' (hB.below hb);have H3:Hid (∀w',Below w.heap.size w w'->Calls prog 135 #[.slice a L cap,.int .i64 (q2:Int)] w' λe w''=>e=.returned (.tuple #[.string k2,.int .i64 (q3:Int)])/\Below w'.heap.size w' w''):=λw' hb=>HK2h.out w' (hB.below hb);clear hB HTh HK1h HK2h;go_enter func77,ntmps77;go_wp2_with (first|(go_at_call 58;refine H1.mono ?_;rintro e w1 ⟨rfl,hb1⟩)|(go_at_call_of 135 (Value.int .i64 (q1:Int));refine(H2.out _ hb1).mono ?_;rintro e w2 ⟨rfl,hb2'⟩;have hb2:=hb1.trans (hb2'.mono hb1.size))|(go_at_call_of 135 (Value.int .i64 (q2:Int));refine(H3.out _ hb2).mono ?_;rintro e w3 ⟨rfl,hb3'⟩;have hb3:=hb2.trans (hb3'.mono hb2.size))|(go_at_call 85;refine(HL.out _).mono ?_;rintro e w4 ⟨rfl,hb4'⟩;have hb4:=hb3.trans (hb4'.mono hb3.size)));go_ret3;exact⟨rfl,hb4⟩
  | false =>
   rw[hl] at HL;clear hl h6 hx;refine⟨k1,k2,⟨by omega,by omega⟩,λw hB=>?_⟩;have H1:=HTh.out w hB;have H2:Hid (∀w',Below w.heap.size w w'->Calls prog 135 #[.slice a L cap,.int .i64 (q1:Int)] w' λe w''=>e=.returned (.tuple #[.string k1,.int .i64 (q2:Int)])/\Below w'.heap.size w' w''):=λw' hb=>HK1h.out w' (hB.below hb);have H3:Hid (∀w',Below w.heap.size w w'->Calls prog 135 #[.slice a L cap,.int .i64 (q2:Int)] w' λe w''=>e=.returned (.tuple #[.string k2,.int .i64 (q3:Int)])/\Below w'.heap.size w' w''):=λw' hb=>HK2h.out w' (hB.below hb);clear hB HTh HK1h HK2h;go_enter func77,ntmps77;go_wp2_with (first|(go_at_call 58;refine H1.mono ?_;rintro e w1 ⟨rfl,hb1⟩)|(go_at_call_of 135 (Value.int .i64 (q1:Int));refine(H2.out _ hb1).mono ?_;rintro e w2 ⟨rfl,hb2'⟩;have hb2:=hb1.trans (hb2'.mono hb1.size))|(go_at_call_of 135 (Value.int .i64 (q2:Int));refine(H3.out _ hb2).mono ?_;rintro e w3 ⟨rfl,hb3'⟩;have hb3:=hb2.trans (hb3'.mono hb2.size))|(go_at_call 85;refine(HL.out _).mono ?_;rintro e w4 ⟨rfl,hb4'⟩;have hb4:=hb3.trans (hb4'.mono hb3.size)));go_ret3;exact⟨rfl,hb4⟩
 ·clear HL;obtain rfl|rfl|rfl|rfl:x=6\/x=7\/x=8\/x=9:=by omega
  ·refine⟨⟨#[]⟩,k2,⟨Nat.zero_le _,by omega⟩,λw hB=>?_⟩;have H1:=HTh.out w hB;have H2:Hid (∀w',Below w.heap.size w w'->Calls prog 135 #[.slice a L cap,.int .i64 (q1:Int)] w' λe w''=>e=.returned (.tuple #[.string k1,.int .i64 (q2:Int)])/\Below w'.heap.size w' w''):=λw' hb=>HK1h.out w' (hB.below hb);have H3:Hid (∀w',Below w.heap.size w w'->Calls prog 135 #[.slice a L cap,.int .i64 (q2:Int)] w' λe w''=>e=.returned (.tuple #[.string k2,.int .i64 (q3:Int)])/\Below w'.heap.size w' w''):=λw' hb=>HK2h.out w' (hB.below hb);clear hB HTh HK1h HK2h;go_enter func77,ntmps77;go_wp2_with (first|(go_at_call 58;refine H1.mono ?_;rintro e w1 ⟨rfl,hb1⟩)|(go_at_call_of 135 (Value.int .i64 (q1:Int));refine(H2.out _ hb1).mono ?_;rintro e w2 ⟨rfl,hb2'⟩;have hb2:=hb1.trans (hb2'.mono hb1.size))|(go_at_call_of 135 (Value.int .i64 (q2:Int));refine(H3.out _ hb2).mono ?_;rintro e w3 ⟨rfl,hb3'⟩;have hb3:=hb2.trans (hb3'.mono hb2.size))|(go_at_call 85;refine(HL.out _).mono ?_;rintro e w4 ⟨rfl,hb4'⟩;have hb4:=hb3.trans (hb4'.mono hb3.size)));go_ret3;exact⟨rfl,hb3⟩
  ·refine⟨k1,⟨#[]⟩,⟨by omega,Nat.zero_le _⟩,λw hB=>?_⟩;have H1:=HTh.out w hB;have H2:Hid (∀w',Below w.heap.size w w'->Calls prog 135 #[.slice a L cap,.int .i64 (q1:Int)] w' λe w''=>e=.returned (.tuple #[.string k1,.int .i64 (q2:Int)])/\Below w'.heap.size w' w''):=λw' hb=>HK1h.out w' (hB.below hb);have H3:Hid (∀w',Below w.heap.size w w'->Calls prog 135 #[.slice a L cap,.int .i64 (q2:Int)] w' λe w''=>e=.returned (.tuple #[.string k2,.int .i64 (q3:Int)])/\Below w'.heap.size w' w''):=λw' hb=>HK2h.out w' (hB.below hb);clear hB HTh HK1h HK2h;go_enter func77,ntmps77;go_wp2_with (first|(go_at_call 58;refine H1.mono ?_;rintro e w1 ⟨rfl,hb1⟩)|(go_at_call_of 135 (Value.int .i64 (q1:Int));refine(H2.out _ hb1).mono ?_;rintro e w2 ⟨rfl,hb2'⟩;have hb2:=hb1.trans (hb2'.mono hb1.size))|(go_at_call_of 135 (Value.int .i64 (q2:Int));refine(H3.out _ hb2).mono ?_;rintro e w3 ⟨rfl,hb3'⟩;have hb3:=hb2.trans (hb3'.mono hb2.size))|(go_at_call 85;refine(HL.out _).mono ?_;rintro e w4 ⟨rfl,hb4'⟩;have hb4:=hb3.trans (hb4'.mono hb3.size)));go_ret3;exact⟨rfl,hb3⟩
  ·refine⟨k1,k1++⟨#[0]⟩,⟨by omega,by rw[ByteArray.size_append];show k1.size+1<=_;omega⟩,λw hB=>?_⟩;have H1:=HTh.out w hB;have H2:Hid (∀w',Below w.heap.size w w'->Calls prog 135 #[.slice a L cap,.int .i64 (q1:Int)] w' λe w''=>e=.returned (.tuple #[.string k1,.int .i64 (q2:Int)])/\Below w'.heap.size w' w''):=λw' hb=>HK1h.out w' (hB.below hb);have H3:Hid (∀w',Below w.heap.size w w'->Calls prog 135 #[.slice a L cap,.int .i64 (q2:Int)] w' λe w''=>e=.returned (.tuple #[.string k2,.int .i64 (q3:Int)])/\Below w'.heap.size w' w''):=λw' hb=>HK2h.out w' (hB.below hb);clear hB HTh HK1h HK2h;go_enter func77,ntmps77;go_wp2_with (first|(go_at_call 58;refine H1.mono ?_;rintro e w1 ⟨rfl,hb1⟩)|(go_at_call_of 135 (Value.int .i64 (q1:Int));refine(H2.out _ hb1).mono ?_;rintro e w2 ⟨rfl,hb2'⟩;have hb2:=hb1.trans (hb2'.mono hb1.size))|(go_at_call_of 135 (Value.int .i64 (q2:Int));refine(H3.out _ hb2).mono ?_;rintro e w3 ⟨rfl,hb3'⟩;have hb3:=hb2.trans (hb3'.mono hb2.size))|(go_at_call 85;refine(HL.out _).mono ?_;rintro e w4 ⟨rfl,hb4'⟩;have hb4:=hb3.trans (hb4'.mono hb3.size)));go_ret3;exact⟨rfl,hb3⟩
  ·refine⟨⟨#[]⟩,⟨#[]⟩,⟨Nat.zero_le _,Nat.zero_le _⟩,λw hB=>?_⟩;have H1:=HTh.out w hB;have H2:Hid (∀w',Below w.heap.size w w'->Calls prog 135 #[.slice a L cap,.int .i64 (q1:Int)] w' λe w''=>e=.returned (.tuple #[.string k1,.int .i64 (q2:Int)])/\Below w'.heap.size w' w''):=λw' hb=>HK1h.out w' (hB.below hb);have H3:Hid (∀w',Below w.heap.size w w'->Calls prog 135 #[.slice a L cap,.int .i64 (q2:Int)] w' λe w''=>e=.returned (.tuple #[.string k2,.int .i64 (q3:Int)])/\Below w'.heap.size w' w''):=λw' hb=>HK2h.out w' (hB.below hb);clear hB HTh HK1h HK2h;go_enter func77,ntmps77;go_wp2_with (first|(go_at_call 58;refine H1.mono ?_;rintro e w1 ⟨rfl,hb1⟩)|(go_at_call_of 135 (Value.int .i64 (q1:Int));refine(H2.out _ hb1).mono ?_;rintro e w2 ⟨rfl,hb2'⟩;have hb2:=hb1.trans (hb2'.mono hb1.size))|(go_at_call_of 135 (Value.int .i64 (q2:Int));refine(H3.out _ hb2).mono ?_;rintro e w3 ⟨rfl,hb3'⟩;have hb3:=hb2.trans (hb3'.mono hb2.size))|(go_at_call 85;refine(HL.out _).mono ?_;rintro e w4 ⟨rfl,hb4'⟩;have hb4:=hb3.trans (hb4'.mono hb3.size)));go_ret3;exact⟨rfl,hb3⟩
theorem OwnT.sarg {w W:World}{xs:List ByteArray}{a:Option Addr}{c:Nat}(h:OwnT w xs a xs.length c W){n s:Nat}(hs:SmT xs n s)(hn:n<=1048576)(hz:s<=1048576):SArg a xs W :=
 qbv h.own (Nat.le_trans hs.len hn) (λj=>Nat.le_trans (hs.getD j) hz)
section
variable {fz:Nat->Option Obj} {ex:Option Nat} {w0:World} {gp g wd:Nat} {ss ys roots:List ByteArray} {ap:Option Addr} {cp:Nat} {ao:Option Addr} {co:Nat} {ar:Option Addr} {cr:Nat} {W W':World}
end
theorem saved_goF (D:Dec)(wd:Nat)(hD:DecEnc wd D)(h1:1<=wd)(h2:wd<=32){ss ad:List ByteArray}{ps:List PairT}(hm:isMapT ps=true)(hs:svAll wd ss (encsT wd (cutTree ps))=.go ad) : goF (fndD D wd (ss++ad)) hgW ⟨#[]⟩ ⟨#[]⟩ 501 (rootT wd (cutTree ps)) ⟨#[]⟩ ⟨#[]⟩ ⟨#[]⟩ 0=(0,ps.length,ps):=by
 have hku:=ku_of_map hm;have hok:=qcg ps hm;have hin:=qaE ps;have hsz:=qaW ps;have hps:ps.length<=500:=by
  unfold isMapT at hm;exact of_decide_eq_true ((Bool.and_eq_true _ _).mp hm).1
 have hH:=qdo D wd hD h1 h2 (ss:=ss) (ad:=ad) (cutTree ps) (by rw[hin];exact hok) (sv_has wd ss _ [] ad hs).2;have hg:=goF_tree h1 h2 (cutTree ps) 501 ⟨#[]⟩ ⟨#[]⟩ ⟨#[]⟩ 0 (by omega) (qbY ps (ku_apart hku)) (by rw[hin];exact hku) (by
  rw[hin]
  intro p hp
  have hk:=(hok p hp).1
  refine⟨nil_less ?_,.inl rfl,.inl rfl⟩
  unfold okKey at hk
  rw[decide_eq_true_eq] at hk
  unfold emp
  exact decide_eq_false (by omega)) (by omega) hH
 rw[hg,hin,hsz,Nat.zero_add]
theorem proof_small (D:Dec)(wd:Nat)(hdo:DecOk wd D)(hD:DecEnc wd D)(h1:1<=wd)(h2:wd<=32){ss ad:List ByteArray}{ps:List PairT}(hm:isMapT ps=true)(hs:svAll wd ss (encsT wd (cutTree ps))=.go ad)(lo hi:ByteArray)(m:Nat) : (proveM (fndD D wd (ss++ad)) (wd:Int) m (rootT wd (cutTree ps)) lo hi).1.size<=2400*ps.length+40:=by
 have hg:=saved_goF D wd hD h1 h2 hm hs;have hfo:=qdz D wd (ss++ad) hdo;obtain⟨a1,a2,_⟩:=qcP hfo lo hi 501 (rootT wd (cutTree ps)) ⟨#[]⟩ ⟨#[]⟩ ⟨#[]⟩ 0 0 (Nat.le_refl _) (Nat.zero_le _) (by rw[hg]);rw[hg] at a2;have hl:=qdw hfo h2 501 (rootT wd (cutTree ps)) ⟨#[]⟩ ⟨#[]⟩ ⟨#[]⟩ 0 (Nat.zero_le _) (qax wd h2 (cutTree ps)) a1;unfold proveM
 split
 ·unfold proveX;rw[Int.toNat_natCast]
  split
  ·try rw[if_pos a1]
   show (prL _ _ _ _ _ _ _).toArray.size<=_;rw[List.size_toArray];simp only at a2;omega
  ·exact Nat.zero_le _
 ·exact Nat.zero_le _
theorem qdq (wd:Nat)(h1:1<=wd)(h2:wd<=32)(ps:List PairT)(hp:ps.length<=100) : SmT (saveO (wd:Int) [] ps).xs 100 10000/\(saveO (wd:Int) [] ps).root.size<=32 ∧ ∀D:Dec,(∀w2:Nat,(w2:Int)=(saveO (wd:Int) [] ps).n->DecOk w2 D)->(∀w2:Nat,(w2:Int)=(saveO (wd:Int) [] ps).n->DecEnc w2 D)->∀lo hi, (proveM (fndD D (saveO (wd:Int) [] ps).n.toNat (saveO (wd:Int) [] ps).xs) (saveO (wd:Int) [] ps).n (saveO (wd:Int) [] ps).xs.length (saveO (wd:Int) [] ps).root lo hi).1.size<=2400*ps.length+40:=by
 have hnil:SmT ([]:List ByteArray) 0 10000:=⟨Nat.le_refl _,λx hx=>by cases hx⟩;have hnil2:SmT ([]:List ByteArray) 100 10000:=⟨Nat.zero_le _,λx hx=>by cases hx⟩;unfold saveO;by_cases hq:(poolOk (wd:Int) ([]:List ByteArray).length && isMapT ps)=true
 ·rw[if_pos hq,Int.toNat_natCast];have hm:=((Bool.and_eq_true _ _).mp hq).2;rcases qdx (wd:=wd) (ss:=[]) (ps:=ps) (n:=0) (k:=100) (s:=10000) hnil (Nat.le_refl _) hp (by omega) with ⟨ad,e1,e2,e3⟩|⟨u,e,e1,_⟩
  ·rw[e2];refine⟨⟨Nat.le_trans e3.len (by omega),e3.sz⟩,?_,λD hdo hD lo hi=>?_⟩
   ·have:=qax wd h2 (cutTree ps);show (rootT wd (cutTree ps)).size<=32;omega
   ·show (proveM (fndD D ((wd:Int).toNat) ([]++ad)) (wd:Int) ([]++ad).length (rootT wd (cutTree ps)) lo hi).1.size<=_;rw[Int.toNat_natCast];exact proof_small D wd (hdo wd rfl) (hD wd rfl) h1 h2 hm e1 lo hi _
  ·rw[e1];refine⟨hnil2,Nat.zero_le _,λD _ _ lo hi=>?_⟩;show (proveM (fndD D ((wd:Int).toNat) []) (wd:Int) 0 ⟨#[]⟩ lo hi).1.size<=_;unfold proveM
   split
   ·unfold proveX
    split
    ·try rw[if_pos (by rw[qaQ (by rfl)])]
     rw[prL_e (by rfl)];show (1:Nat)<=_;omega
    ·exact Nat.zero_le _
   ·exact Nat.zero_le _
 ·rw[if_neg hq];refine⟨hnil2,Nat.zero_le _,λD _ _ lo hi=>?_⟩;show (proveM (fndD D ((0:Int).toNat) []) 0 0 ⟨#[]⟩ lo hi).1.size<=_;unfold proveM;rw[if_neg (by decide)];exact Nat.zero_le _
end Go.Proofs.YtibjhkpgaaapaaaGreatDoor
