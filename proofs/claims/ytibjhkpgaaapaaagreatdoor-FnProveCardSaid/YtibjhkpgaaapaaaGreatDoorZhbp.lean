import Derived.Test.YtibjhkpgaaapaaaGreatDoorZhbk
import Derived.Test.YtibjhkpgaaapaaaGreatDoorZhbo
import Derived.Test.YtibjhkpgaaapaaaGreatDoorZhbj
namespace Go.Proofs.YtibjhkpgaaapaaaGreatDoor
open Go.RowKit Go.Proofs.Sha Tryz
def DecInv (wd:Nat) (D:Dec):Prop:=∀ s,D.ok s=true -> s=encS (D.k s) (D.v s) (D.l s) (D.r s) wd
theorem dec_five (n:Int):∃ D:Dec,(∀ wd:Nat,(wd:Int)=n -> DecOk wd D) /\ Hid (∀ wd:Nat,(wd:Int)=n -> 1 <= wd -> wd <= 32 -> DecSaid 198 wd D) /\ Hid (∀ wd:Nat,(wd:Int)=n -> 1 <= wd -> wd <= 32 -> DecSaid 146 wd D) /\ (∀ wd:Nat,(wd:Int)=n -> DecEnc wd D) /\ ∀ wd:Nat,(wd:Int)=n -> DecInv wd D:=by
 obtain ⟨f,hf⟩:=Classical.axiomOfChoice (dec_ex n)
 obtain ⟨D,hD⟩:∃ D:Dec,D=⟨fun s=>(f s).1,fun s=>(f s).2.1,fun s=>(f s).2.2.1,fun s=>(f s).2.2.2.1,fun s=>(f s).2.2.2.2⟩:=⟨_,rfl⟩
 refine ⟨D,fun wd hwd s hs=>?_,?_,?_,fun wd hwd k v l r ho=>?_,fun wd hwd s hs=>?_⟩
 · have h1:=hf s
   rw [hD] at hs
   simp only at hs
   rw [hs] at h1
   have h2:=nodeOk_out (decOk_of h1)
   rw [hD]
   simp only
   unfold okKey okVal
   refine ⟨decide_eq_true (by omega),decide_eq_true (by omega),by omega,by omega⟩
 · intro wd hwd _ _ s w' hs
   refine (dec_impl s wd w' hs).mono ?_
   rintro e w'' ⟨h1,hb⟩
   rw [hwd] at h1
   rw [hD]
   exact ⟨h1.one (hf s),hb⟩
 · intro wd hwd _ _ s w' hs
   refine (dec_any s wd w' hs).mono ?_
   rintro e w'' ⟨h1,hb⟩
   rw [hwd] at h1
   rw [hD]
   exact ⟨h1.one (hf s),hb⟩
 · subst hwd
   have hE:IsEnc (encS k v l r wd) (wd:Int) k v l r:=⟨ho,by unfold encS;rw [if_pos ho]⟩
   rcases hf (encS k v l r wd) with ⟨k',v',l',r',h1,h2⟩ | ⟨h1,_⟩
   · obtain ⟨rfl,rfl,rfl,rfl⟩:=hE.inj h1
     simp only [nodeV,Ending.returned.injEq,Value.tuple.injEq,Array.mk.injEq,List.cons.injEq,Value.agg.injEq,Value.string.injEq,Value.bool.injEq] at h2
     obtain ⟨⟨e1,e2,e3,e4,_⟩,e5,_⟩:=h2
     rw [hD]
     exact ⟨e5,e1,e2,e3,e4⟩
   · exact absurd hE (h1 k v l r)
 · subst hwd
   have h0:=hf s
   rw [hD] at hs
   simp only at hs
   rw [hs] at h0
   rcases h0 with ⟨k',v',l',r',hE,h2⟩ | ⟨_,h2⟩
   · simp only [nodeV,Ending.returned.injEq,Value.tuple.injEq,Array.mk.injEq,List.cons.injEq,Value.agg.injEq,Value.string.injEq] at h2
     obtain ⟨⟨e1,e2,e3,e4,_⟩,_⟩:=h2
     rw [hD]
     simp only
     rw [e1,e2,e3,e4]
     unfold encS
     rw [if_pos hE.1]
     exact hE.2
   · simp [nodeV] at h2
def FndInv (wd:Nat) (fnd:ByteArray -> FN):Prop:=∀ h,(fnd h).2=0 -> digB (encS (fnd h).1.1 (fnd h).1.2.1 (fnd h).1.2.2.1 (fnd h).1.2.2.2 wd) wd=h
theorem fndD_inv (D:Dec) (wd:Nat) (ss:List ByteArray) (hD:DecInv wd D):FndInv wd (fndD D wd ss):=by
 intro h hz
 unfold fndD at hz ⊢
 cases hi:firstI (hitB wd ss h) ss.length with
 | none=>rw [hi] at hz;exact absurd hz (by show ¬ (2:Int)=0;decide)
 | some i =>
  rw [hi] at hz
  have hh:=firstI_is hi
  unfold hitB at hh
  rw [decide_eq_true_eq] at hh
  by_cases hk:D.ok (ss.getD i ⟨#[]⟩)=true
  · have e:foundR D ss (some i)=((D.k (ss.getD i ⟨#[]⟩),D.v (ss.getD i ⟨#[]⟩),D.l (ss.getD i ⟨#[]⟩),D.r (ss.getD i ⟨#[]⟩)),0):=by
     show (if D.ok (ss.getD i ⟨#[]⟩)=true then _ else _)=_
     rw [if_pos hk]
    rw [e]
    simp only
    rw [<- hD _ hk]
    unfold digB
    rw [hh]
  · have e:foundR D ss (some i)=((⟨#[]⟩,⟨#[]⟩,⟨#[]⟩,⟨#[]⟩),3):=by
     show (if D.ok (ss.getD i ⟨#[]⟩)=true then _ else _)=_
     rw [if_neg hk]
    rw [e] at hz
    exact absurd hz (by show ¬ (3:Int)=0;decide)
theorem goF_inv {fnd:ByteArray -> FN} {lo hi:ByteArray} {f:Nat} {hash over under par:ByteArray} {cnt:Nat} (hs:(emp hash || !canW over under lo hi)=false) (h:(goF fnd hgW lo hi (f + 1) hash over under par cnt).1=0) :
 (fnd hash).2=0 /\ (insW over under (fnd hash).1.1 && parW hgW par (fnd hash).1.1)=true /\ cnt + 1 <= 500 /\ (goF fnd hgW lo hi f (fnd hash).1.2.2.1 over (fnd hash).1.1 (fnd hash).1.1 (cnt + 1)).1=0 ∧
 (goF fnd hgW lo hi f (fnd hash).1.2.2.2 (fnd hash).1.1 under (fnd hash).1.1 (goF fnd hgW lo hi f (fnd hash).1.2.2.1 over (fnd hash).1.1 (fnd hash).1.1 (cnt + 1)).2.1).1=0 ∧
 goF fnd hgW lo hi (f + 1) hash over under par cnt=(0,(goF fnd hgW lo hi f (fnd hash).1.2.2.2 (fnd hash).1.1 under (fnd hash).1.1 (goF fnd hgW lo hi f (fnd hash).1.2.2.1 over (fnd hash).1.1 (fnd hash).1.1 (cnt + 1)).2.1).2.1,
  (goF fnd hgW lo hi f (fnd hash).1.2.2.1 over (fnd hash).1.1 (fnd hash).1.1 (cnt + 1)).2.2 ++ (if hasW lo hi (fnd hash).1.1=true then [((fnd hash).1.1,(fnd hash).1.2.1)] else []) ++
  (goF fnd hgW lo hi f (fnd hash).1.2.2.2 (fnd hash).1.1 under (fnd hash).1.1 (goF fnd hgW lo hi f (fnd hash).1.2.2.1 over (fnd hash).1.1 (fnd hash).1.1 (cnt + 1)).2.1).2.2):=by
 have hC:codeF fnd hash over under par (cnt + 1)=0:=by
  by_cases hC:codeF fnd hash over under par (cnt + 1)=0
  · exact hC
  · rw [goF_code hs hC] at h;exact absurd h hC
 obtain ⟨hz,hfit,hc5⟩:=codeF_zero hC
 have hfe:fnd hash=(((fnd hash).1.1,(fnd hash).1.2.1,(fnd hash).1.2.2.1,(fnd hash).1.2.2.2),0):=by rw [<- hz]
 have hn:=goF_node (f:=f) hs hfe hfit hc5 rfl rfl
 rw [hn] at h
 by_cases hL:(goF fnd hgW lo hi f (fnd hash).1.2.2.1 over (fnd hash).1.1 (fnd hash).1.1 (cnt + 1)).1=0
 · rw [if_neg (fun q=>q hL)] at h hn
   by_cases hR:(goF fnd hgW lo hi f (fnd hash).1.2.2.2 (fnd hash).1.1 under (fnd hash).1.1 (goF fnd hgW lo hi f (fnd hash).1.2.2.1 over (fnd hash).1.1 (fnd hash).1.1 (cnt + 1)).2.1).1=0
   · rw [if_neg (fun q=>q hR)] at hn
     exact ⟨hz,hfit,hc5,hL,hR,hn⟩
   · rw [if_pos hR] at h
     exact absurd h hR
 · rw [if_pos hL] at h
   exact absurd h hL
theorem hgW_tra {a b c:ByteArray} (h1:hgW a b=true) (h2:hgW b c=true):hgW a c=true:=rk_tra h1 h2
theorem key_emp {k:ByteArray} (h:okKey k=true):emp k=false:=by
 unfold okKey at h
 rw [decide_eq_true_eq] at h
 unfold emp
 exact decide_eq_false (by omega)
theorem load_tree {fnd:ByteArray -> FN} {wd:Nat} (hfo:FndOk wd fnd) (hfi:FndInv wd fnd):∀ (f:Nat) (hash over under par:ByteArray) (cnt:Nat),(goF fnd hgW ⟨#[]⟩ ⟨#[]⟩ f hash over under par cnt).1=0 →
 ∃ t:Tr PairT,HasT fnd wd t /\ rootT wd t=hash /\ t.inord=(goF fnd hgW ⟨#[]⟩ ⟨#[]⟩ f hash over under par cnt).2.2 /\ t.heap abP /\ (∀ p ∈ t.inord,okKey p.1=true /\ okVal p.2=true /\ (emp par=true \/ hgW par p.1=true)) /\ (goF fnd hgW ⟨#[]⟩ ⟨#[]⟩ f hash over under par cnt).2.1=cnt + t.size
 | 0,_,_,_,_,_,h=>by rw [goF] at h;exact absurd h (by decide)
 | f + 1,hash,over,under,par,cnt,h=>by
  cases he:emp hash with
  | true =>
   rw [goF_skip (by rw [he];rfl)]
   have h0:hash=⟨#[]⟩:=by
    unfold emp at he
    rw [decide_eq_true_eq] at he
    exact ByteArray.ext (Array.eq_empty_of_size_eq_zero he)
   exact ⟨.nil,trivial,h0.symm,rfl,trivial,fun p hp=>(by cases hp),rfl⟩
  | false =>
   have hs:(emp hash || !canW over under ⟨#[]⟩ ⟨#[]⟩)=false:=by rw [he,canW_all];rfl
   obtain ⟨hz,hfit,hc5,hL,hR,hn⟩:=goF_inv hs h
   have hx:=hfo.node hash hz
   have hd:=hfi hash hz
   have hfe:fnd hash=(((fnd hash).1.1,(fnd hash).1.2.1,(fnd hash).1.2.2.1,(fnd hash).1.2.2.2),0):=by rw [<- hz]
   obtain ⟨tl,l1,l2,l3,l4,l5,l6⟩:=load_tree hfo hfi f _ _ _ _ _ hL
   obtain ⟨tr,r1,r2,r3,r4,r5,r6⟩:=load_tree hfo hfi f _ _ _ _ _ hR
   rw [hn]
   have hpar:emp par=true \/ hgW par (fnd hash).1.1=true:=by
    have:=((Bool.and_eq_true _ _).mp hfit).2
    unfold parW at this
    exact (Bool.or_eq_true _ _).mp this
   have hke:=key_emp hx.1
   have cl:∀ p ∈ tl.inord,hgW (fnd hash).1.1 p.1=true:=fun p hp=>by
    rcases (l5 p hp).2.2 with q | q
    · rw [hke] at q;cases q
    · exact q
   have cr:∀ p ∈ tr.inord,hgW (fnd hash).1.1 p.1=true:=fun p hp=>by
    rcases (r5 p hp).2.2 with q | q
    · rw [hke] at q;cases q
    · exact q
   have up:∀ {p:PairT},hgW (fnd hash).1.1 p.1=true -> emp par=true \/ hgW par p.1=true:=fun {p} hq=>by
    rcases hpar with q | q
    · exact .inl q
    · exact .inr (hgW_tra q hq)
   have hroot:rootT wd (.node tl ((fnd hash).1.1,(fnd hash).1.2.1) tr)=hash:=by
    show digB (encS (fnd hash).1.1 (fnd hash).1.2.1 (rootT wd tl) (rootT wd tr) wd) wd=hash
    rw [l2,r2]
    exact hd
   refine ⟨.node tl ((fnd hash).1.1,(fnd hash).1.2.1) tr,⟨?_,l1,r1⟩,hroot,?_,⟨cl,cr,l4,r4⟩,fun p hp=>?_,?_⟩
   · rw [hroot,l2,r2]
     exact hfe
   · rw [hasW_all,if_pos rfl]
     show tl.inord ++ _ :: tr.inord=_
     rw [l3,r3,List.append_assoc]
     rfl
   · have:p ∈ tl.inord ++ ((fnd hash).1.1,(fnd hash).1.2.1) :: tr.inord:=hp
     rcases List.mem_append.1 this with q | q
     · exact ⟨(l5 p q).1,(l5 p q).2.1,up (cl p q)⟩
     · rcases List.mem_cons.1 q with rfl | q
       · exact ⟨hx.1,hx.2.1,hpar⟩
       · exact ⟨(r5 p q).1,(r5 p q).2.1,up (cr p q)⟩
   · show _=cnt + (tl.size + tr.size + 1)
     rw [r6,l6]
     omega
def txtP:PT -> List UInt8
 | .e=>[69]
 | .s h=>83 :: h.data.toList
 | .f k v l r=>70 :: (sized k.data.toList ++ sized v.data.toList) ++ (txtP l ++ txtP r)
def ptT (wd:Nat) (lo hi:ByteArray):ByteArray -> ByteArray -> Tr PairT -> PT
 | _,_,.nil=>.e
 | over,under,.node l x r=>if canW over under lo hi=true then .f x.1 x.2 (ptT wd lo hi over x.1 l) (ptT wd lo hi x.1 under r) else .s (rootT wd (.node l x r))
theorem ptT_f {wd:Nat} {lo hi over under:ByteArray} {l r:Tr PairT} {x:PairT} (h:canW over under lo hi=true):ptT wd lo hi over under (.node l x r)=.f x.1 x.2 (ptT wd lo hi over x.1 l) (ptT wd lo hi x.1 under r):=if_pos h
theorem ptT_s {wd:Nat} {lo hi over under:ByteArray} {l r:Tr PairT} {x:PairT} (h:canW over under lo hi=false):ptT wd lo hi over under (.node l x r)=.s (rootT wd (.node l x r)):=if_neg (by rw [h];decide)
theorem root_emp (wd:Nat) (h1:1 <= wd) (h2:wd <= 32) (l:Tr PairT) (x:PairT) (r:Tr PairT):emp (rootT wd (.node l x r))=false:=by
 unfold emp
 have:(rootT wd (.node l x r)).size=wd:=digB_size _ _ h2
 rw [this]
 exact decide_eq_false (by omega)
theorem prL_tree {fnd:ByteArray -> FN} {wd:Nat} (h1:1 <= wd) (h2:wd <= 32) (lo hi:ByteArray):∀ (t:Tr PairT) (f:Nat) (over under:ByteArray),t.size < f -> HasT fnd wd t -> prL fnd lo hi f (rootT wd t) over under=txtP (ptT wd lo hi over under t)
 | t,0,_,_,h,_=>by omega
 | .nil,f + 1,_,_,_,_=>prL_e rfl
 | .node l x r,f + 1,over,under,hf,hh=>by
  obtain ⟨s1,s2,s3⟩:=hh
  have he:=root_emp wd h1 h2 l x r
  simp only [Tr.size] at hf
  cases hc:canW over under lo hi with
  | false=>rw [prL_s he hc,ptT_s hc];rfl
  | true =>
   rw [prL_f he hc,ptT_f hc,s1]
   simp only
   rw [prL_tree h1 h2 lo hi l f over x.1 (by omega) s2,prL_tree h1 h2 lo hi r f x.1 under (by omega) s3]
   rfl
theorem ptT_hash (wd:Nat) (lo hi:ByteArray):∀ (t:Tr PairT) (over under:ByteArray),hashP wd (ptT wd lo hi over under t)=rootT wd t
 | .nil,_,_=>rfl
 | .node l x r,over,under=>by
  cases hc:canW over under lo hi with
  | false=>rw [ptT_s hc];rfl
  | true =>
   rw [ptT_f hc]
   show digB (encS x.1 x.2 (hashP wd _) (hashP wd _) wd) wd=_
   rw [ptT_hash wd lo hi l,ptT_hash wd lo hi r]
   rfl
def Btw (over under:ByteArray) (t:Tr PairT):Prop:=KeysUp (keys t.inord) /\ ∀ p ∈ t.inord,lessB over p.1=true /\ (emp under=true \/ lessB p.1 under=true)
theorem Btw.sub {over under:ByteArray} {l r:Tr PairT} {x:PairT} (h:Btw over under (.node l x r)):Btw over x.1 l /\ Btw x.1 under r /\ lessB over x.1=true /\ (emp under=true \/ lessB x.1 under=true):=by
 have e:keys (Tr.node l x r).inord=keys l.inord ++ x.1 :: keys r.inord:=by simp [Tr.inord,keys]
 have hk:=h.1
 rw [e] at hk
 obtain ⟨k1,⟨k4,k5⟩,k3⟩:=ku_app hk
 have hx:=h.2 x (by simp [Tr.inord])
 exact ⟨⟨k1,fun p hp=>⟨(h.2 p (by simp [Tr.inord,hp])).1,.inr (k3 _ (mem_keys hp) _ (List.mem_cons_self ..))⟩⟩,⟨k5,fun p hp=>⟨k4 _ (mem_keys hp),(h.2 p (by simp [Tr.inord,hp])).2⟩⟩,hx.1,hx.2⟩
theorem ptT_sh (wd:Nat) (lo hi:ByteArray):∀ (t:Tr PairT) (over under:ByteArray),Btw over under t -> shP lo hi (ptT wd lo hi over under t)=t.inord.filter (fun p=>hasW lo hi p.1)
 | .nil,_,_,_=>rfl
 | .node l x r,over,under,h=>by
  obtain ⟨hl,hr,_,_⟩:=h.sub
  cases hc:canW over under lo hi with
  | false =>
   rw [ptT_s hc]
   show []=_
   symm
   exact filter_no fun p hp=>canW_no hc (h.2 p hp).1 (h.2 p hp).2
  | true =>
   rw [ptT_f hc]
   show shP lo hi _ ++ _ ++ shP lo hi _=(l.inord ++ x :: r.inord).filter _
   rw [ptT_sh wd lo hi l _ _ hl,ptT_sh wd lo hi r _ _ hr,List.filter_append,List.filter_cons,List.append_assoc]
   congr 1
   split <;> rfl
theorem bAt_at (P:List UInt8) (c:UInt8) (X:List UInt8):bAt (T (P ++ c :: X)) P.length=c.toNat:=by
 unfold bAt
 rw [T_list,List.getD_eq_getElem?_getD,List.getElem?_append_right (Nat.le_refl _),Nat.sub_self]
 rfl
theorem ptT_cnt (wd:Nat) (lo hi:ByteArray):∀ (t:Tr PairT) (over under:ByteArray),cP (ptT wd lo hi over under t) <= t.size
 | .nil,_,_=>Nat.le_refl _
 | .node l x r,over,under=>by
  cases hc:canW over under lo hi with
  | false=>rw [ptT_s hc];exact Nat.zero_le _
  | true =>
   rw [ptT_f hc,cP]
   have h1:=ptT_cnt wd lo hi l over x.1
   have h2:=ptT_cnt wd lo hi r x.1 under
   simp only [Tr.size]
   omega
theorem rd_tree (wd:Nat) (_h1:1 <= wd) (h2:wd <= 32) (lo hi:ByteArray):∀ (t:Tr PairT) (f:Nat) (over under par:ByteArray) (cnt:Nat) (P Q:List UInt8) (s:ByteArray),s=T (P ++ (txtP (ptT wd lo hi over under t) ++ Q)) -> t.size < f -> cnt + t.size <= 500 -> Btw over under t -> t.heap abP -> (∀ p ∈ t.inord,okKey p.1=true /\ okVal p.2=true /\ (emp par=true \/ hgW par p.1=true)) →
 rdP s lo hi wd f P.length over under par cnt=some (ptT wd lo hi over under t,P.length + (txtP (ptT wd lo hi over under t)).length,cnt + cP (ptT wd lo hi over under t))
 | t,0,_,_,_,_,_,_,_,_,h,_,_,_,_=>by omega
 | .nil,f + 1,over,under,par,cnt,P,Q,s,hs,_,_,_,_,_=>by
  have hb:bAt s P.length=69:=by rw [hs];exact bAt_at P 69 Q
  have hz:P.length < s.size:=by rw [hs,T_size,List.length_append];show _ < _ + (List.length ([69] ++ Q));rw [List.length_append];simp;omega
  rw [rdP,if_pos hz,if_pos hb]
  rfl
 | .node l x r,f + 1,over,under,par,cnt,P,Q,s,hs,hf,hc5,hB,hh,hok=>by
  simp only [Tr.size] at hf hc5
  cases hc:canW over under lo hi with
  | false =>
   rw [ptT_s hc] at hs ⊢
   generalize hR:rootT wd (.node l x r)=R at hs ⊢
   have hRs:R.size=wd:=by rw [<- hR];exact digB_size _ _ h2
   have hRl:R.data.toList.length=wd:=hRs
   replace hs:s=T (P ++ (83 :: (R.data.toList ++ Q))):=hs
   have hb:bAt s P.length=83:=by rw [hs];exact bAt_at P 83 _
   have hsz:s.size=P.length + (wd + Q.length + 1):=by rw [hs,T_size,List.length_append,List.length_cons,List.length_append,hRl]
   have hex:s.extract (P.length + 1) (P.length + 1 + wd)=R:=by
    have hs2:s=T ((P ++ [83]) ++ (R.data.toList ++ Q)):=by rw [hs];simp
    rw [hs2,T_extract,List.drop_append_of_le_length (by simp),List.drop_of_length_le (by simp),List.nil_append]
    rw [show P.length + 1 + wd - (P.length + 1)=R.data.toList.length by omega,List.take_left,T_of]
   rw [rdP,if_pos (by omega),if_neg (by omega),if_pos hb,if_pos ⟨hc,by omega⟩,hex]
   show some (_,_,_)=some (_,P.length + (83 :: R.data.toList).length,cnt + 0)
   rw [List.length_cons,hRl]
   simp only [Option.some.injEq,Prod.mk.injEq,true_and]
   omega
  | true =>
   obtain ⟨hBl,hBr,ho,hu⟩:=hB.sub
   obtain ⟨q1,q2,q3,q4⟩:=hh
   rw [ptT_f hc] at hs ⊢
   obtain ⟨k,v⟩:=x
   have hx:=hok (k,v) (by simp [Tr.inord])
   simp only at hx hBl hBr ho hu q1 q2 hs ⊢
   have hcl:=ptT_cnt wd lo hi l over k
   have okl:∀ p ∈ l.inord,okKey p.1=true /\ okVal p.2=true /\ (emp k=true \/ hgW k p.1=true):=fun p hp=>by
    have:=hok p (by simp [Tr.inord,hp])
    exact ⟨this.1,this.2.1,.inr (q1 p hp)⟩
   have okr:∀ p ∈ r.inord,okKey p.1=true /\ okVal p.2=true /\ (emp k=true \/ hgW k p.1=true):=fun p hp=>by
    have:=hok p (by simp [Tr.inord,hp])
    exact ⟨this.1,this.2.1,.inr (q2 p hp)⟩
   have IL:=rd_tree wd _h1 h2 lo hi l f over k k (cnt + 1) (P ++ (70 :: (sized k.data.toList ++ sized v.data.toList))) (txtP (ptT wd lo hi k under r) ++ Q) s (by rw [hs,txtP];simp) (by omega) (by omega) hBl q3 okl
   have IR:=rd_tree wd _h1 h2 lo hi r f k under k (cnt + 1 + cP (ptT wd lo hi over k l)) (P ++ (70 :: (sized k.data.toList ++ sized v.data.toList)) ++ txtP (ptT wd lo hi over k l)) Q s (by rw [hs,txtP];simp) (by omega) (by omega) hBr q4 okr
   generalize ptT wd lo hi over k l=tl at *
   generalize ptT wd lo hi k under r=tr at *
   have hkl:k.data.toList.length=k.size:=rfl
   have hvl:v.data.toList.length=v.size:=rfl
   have hks:1 <= k.size /\ k.size <= 256:=by have:=hx.1;unfold okKey at this;exact of_decide_eq_true this
   have hvs:v.size <= 2000:=by have:=hx.2.1;unfold okVal at this;exact of_decide_eq_true this
   rw [txtP] at hs
   have s0:s=T (P ++ 70 :: (sized k.data.toList ++ (sized v.data.toList ++ (txtP tl ++ (txtP tr ++ Q))))):=by rw [hs];simp
   have s1:s=T ((P ++ [70]) ++ (sized k.data.toList ++ (sized v.data.toList ++ (txtP tl ++ (txtP tr ++ Q))))):=by rw [hs];simp
   have s2:s=T ((P ++ [70] ++ sized k.data.toList) ++ (sized v.data.toList ++ (txtP tl ++ (txtP tr ++ Q)))):=by rw [hs];simp
   have n1:(P ++ [(70:UInt8)]).length=P.length + 1:=by simp
   have n2:(P ++ [(70:UInt8)] ++ sized k.data.toList).length=P.length + 1 + 2 + k.size:=by rw [List.length_append,n1,sized_length,hkl];omega
   have hsz:s.size=P.length + 1 + 2 + k.size + 2 + v.size + (txtP tl).length + (txtP tr).length + Q.length:=by
    rw [s2,T_size,List.length_append,n2,List.length_append,sized_length,hvl,List.length_append,List.length_append]
    omega
   have hb:bAt s P.length=70:=by rw [s0];exact bAt_at P 70 _
   have z1:szAt s (P.length + 1)=k.size:=by rw [s1,<- n1];exact szAt_sized _ _ _ (by omega)
   have e1:pieceE s (P.length + 1)=P.length + 1 + 2 + k.size:=by unfold pieceE;rw [z1]
   have t1:pieceT s (P.length + 1)=k:=by
    unfold pieceT
    rw [z1,s1,<- n1,<- hkl,piece_sized,T_of]
   have z2:szAt s (P.length + 1 + 2 + k.size)=v.size:=by rw [s2,<- n2];exact szAt_sized _ _ _ (by omega)
   have e2:pieceE s (P.length + 1 + 2 + k.size)=P.length + 1 + 2 + k.size + 2 + v.size:=by unfold pieceE;rw [z2]
   have t2:pieceT s (P.length + 1 + 2 + k.size)=v:=by
    unfold pieceT
    rw [z2,s2,<- n2,<- hvl,piece_sized,T_of]
   have o1:pieceOk s (P.length + 1):=⟨by omega,by rw [z1];omega⟩
   have o2:pieceOk s (P.length + 1 + 2 + k.size):=⟨by omega,by rw [z2];omega⟩
   have hoa:okAt over under par k v=true:=by
    unfold okAt insW parW
    simp only [Bool.and_eq_true,Bool.or_eq_true]
    exact ⟨⟨hx.1,hx.2.1⟩,⟨ho,hu⟩,hx.2.2⟩
   have pl:(P ++ (70 :: (sized k.data.toList ++ sized v.data.toList))).length=P.length + 1 + 2 + k.size + 2 + v.size:=by
    rw [List.length_append,List.length_cons,List.length_append,sized_length,sized_length,hkl,hvl]
    omega
   rw [pl] at IL
   rw [List.length_append,pl] at IR
   rw [rdP,if_pos (by omega),if_neg (by omega),if_neg (by omega),if_pos ⟨hb,hc⟩,e1,t1,t2,e2,if_pos ⟨by omega,o1,o2,hoa⟩,IL]
   simp only
   rw [IR]
   simp only [Option.some.injEq,Prod.mk.injEq,true_and]
   rw [txtP,cP]
   refine ⟨?_,by omega⟩
   rw [List.length_append,List.length_cons,List.length_append,List.length_append,sized_length,sized_length,hkl,hvl]
   omega
theorem acc_tree (wd:Nat) (h1:1 <= wd) (h2:wd <= 32) (lo hi:ByteArray) (t:Tr PairT) (h5:t.size <= 500) (hB:Btw ⟨#[]⟩ ⟨#[]⟩ t) (hh:t.heap abP) (hok:∀ p ∈ t.inord,okKey p.1=true /\ okVal p.2=true) :
 accP (wd:Int) (rootT wd t) lo hi (T (txtP (ptT wd lo hi ⟨#[]⟩ ⟨#[]⟩ t)))=some (ptT wd lo hi ⟨#[]⟩ ⟨#[]⟩ t):=by
 have hr:=rd_tree wd h1 h2 lo hi t 501 ⟨#[]⟩ ⟨#[]⟩ ⟨#[]⟩ 0 [] [] (T (txtP (ptT wd lo hi ⟨#[]⟩ ⟨#[]⟩ t))) (by simp) (by omega) (by omega) hB hh (fun p hp=>⟨(hok p hp).1,(hok p hp).2,.inl rfl⟩)
 unfold accP
 have hw:(isW (wd:Int) && hashOk (rootT wd t).size (wd:Int))=true:=by
  have:=rootT_size wd h2 t
  unfold isW hashOk
  simp only [Bool.and_eq_true,Bool.or_eq_true,decide_eq_true_eq]
  omega
 rw [if_pos hw,Int.toNat_natCast]
 rw [List.length_nil] at hr
 rw [hr]
 unfold accQ
 simp only
 rw [if_pos ⟨by rw [T_size];omega,ptT_hash wd lo hi t ⟨#[]⟩ ⟨#[]⟩⟩]
def sP:PT -> Nat
 | .e=>0
 | .s _=>1
 | .f _ _ l r=>sP l + sP r
def hT:Tr PairT -> Nat
 | .nil=>0
 | .node l _ r=>(if hT l < hT r then hT r else hT l) + 1
def dl (lo over:ByteArray):Nat:=if lessB over lo=true then 1 else 0
def dr (hi under:ByteArray):Nat:=if emp hi=true then 0 else if emp under=true \/ lessB hi under=true then 1 else 0
theorem dl_le (lo over:ByteArray):dl lo over <= 1:=by unfold dl;split <;> omega
theorem dr_le (hi under:ByteArray):dr hi under <= 1:=by unfold dr;split <;> (try split) <;> omega
theorem less_emp {a b:ByteArray} (h:lessB a b=true):emp b=false:=by
 cases he:emp b with
 | false=>rfl
 | true =>
  have h0:b=⟨#[]⟩:=by
   unfold emp at he
   rw [decide_eq_true_eq] at he
   exact ByteArray.ext (Array.eq_empty_of_size_eq_zero he)
  rw [h0,less_nil] at h
  cases h
theorem skip_cnt {wd:Nat} {lo hi over under:ByteArray} (t:Tr PairT) (h:canW over under lo hi=false):cP (ptT wd lo hi over under t)=0 /\ sP (ptT wd lo hi over under t) <= 1 /\ sP (ptT wd lo hi over under t) <= hT t:=by
 cases t with
 | nil=>exact ⟨rfl,Nat.zero_le _,Nat.zero_le _⟩
 | node l x r=>rw [ptT_s h];exact ⟨rfl,Nat.le_refl _,by show 1 <= _ + 1;omega⟩
theorem cnt_tree (wd:Nat) (lo hi:ByteArray):∀ (t:Tr PairT) (over under:ByteArray),Btw over under t →
 cP (ptT wd lo hi over under t) <= (t.inord.filter (fun p=>hasW lo hi p.1)).length + (dl lo over + dr hi under) * hT t /\ (canW over under lo hi=true -> sP (ptT wd lo hi over under t) <= (dl lo over + dr hi under) * hT t)
 | .nil,_,_,_=>⟨Nat.zero_le _,fun _=>Nat.zero_le _⟩
 | .node l x r,over,under,h=>by
  obtain ⟨hl,hr,ho,hu⟩:=h.sub
  have IL:=cnt_tree wd lo hi l over x.1 hl
  have IR:=cnt_tree wd lo hi r x.1 under hr
  have hke:=less_emp ho
  have hfil:((Tr.node l x r).inord.filter (fun p=>hasW lo hi p.1)).length=(l.inord.filter (fun p=>hasW lo hi p.1)).length + (if hasW lo hi x.1=true then 1 else 0) + (r.inord.filter (fun p=>hasW lo hi p.1)).length:=by
   show ((l.inord ++ x :: r.inord).filter _).length=_
   rw [List.filter_append,List.length_append,List.filter_cons]
   split
   · rw [List.length_cons];omega
   · omega
  have hm1:hT l <= (if hT l < hT r then hT r else hT l):=by split <;> omega
  have hm2:hT r <= (if hT l < hT r then hT r else hT l):=by split <;> omega
  have hh:hT (.node l x r)=(if hT l < hT r then hT r else hT l) + 1:=rfl
  rw [hfil,hh]
  generalize (if hT l < hT r then hT r else hT l)=M at hm1 hm2
  have b1:=dl_le lo over
  have b2:=dr_le hi under
  have b3:=dl_le lo x.1
  have b4:=dr_le hi x.1
  cases hc:canW over under lo hi with
  | false=>exact ⟨by rw [(skip_cnt _ hc).1];exact Nat.zero_le _,fun q=>by cases q⟩
  | true =>
   rw [ptT_f hc,cP,sP]
   by_cases hk:lessB x.1 lo=true
   · have hn:canW over x.1 lo hi=false:=by
      unfold canW
      rw [hke,less_asyB hk]
      simp
     have d1:dl lo over=1:=by unfold dl;rw [if_pos (lessB_tr ho hk)]
     have d2:dl lo x.1=1:=by unfold dl;rw [if_pos hk]
     obtain ⟨s1,s2,s3⟩:=skip_cnt (wd:=wd) l hn
     rw [d1]
     rw [d2] at IR
     have m1:(1 + dr hi under) * hT r <= (1 + dr hi under) * M:=Nat.mul_le_mul_left _ hm2
     have m2:(1 + dr hi under) * (M + 1)=(1 + dr hi under) * M + (1 + dr hi under):=Nat.mul_succ _ _
     rw [m2]
     refine ⟨by have:=IR.1;omega,fun _=>?_⟩
     cases hr2:canW x.1 under lo hi with
     | true=>have:=IR.2 hr2;omega
     | false =>
      obtain ⟨_,u2,u3⟩:=skip_cnt (wd:=wd) r hr2
      have m3:1 * hT r <= (1 + dr hi under) * hT r:=Nat.mul_le_mul_right _ (by omega)
      omega
   · have hk':lessB x.1 lo=false:=by simpa using hk
     by_cases hb:emp hi=false /\ lessB x.1 hi=false
     · obtain ⟨he,hb⟩:=hb
       have hn:canW x.1 under lo hi=false:=by
        unfold canW
        rw [he,hb]
        simp
       have d1:dr hi under=1:=by
        unfold dr
        rw [if_neg (by rw [he];decide)]
        rw [if_pos]
        rcases hu with q | q
        · exact .inl q
        · exact .inr (le_less hb q)
       obtain ⟨s1,s2,s3⟩:=skip_cnt (wd:=wd) r hn
       rw [d1]
       have m0:(dl lo over + dr hi x.1) * hT l <= (dl lo over + 1) * hT l:=Nat.mul_le_mul_right _ (by omega)
       have m1:(dl lo over + 1) * hT l <= (dl lo over + 1) * M:=Nat.mul_le_mul_left _ hm1
       have m2:(dl lo over + 1) * (M + 1)=(dl lo over + 1) * M + (dl lo over + 1):=Nat.mul_succ _ _
       rw [m2]
       refine ⟨by have:=IL.1;omega,fun _=>?_⟩
       cases hl2:canW over x.1 lo hi with
       | true=>have:=IL.2 hl2;omega
       | false =>
        obtain ⟨_,u2,u3⟩:=skip_cnt (wd:=wd) l hl2
        have m3:1 * hT l <= (dl lo over + 1) * hT l:=Nat.mul_le_mul_right _ (by omega)
        omega
     · have hin:hasW lo hi x.1=true:=by
        unfold hasW
        rw [hk']
        cases he:emp hi with
        | true=>rfl
        | false =>
         cases hb2:lessB x.1 hi with
         | true=>rfl
         | false=>exact absurd ⟨he,hb2⟩ hb
       have hhi:emp hi=true \/ lessB x.1 hi=true:=by
        unfold hasW at hin
        rw [hk'] at hin
        exact (Bool.or_eq_true _ _).mp ((Bool.and_eq_true _ _).mp hin).2
       have d1:dl lo x.1=0:=by unfold dl;rw [if_neg (by rw [hk'];decide)]
       have d2:dr hi x.1=0:=by
        unfold dr
        rcases hhi with q | q
        · rw [if_pos q]
        · split
          · rfl
          · rw [if_neg]
            rintro (y | y)
            · rw [hke] at y;cases y
            · rw [less_asyB q] at y;cases y
       rw [d2,Nat.add_zero] at IL
       rw [d1,Nat.zero_add] at IR
       rw [if_pos hin]
       have m1:dl lo over * hT l <= dl lo over * M:=Nat.mul_le_mul_left _ hm1
       have m2:dr hi under * hT r <= dr hi under * M:=Nat.mul_le_mul_left _ hm2
       have m3:(dl lo over + dr hi under) * (M + 1)=dl lo over * M + dr hi under * M + (dl lo over + dr hi under):=by rw [Nat.mul_succ,Nat.add_mul]
       rw [m3]
       refine ⟨by have:=IL.1;have:=IR.1;omega,fun _=>?_⟩
       have hrw:canW x.1 under lo hi=true:=by
        unfold canW
        rw [Bool.and_eq_true,Bool.or_eq_true,Bool.or_eq_true,Bool.and_eq_true]
        refine ⟨?_,?_⟩
        · rcases hhi with q | q
          · exact .inl q
          · exact .inr ⟨le_less hk' q,q⟩
        · rcases hu with q | q
          · exact .inl q
          · exact .inr (le_less hk' q)
       have:=IR.2 hrw
       cases hl2:canW over x.1 lo hi with
       | true=>have:=IL.2 hl2;omega
       | false =>
        obtain ⟨_,u2,u3⟩:=skip_cnt (wd:=wd) l hl2
        by_cases hd:lessB over lo=true
        · have e:dl lo over=1:=by unfold dl;rw [if_pos hd]
          rw [e] at m1 ⊢
          omega
        · cases l with
          | nil =>
           have e:sP (ptT wd lo hi over x.1 .nil)=0:=rfl
           omega
          | node l2 y r2 =>
           exfalso
           have hy:=hl.2 y (by simp [Tr.inord])
           have h1:lessB y.1 x.1=true:=by
            rcases hy.2 with q | q
            · rw [hke] at q;cases q
            · exact q
           have hd':lessB over lo=false:=by simpa using hd
           have h2:lessB lo x.1=true:=lessB_tr (le_less hd' hy.1) h1
           have:canW over x.1 lo hi=true:=by
            unfold canW
            rw [Bool.and_eq_true,Bool.or_eq_true,Bool.or_eq_true,Bool.and_eq_true]
            refine ⟨?_,.inr h2⟩
            rcases hhi with q | q
            · exact .inl q
            · exact .inr ⟨lessB_tr h2 q,lessB_tr ho q⟩
           rw [this] at hl2
           cases hl2
theorem cnt_root (wd:Nat) (lo hi:ByteArray) (t:Tr PairT) (h:Btw ⟨#[]⟩ ⟨#[]⟩ t):cP (ptT wd lo hi ⟨#[]⟩ ⟨#[]⟩ t) <= (t.inord.filter (fun p=>hasW lo hi p.1)).length + 2 * hT t /\ sP (ptT wd lo hi ⟨#[]⟩ ⟨#[]⟩ t) <= 2 * hT t + 1:=by
 obtain ⟨h1,h2⟩:=cnt_tree wd lo hi t _ _ h
 have b1:=dl_le lo ⟨#[]⟩
 have b2:=dr_le hi ⟨#[]⟩
 have m:(dl lo ⟨#[]⟩ + dr hi ⟨#[]⟩) * hT t <= 2 * hT t:=Nat.mul_le_mul_right _ (by omega)
 refine ⟨by omega,?_⟩
 cases hc:canW ⟨#[]⟩ ⟨#[]⟩ lo hi with
 | true=>have:=h2 hc;omega
 | false=>have:=(skip_cnt (wd:=wd) t hc).2.1;omega
end Go.Proofs.YtibjhkpgaaapaaaGreatDoor
