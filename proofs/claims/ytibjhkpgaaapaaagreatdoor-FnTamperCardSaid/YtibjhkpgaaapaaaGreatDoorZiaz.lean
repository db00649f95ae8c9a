import Derived.Test.YtibjhkpgaaapaaaGreatDoorZiaw
import Derived.Test.YtibjhkpgaaapaaaGreatDoorZias
import Derived.Test.YtibjhkpgaaapaaaGreatDoorZiax
import Derived.Test.YtibjhkpgaaapaaaGreatDoorZiao
import Derived.Test.YtibjhkpgaaapaaaGreatDoorZiay
import Derived.Test.YtibjhkpgaaapaaaGreatDoorZiak
set_option maxRecDepth 100000
set_option maxHeartbeats 4000000
namespace Go.Proofs.YtibjhkpgaaapaaaGreatDoor
open Go.RowKit Go.Proofs.Sha Tryz
theorem ku_append:∀ {a b:List ByteArray},KeysUp a->KeysUp b->(∀x ∈ a,∀y ∈ b,lessB x y=true)->KeysUp (a++b)
 | [],_,_,hb,_=>hb
 | x :: xs,b,ha,hb,h=>by
  refine⟨λy hy=>?_,ku_append ha.2 hb (λz hz=>h z (List.mem_cons_of_mem _ hz))⟩
  rcases List.mem_append.1 hy with hy|hy
  ·exact ha.1 y hy
  ·exact h x List.mem_cons_self y hy
theorem ins_parts {over under k:ByteArray}(h:insW over under k=true):lessB over k=true/\(emp under=true\/lessB k under=true):=by
 unfold insW at h;obtain⟨h1,h2⟩:=(Bool.and_eq_true _ _).mp h;exact⟨h1,(Bool.or_eq_true _ _).mp h2⟩
theorem goF_up {fnd:ByteArray->FN}{hg:ByteArray->ByteArray->Bool}{lo hi:ByteArray}{wd:Nat}(hfo:FndOk wd fnd):∀ (f:Nat) (hash over under par:ByteArray) (cnt:Nat),KeysUp (keys (goF fnd hg lo hi f hash over under par cnt).2.2)/\∀x ∈ keys (goF fnd hg lo hi f hash over under par cnt).2.2,lessB over x=true/\(emp under=true\/lessB x under=true)
 | 0,_,_,_,_,_=>by rw[goF];exact⟨trivial,λx hx=>by simp at hx⟩
 | f+1,hash,over,under,par,cnt=>by
  have hnil:KeysUp (keys ([]:List PairT))/\∀x ∈ keys ([]:List PairT),lessB over x=true/\(emp under=true\/lessB x under=true):=⟨trivial,λx hx=>by simp at hx⟩
  cases h1:(emp hash || !canW over under lo hi) with
  | true=>rw[qaQ h1];exact hnil
  | false =>
   by_cases h2:(fnd hash).2=2
   ·rw[qbm h1 h2];exact hnil
   ·by_cases h20:(fnd hash).2=0
    ·cases h3:(insW over under (fnd hash).1.1 && parW hg par (fnd hash).1.1) with
     | false=>rw[qbD h1 h20 h3];exact hnil
     | true =>
      by_cases h4:500<cnt+1
      ·rw[qdf h1 h20 h3 h4];exact hnil
      ·have e:fnd hash=(((fnd hash).1.1,(fnd hash).1.2.1,(fnd hash).1.2.2.1,(fnd hash).1.2.2.2),0):=by rw[<-h20]
       rw[qbc h1 e h3 (by omega) rfl rfl]
       obtain⟨hk1,hk2⟩:=ins_parts ((Bool.and_eq_true _ _).mp h3).1
       have hke:emp (fnd hash).1.1=false:=by
        have okk:=(hfo.node hash h20).1
        have h9:1<=(fnd hash).1.1.size:=by
         unfold okKey at okk
         simp at okk
         omega
        unfold emp
        exact decide_eq_false (by omega)
       obtain⟨l1,l2⟩:=goF_up hfo f (fnd hash).1.2.2.1 over (fnd hash).1.1 (fnd hash).1.1 (cnt+1)
       obtain⟨r1,r2⟩:=goF_up hfo f (fnd hash).1.2.2.2 (fnd hash).1.1 under (fnd hash).1.1 (goF fnd hg lo hi f (fnd hash).1.2.2.1 over (fnd hash).1.1 (fnd hash).1.1 (cnt+1)).2.1
       generalize goF fnd hg lo hi f (fnd hash).1.2.2.2 (fnd hash).1.1 under (fnd hash).1.1 (goF fnd hg lo hi f (fnd hash).1.2.2.1 over (fnd hash).1.1 (fnd hash).1.1 (cnt+1)).2.1=R at r1 r2⊢
       generalize goF fnd hg lo hi f (fnd hash).1.2.2.1 over (fnd hash).1.1 (fnd hash).1.1 (cnt+1)=L at l1 l2⊢
       generalize (fnd hash).1.1=k at *
       split
       ·exact hnil
       ·split
        ·exact hnil
        ·have hl:∀x ∈ keys L.2.2,lessB over x=true/\lessB x k=true:=λx hx=>⟨(l2 x hx).1,by
          rcases(l2 x hx).2 with h|h
          ·rw[hke] at h;cases h
          ·exact h⟩
         have hin:∀x,x ∈ keys (if hasW lo hi k=true then [(k,(fnd hash).1.2.1)] else [])->x=k:=λx hx=>by
          split at hx
          ·simpa using hx
          ·simp at hx
         have hiu:KeysUp (keys (if hasW lo hi k=true then [(k,(fnd hash).1.2.1)] else [])):=by
          split
          ·exact⟨λx hx=>by simp at hx,trivial⟩
          ·trivial
         have hun:∀x,lessB x k=true->(emp under=true\/lessB x under=true):=λx hx=>by
          rcases hk2 with h|h
          ·exact .inl h
          ·exact .inr (qaT hx h)
         generalize (if hasW lo hi k=true then [(k,(fnd hash).1.2.1)] else [])=I at hin hiu⊢
         have ha:KeysUp (keys L.2.2++keys I):=ku_append l1 hiu (λx hx y hy=>by rw[hin y hy];exact(hl x hx).2)
         have hb:KeysUp ((keys L.2.2++keys I)++keys R.2.2):=ku_append ha r1 (λx hx y hy=>by
          rcases List.mem_append.1 hx with hx|hx
          ·exact qaT (hl x hx).2 (r2 y hy).1
          ·rw[hin x hx];exact(r2 y hy).1)
         have e3:keys (L.2.2++I++R.2.2)=(keys L.2.2++keys I)++keys R.2.2:=by simp[keys]
         simp only[e3]
         refine⟨hb,λx hx=>?_⟩
         rcases List.mem_append.1 hx with hx|hx
         ·rcases List.mem_append.1 hx with hx|hx
          ·exact⟨(hl x hx).1,hun x (hl x hx).2⟩
          ·rw[hin x hx];exact⟨hk1,hk2⟩
         ·exact⟨qaT hk1 (r2 x hx).1,(r2 x hx).2⟩
    ·rw[goF,if_neg (by rw[h1];decide),if_neg h2,if_pos h20];exact hnil
def ordP:ByteArray->ByteArray->PT->Prop
 | over,under,.f k v l r=>insW over under k=true/\emp k=false/\k.size<=256/\v.size<=2000/\ordP over k l/\ordP k under r
 | _,_,_=>True
theorem rdP_ord {s lo hi:ByteArray}{wd:Nat}:∀ (f a:Nat) (over under par:ByteArray) (cnt:Nat) (t:PT) (a' c':Nat),rdP s lo hi wd f a over under par cnt=some (t,a',c')->ordP over under t
 | 0,_,_,_,_,_,_,_,_,h=>by cases h
 | f+1,a,over,under,par,cnt,t,a',c',h=>by
  rw[rdP] at h
  split at h
  ·split at h
   ·cases h;trivial
   ·split at h
    ·split at h
     ·cases h;trivial
     ·cases h
    ·split at h
     ·split at h
      ·rename_i hx
       obtain⟨_,_,_,hat⟩:=hx
       split at h
       ·cases h
       ·rename_i l a3 c3 hl
        split at h
        ·cases h
        ·rename_i r a4 c4 hr
         cases h
         unfold okAt at hat
         obtain⟨h1,h2⟩:=(Bool.and_eq_true _ _).mp hat
         obtain⟨hk,hv⟩:=(Bool.and_eq_true _ _).mp h1
         obtain⟨hi',_⟩:=(Bool.and_eq_true _ _).mp h2
         unfold okKey at hk
         unfold okVal at hv
         have hk:=of_decide_eq_true hk
         have hv:=of_decide_eq_true hv
         exact⟨hi',by unfold emp;exact decide_eq_false (by omega),hk.2,hv,rdP_ord f _ _ _ _ _ _ _ _ hl,rdP_ord f _ _ _ _ _ _ _ _ hr⟩
      ·cases h
     ·cases h
  ·cases h
theorem shP_in (lo hi:ByteArray):∀ (t:PT) (over under:ByteArray),ordP over under t->∀p ∈ shP lo hi t,lessB over p.1=true/\(emp under=true\/lessB p.1 under=true)
 | .e,_,_,_,p,hp=>by cases hp
 | .s _,_,_,_,p,hp=>by cases hp
 | .f k v l r,over,under,⟨h1,h2,_,_,h3,h4⟩,p,hp=>by
  obtain⟨q1,q2⟩:=ins_parts h1
  rw[shP] at hp
  rcases List.mem_append.1 hp with hp|hp
  ·rcases List.mem_append.1 hp with hp|hp
   ·obtain⟨e1,e2⟩:=shP_in lo hi l over k h3 p hp
    rcases e2 with e2|e2
    ·rw[h2] at e2;cases e2
    ·refine⟨e1,?_⟩
     rcases q2 with q2|q2
     ·exact .inl q2
     ·exact .inr (qaT e2 q2)
   ·split at hp
    ·rw[List.mem_singleton] at hp
     subst hp
     exact⟨q1,q2⟩
    ·cases hp
  ·obtain⟨e1,e2⟩:=shP_in lo hi r k under h4 p hp
   exact⟨qaT q1 e1,e2⟩
theorem lessB_asym {a b:ByteArray}(h:lessB a b=true):lessB b a=false:=by
 cases hq:lessB b a with
 | false=>rfl
 | true=>have:=qaT h hq;rw[lessB_irr] at this;cases this
theorem lessB_ne {a b:ByteArray}(h:lessB a b=true):a ≠ b:=λe=>by subst e;rw[lessB_irr] at h;cases h
theorem ins_mid (k v:ByteArray):∀ (A B:List PairT),(∀p ∈ A,lessB p.1 k=true)->(∀p ∈ B,lessB k p.1=true)->ins k v (A++B)=A++(k,v) :: B
 | [],[],_,_=>rfl
 | [],b :: B,_,hB=>by rw[List.nil_append,ins,if_pos (hB b (List.mem_cons_self)),List.nil_append]
 | a :: A,B,hA,hB=>by
  rw[List.cons_append,ins,if_neg (by rw[lessB_asym (hA a (List.mem_cons_self))];decide),ins_mid k v A B (λp hp=>hA p (List.mem_cons_of_mem _ hp)) hB,List.cons_append]
theorem wth_mid (k v:ByteArray)(A B:List PairT)(hA:∀p ∈ A,lessB p.1 k=true)(hB:∀p ∈ B,lessB k p.1=true):wth (A++B) k v=A++(k,v) :: B:=by
 have e:wout (A++B) k=A++B:=by
  unfold wout;rw[List.filter_eq_self];intro p hp;refine decide_eq_true ?_;rcases List.mem_append.1 hp with hp|hp
  ·exact lessB_ne (hA p hp)
  ·exact(lessB_ne (hB p hp)).symm
 unfold wth;rw[e];exact ins_mid k v A B hA hB
def shF (lo hi:ByteArray):List NodeT->List PairT->List PairT
 | [],acc=>acc
 | n :: ns,acc=>shF lo hi ns (if hasW lo hi n.1=true then wth acc n.1 n.2.1 else acc)
theorem shF_app (lo hi:ByteArray):∀ (a b:List NodeT) (acc:List PairT),shF lo hi (a++b) acc=shF lo hi b (shF lo hi a acc)
 | [],_,_=>rfl
 | n :: a,b,acc=>by rw[List.cons_append,shF,shF,shF_app lo hi a b]
theorem shF_ok (lo hi:ByteArray)(wd:Nat):∀ (t:PT) (over under:ByteArray) (A B:List PairT),ordP over under t->(∀p ∈ A,∀x,lessB over x=true->lessB p.1 x=true)->(∀p ∈ B,∀x,(emp under=true\/lessB x under=true)->lessB x p.1=true)->shF lo hi (nodesP wd t) (A++B)=A++shP lo hi t++B
 | .e,_,_,A,B,_,_,_=>by rw[nodesP,shF,shP,List.append_nil];all_goals (intros;contradiction)
 | .s _,_,_,A,B,_,_,_=>by rw[nodesP,shF,shP,List.append_nil];all_goals (intros;contradiction)
 | .f k v l r,over,under,A,B,⟨h1,h2,_,_,h3,h4⟩,hA,hB=>by
  obtain⟨q1,q2⟩:=ins_parts h1
  obtain⟨X,hX⟩:=eX ((if hasW lo hi k=true then [(k,v)] else []))
  have hXm:∀p ∈ X,p.1=k:=λp hp=>by
   rw[<-hX] at hp
   split at hp
   ·rw[List.mem_singleton] at hp;rw[hp]
   ·cases hp
  have e1:(if hasW lo hi k=true then wth (A++B) k v else (A++B))=A++(X++B):=by
   rw[<-hX]
   split
   ·rw[wth_mid k v A B (λp hp=>hA p hp k q1) (λp hp=>hB p hp k q2)];rfl
   ·rfl
  have hB':∀p ∈ X++B,∀x,(emp k=true\/lessB x k=true)->lessB x p.1=true:=λp hp x hx=>by
   rcases hx with hx|hx
   ·rw[h2] at hx;cases hx
   ·rcases List.mem_append.1 hp with hp|hp
    ·rw[hXm p hp];exact hx
    ·exact qaT hx (hB p hp k q2)
  have hA':∀p ∈ A++shP lo hi l++X,∀x,lessB k x=true->lessB p.1 x=true:=λp hp x hx=>by
   rcases List.mem_append.1 hp with hp|hp
   ·rcases List.mem_append.1 hp with hp|hp
    ·exact qaT (hA p hp k q1) hx
    ·rcases(shP_in lo hi l over k h3 p hp).2 with e|e
     ·rw[h2] at e;cases e
     ·exact qaT e hx
   ·rw[hXm p hp];exact hx
  rw[nodesP,shF]
  simp only
  rw[e1,shF_app,shF_ok lo hi wd l over k A (X++B) h3 hA hB',show A++shP lo hi l++(X++B)=(A++shP lo hi l++X)++B by simp,shF_ok lo hi wd r k under (A++shP lo hi l++X) B h4 hA' hB,shP,hX]
  simp
theorem shF_all {lo hi over:ByteArray}{wd:Nat}{t:PT}(h:ordP over ⟨#[]⟩ t):shF lo hi (nodesP wd t) []=shP lo hi t:=by
 have:=shF_ok lo hi wd t over ⟨#[]⟩ [] [] h (λp hp=>by cases hp) (λp hp=>by cases hp)
 simpa using this
theorem insP_mem (k v:ByteArray):∀ (ps:List PairT) (p:PairT),p ∈ ins k v ps->p=(k,v)\/p ∈ ps
 | [],p,h=>by rw[ins,List.mem_singleton] at h;exact .inl h
 | q :: ps,p,h=>by
  rw[ins] at h
  split at h
  ·rcases List.mem_cons.1 h with h|h
   ·exact .inl h
   ·exact .inr h
  ·rcases List.mem_cons.1 h with h|h
   ·exact .inr (by rw[h];exact List.mem_cons_self)
   ·rcases insP_mem k v ps p h with h|h
    ·exact .inl h
    ·exact .inr (List.mem_cons_of_mem _ h)
theorem insP_len (k v:ByteArray):∀ps:List PairT,(ins k v ps).length=ps.length+1
 | []=>rfl
 | q :: ps=>by
  rw[ins]
  split
  ·rfl
  ·rw[List.length_cons,insP_len k v ps,List.length_cons]
theorem shF_small (lo hi:ByteArray)(P:PairT->Prop):∀ (ns:List NodeT) (acc:List PairT),(∀n ∈ ns,P (n.1,n.2.1))->(∀p ∈ acc,P p)->(∀p ∈ shF lo hi ns acc,P p)/\(shF lo hi ns acc).length<=acc.length+ns.length
 | [],acc,_,ha=>⟨ha,by rw[shF];simp⟩
 | n :: ns,acc,hn,ha=>by
  rw[shF]
  have hl:(wout acc n.1).length<=acc.length:=List.length_filter_le _ _
  have h1:(∀p ∈ (if hasW lo hi n.1=true then wth acc n.1 n.2.1 else acc),P p)/\(if hasW lo hi n.1=true then wth acc n.1 n.2.1 else acc).length<=acc.length+1:=by
   split
   ·refine⟨λp hp=>?_,?_⟩
    ·rcases insP_mem _ _ _ p hp with h|h
     ·rw[h];exact hn n List.mem_cons_self
     ·exact ha p (List.mem_filter.1 h).1
    ·unfold wth
     rw[insP_len]
     omega
   ·exact⟨ha,by omega⟩
  obtain⟨h2,h3⟩:=shF_small lo hi P ns _ (λm hm=>hn m (List.mem_cons_of_mem _ hm)) h1.1
  refine⟨h2,?_⟩
  rw[List.length_cons]
  have:=h1.2
  omega
theorem smallP_y {ps:List PairT}(hl:ps.length<=1000)(h:∀p ∈ ps,p.1.size<=1048576/\p.2.size<=1048576):SmallP ps:=by
 refine⟨by omega,λj=>?_⟩;by_cases hj:j<ps.length
 ·have:=h _ (List.getElem_mem hj);rw[zL,List.getElem?_eq_getElem hj];exact this
 ·rw[pget_out _ _ (by omega)];exact⟨Nat.zero_le _,Nat.zero_le _⟩
theorem shown_any (lo hi:ByteArray)(hlo:lo.size<=1048576)(hhi:hi.size<=1048576)(a:Option Addr)(ns:List NodeT)(c:Nat)(w:World)(h:NArg a ns w)(hb9:∀b,a=some ⟨b,0,none⟩->0<ns.length->b<w.heap.size)(hsm:∀n ∈ ns,n.1.size<=1048576/\n.2.1.size<=1048576) : Calls prog 37 #[.slice a ns.length c,.string lo,.string hi] w (PairsAt (shF lo hi ns []) w):=by
 have hle:=h.le;obtain⟨n,hn⟩:=eX (ns.length);rw[hn] at hle⊢;have hnH:Hid (ns.length=n):=hn;have hsml:Hid (∀i,SmallP (shF lo hi (ns.take i) [])/\(shF lo hi (ns.take i) []).length<=1000):=λi=>by
  obtain⟨q1,q2⟩:=shF_small lo hi (λp=>p.1.size<=1048576/\p.2.size<=1048576) (ns.take i) [] (λm hm=>hsm m (List.mem_of_mem_take hm)) (λp hp=>by cases hp);have hl:(ns.take i).length<=n:=by rw[List.length_take];omega
  simp only[List.length_nil,Nat.zero_add] at q2;exact⟨smallP_y (by omega) q1,by omega⟩
 have hP0:=OwnP.nil w;have hNA:Hid (∀W,Below w.heap.size w W->NArg a ns W):=λW hb=>h.below hb hb9;clear hn h;go_enter func37,ntmps37;go_wp2_with fail;go_loopw [7,8] (λt7 t8 wr=>∃i:Nat,i<=n/\t8=.int .i64 (i:Int)/\∃ (a':Option Addr) (m' c':Nat),t7=.slice a' m' c'/\OwnP w (shF lo hi (ns.take i) []) a' m' c' wr) (λ_ t8 _=>n-(intOf t8).toNat)
 case atStart=>exact⟨0,Nat.zero_le _,rfl,_,0,0,rfl,hP0⟩
 case round =>
  clear hP0;obtain⟨i,hik,rfl,a',m',c',rfl,hO⟩:=hrel;by_cases hlt:i<n
  ·have y1:decide ((i:Int)<(n:Int))=true:=(by simp;omega);have hx0:(0:Int)<=(i:Int):=Int.natCast_nonneg _;have hx1:(i:Int)<(n:Int):=(by omega);have hNr:=hNA.out _ hO.bel;obtain⟨bb,hae,_,hcc⟩:=hNr.cells (by rw[hnH.out];omega);obtain⟨e0,e1,_,_⟩:=hcc i (by rw[hnH.out];exact hlt);have hil:i<ns.length:=(by rw[hnH.out];exact hlt);obtain⟨⟨y0,y2,y3,y4⟩,hy⟩:∃y,ns.getD i noNode=y:=⟨_,rfl⟩;rw[hy] at e0 e1;have hyi:ns[i]=(y0,y2,y3,y4):=by
    rw[zL,List.getElem?_eq_getElem hil] at hy;exact hy
   have hys:y0.size<=1048576/\y2.size<=1048576:=(by have:=hsm _ (List.getElem_mem hil);rw[hyi] at this;exact this);have hstep:Hid (shF lo hi (ns.take (i+1)) []=if hasW lo hi y0=true then wth (shF lo hi (ns.take i) []) y0 y2 else shF lo hi (ns.take i) []):=by
    show _=_;rw[List.take_succ_eq_append_getElem hil,shF_app,hyi];rfl
   have HA:Hid (∀w',Calls prog 85 #[.string y0,.string lo] w' λe w''=>e=.returned (.bool (lessB y0 lo))/\Below w'.heap.size w' w''):=λw'=>(qbl y0 lo w' hys.1 hlo).mono λe w'' h=>⟨h.1,by obtain⟨m,rfl⟩:=h.2;exact qaa m (Below.refl _ _)⟩;have HB:Hid (∀w',Calls prog 85 #[.string y0,.string hi] w' λe w''=>e=.returned (.bool (lessB y0 hi))/\Below w'.heap.size w' w''):=λw'=>(qbl y0 hi w' hys.1 hhi).mono λe w'' h=>⟨h.1,by obtain⟨m,rfl⟩:=h.2;exact qaa m (Below.refl _ _)⟩;obtain⟨acc,hacc⟩:=eX (shF lo hi (ns.take i) []);obtain⟨hsp,hsl⟩:=hsml.out i;rw[hacc] at hO hsp hsl;have HWt:Hid (∀W,OwnP w acc a' m' c' W->Calls prog 86 #[.slice a' m' c',.string y0,.string y2] W λe W'=>∃a2 m2 c2,e=.returned (.slice a2 m2 c2)/\OwnP w (wth acc y0 y2) a2 m2 c2 W'/\Below W.heap.size W W'):=λW hW=>by
    have hpa:=qau hW hsp;have hlen:=hW.len;have:=with_any a' acc c' y0 y2 W hpa hys.1 (by omega);rw[hlen] at this;refine this.mono ?_;rintro e W' ⟨a2,c2,he,hOw⟩;exact⟨a2,_,c2,he,hOw.up hW.bel,hOw.bel⟩
   have hCl:Hid (∀W,Below w.heap.size w W->W.cell? ⟨bb,i*4,none⟩=some (.string y0)/\W.cell? ⟨bb,i*4+1,none⟩=some (.string y2)):=λW hW=>by
    obtain⟨b2,hae2,_,hcc2⟩:=(hNA.out _ hW).cells (by omega);rw[hae] at hae2;cases hae2;obtain⟨d0,d1,_,_⟩:=hcc2 i (by omega);rw[hy] at d0 d1;exact⟨d0,d1⟩
   have hst1:Hid (hasW lo hi y0=true->shF lo hi (ns.take (i+1)) []=wth acc y0 y2):=λhq=>by rw[hstep.out,if_pos hq,hacc]
   have hst0:Hid (hasW lo hi y0=false->shF lo hi (ns.take (i+1)) []=acc):=λhq=>by rw[hstep.out,if_neg (by rw[hq];decide),hacc]
   subst hae;clear hcc hy hyi hys hstep hacc hNr hsp hsl hil;have hleaf:lessB y0 lo=true\/(lessB y0 lo=false/\emp hi=true)\/(lessB y0 lo=false/\emp hi=false/\lessB y0 hi=true)\/(lessB y0 lo=false/\emp hi=false/\lessB y0 hi=false):=(by cases lessB y0 lo <;> cases emp hi <;> cases lessB y0 hi <;> simp);rcases hleaf with f1|⟨f1,f2⟩|⟨f1,f2,f3⟩|⟨f1,f2,f3⟩
   ·rw[f1] at HA;have hs:=hst0.out (by unfold hasW;rw[f1];rfl);have hs':Hid _:=hs;clear hs f1;go_wp2_with (first|(go_at_call_of 85 (Value.string lo);refine(HA.out _).mono ?_;rintro e W1 ⟨rfl,hb1⟩;have hO1:=hO.below hb1));refine⟨⟨i+1,hlt,rfl,a',m',c',rfl,by rw[hs'.out];exact hO1⟩,?_⟩;simp[intOf];omega
   ·rw[f1] at HA;have hs':Hid _:=hst1.out (by unfold hasW;rw[f1,f2];rfl);have hbb:=qaj f2;have hbs:=(qag f2).1 rfl;clear f1 f2;go_upto_region 6 with (first|(go_at_call_of 85 (Value.string lo);refine(HA.out _).mono ?_;rintro e W1 ⟨rfl,hb1⟩;have hO1:=hO.below hb1));have d:=hCl.out _ hO1.bel;have hO1d:OwnP w acc a' m' c' W1.drew:=⟨hO1.own,hO1.bel.drew,hO1.len⟩;go_region_held3 (λW=>W.cell? ⟨bb,i*4,none⟩=some (.string y0)/\W.cell? ⟨bb,i*4+1,none⟩=some (.string y2)) (first|exact d|exact hCl.out _ hO2.bel) (first|(go_at_call 86;refine(HWt.out _ hO1d).mono ?_;rintro e W2 ⟨a2,m2,c2,rfl,hO2,hb2⟩));go_wp2_with fail;refine⟨⟨i+1,hlt,rfl,a2,m2,c2,rfl,by rw[hs'.out];exact hO2⟩,?_⟩;simp[intOf];omega
   ·rw[f1] at HA;rw[f3] at HB;have hs':Hid _:=hst1.out (by unfold hasW;rw[f1,f2,f3];rfl);have hbb:=qaj f2;have hbs:=(qag f2).2 rfl;have hbn:=qao f2;clear f1 f2 f3;go_upto_region 6 with (first|(go_at_call_of 85 (Value.string lo);refine(HA.out _).mono ?_;rintro e W0 ⟨rfl,hb0⟩;have hO0:=hO.below hb0;obtain⟨d0,d1⟩:=hCl.out _ hO0.bel)|(go_at_call_of 85 (Value.string hi);refine(HB.out _).mono ?_;rintro e W1 ⟨rfl,hb1⟩;have hO1:=hO0.below hb1));have d:=hCl.out _ hO1.bel;have hO1d:OwnP w acc a' m' c' W1.drew:=⟨hO1.own,hO1.bel.drew,hO1.len⟩;go_region_held3 (λW=>W.cell? ⟨bb,i*4,none⟩=some (.string y0)/\W.cell? ⟨bb,i*4+1,none⟩=some (.string y2)) (first|exact d|exact hCl.out _ hO2.bel) (first|(go_at_call 86;refine(HWt.out _ hO1d).mono ?_;rintro e W2 ⟨a2,m2,c2,rfl,hO2,hb2⟩));go_wp2_with fail;refine⟨⟨i+1,hlt,rfl,a2,m2,c2,rfl,by rw[hs'.out];exact hO2⟩,?_⟩;simp[intOf];omega
   ·rw[f1] at HA;rw[f3] at HB;have hs':Hid _:=hst0.out (by unfold hasW;rw[f1,f2,f3];rfl);have hbb:=qaj f2;have hbs:=(qag f2).2 rfl;have hbn:=qao f2;clear f1 f2 f3;go_wp2_with (first|(go_at_call_of 85 (Value.string lo);refine(HA.out _).mono ?_;rintro e W0 ⟨rfl,hb0⟩;have hO0:=hO.below hb0;obtain⟨d0,d1⟩:=hCl.out _ hO0.bel)|(go_at_call_of 85 (Value.string hi);refine(HB.out _).mono ?_;rintro e W1 ⟨rfl,hb1⟩;have hO1:=hO0.below hb1));refine⟨⟨i+1,hlt,rfl,a',m',c',rfl,by rw[hs'.out];exact hO1⟩,?_⟩;simp[intOf];omega
  ·obtain rfl:i=n:=by omega
   have y1:decide ((i:Int)<(i:Int))=false:=(by simp);have htk:ns.take i=ns:=List.take_of_length_le (by rw[hnH.out];exact Nat.le_refl _);rw[htk] at hO;have hm:=hO.len;subst hm;go_wp2_with fail;go_ret;exact⟨a',c',rfl,hO⟩
theorem lrd_base (wd:Nat)(lo hi s over under par:ByteArray)(a:Nat)(w:World)(_hs:s.size<=1048576)(ha:a<=s.size) : Calls prog 84 #[.agg #[.int .i64 (wd:Int),.string lo,.string hi,.string s],.int .i64 (a:Int),.string par,.agg #[.string over,.string under],.int .i64 501] w (RdAt wd none w):=by
 have hQ:=LQ.mk0 w wd lo hi s over under;have HN:Hid (∀w',Calls prog 83 #[] w' λe w''=>e=.returned (.agg #[.string ⟨#[]⟩,.slice none 0 0,.string ⟨#[]⟩,.int .i64 (-1)])/\Below w'.heap.size w' w''):=none_any;go_enter func84,ntmps84;go_upto_region 1 with fail;generalize (((w.alloc (.cells #[.int .i64 (wd:Int),.string lo,.string hi,.string s] 131)).alloc (.cells #[.string over,.string under] 94)).alloc (.cells #[.string ⟨#[]⟩,.slice none 0 0,.string ⟨#[]⟩,.int .i64 0] 65))=W at hQ⊢;obtain⟨gr,hgr⟩:∃x,w.heap.size+1+1=x:=⟨_,rfl⟩;rw[hgr] at hQ⊢;obtain⟨gb,hgb⟩:∃x,w.heap.size+1=x:=⟨_,rfl⟩;rw[hgb] at hQ⊢;obtain⟨ga,hga⟩:∃x,w.heap.size=x:=⟨_,rfl⟩;rw[show LQ w w.heap.size=LQ w ga by rw[hga]] at hQ;rw[hga];clear hgr hgb hga;have k3:=ZC hQ.nq 3;have z0:decide ((a:Int)<0)=false:=decide_eq_false (by omega);have hfin:Hid (∀W:World,LQ w ga gb gr wd lo hi s over under W->W.cell? ⟨gr,0,none⟩=some (.string ⟨#[]⟩)/\W.cell? ⟨gr,1,none⟩=some (.slice none 0 0)/\W.cell? ⟨gr,2,none⟩=some (.string ⟨#[]⟩)/\W.cell? ⟨gr,3,none⟩=some (.int .i64 0)/\(∀j,W.frozen? ⟨gr,j,none⟩=false)):=λW h=>⟨ZC h.nr 0,ZC h.nr 1,ZC h.nr 2,ZC h.nr 3,λj=>qac h.nr⟩;by_cases hlt:a<s.size
 ·have z1:decide ((s.size:Int)<=(a:Int))=false:=decide_eq_false (by omega);have z1':decide (s.size<=a)=false:=decide_eq_false (by omega);clear hlt;go_wp2_with (go_at_call 83;refine(HN.out _).mono ?_;rintro e W1 ⟨rfl,hb1⟩;have hQ1:=hQ.below hb1;obtain⟨r0,r1,r2,r3,fr⟩:=hfin.out _ hQ1);exact hQ1.none rfl rfl rfl
 ·have z1:decide ((s.size:Int)<=(a:Int))=true:=decide_eq_true (by omega);have z1':decide (s.size<=a)=true:=decide_eq_true (by omega);clear hlt;go_wp2_with (go_at_call 83;refine(HN.out _).mono ?_;rintro e W1 ⟨rfl,hb1⟩;have hQ1:=hQ.below hb1;obtain⟨r0,r1,r2,r3,fr⟩:=hfin.out _ hQ1);exact hQ1.none rfl rfl rfl
theorem lrd_all (wd:Nat)(h1:1<=wd)(h2:wd<=32)(lo hi s:ByteArray)(hs:s.size<=1048576)(hlo:lo.size<=1048576)(hhi:hi.size<=1048576):∀f,LrdSaid wd lo hi s f
 | 0=>λover under par a cnt w h hc ha ho hu hp=>by
  obtain rfl:cnt=501:=by omega
  rw[if_pos (by omega)]
  exact lrd_base wd lo hi s over under par a w hs ha
 | f+1=>lrd_step wd h1 h2 lo hi s hs hlo hhi f (lrd_all wd h1 h2 lo hi s hs hlo hhi f)
def WhAt (wd:Nat) (s:ByteArray) (R:Option PT) (w:World) (e:Ending) (w':World):Prop :=
 (∀t,R=some t->∃ (x y:ByteArray) (a:Option Addr) (cap:Nat),e=.returned (.agg #[.string x,.slice a (nodesP wd t).length cap,.string y,.int .i64 (s.size:Int)])/\Hid (x=hashP wd t)/\Hid (y.data.toList=shapeP t)/\w'.ownsRow w.heap.size 73 4 (.slice a (nodesP wd t).length cap) (nodesP wd t).length (flatN (nodesP wd t)))/\(R=none->e=.returned (.agg #[.string ⟨#[]⟩,.slice none 0 0,.string ⟨#[]⟩,.int .i64 (-1)]))/\Below w.heap.size w w'
structure WB5 (w:World) (gr:Nat) (W:World):Prop where
 sz:w.heap.size<=gr
 bl:Below w.heap.size w W
 nr:W.heap[gr]?=some (.cells #[.string ⟨#[]⟩,.slice none 0 0,.string ⟨#[]⟩,.int .i64 0] 65)
theorem WB5.below {w W W':World}{gr:Nat}(h:WB5 w gr W)(hb:Below W.heap.size W W'):WB5 w gr W':=⟨h.sz,h.bl.trans (hb.mono h.bl.size),qab hb h.nr⟩
theorem WB5.fin {w W:World}{gr:Nat}(h:WB5 w gr W)(v0 v1 v2 v3:Value) : ((((W.setCell ⟨gr,0,none⟩ v0).setCell ⟨gr,1,none⟩ v1).setCell ⟨gr,2,none⟩ v2).setCell ⟨gr,3,none⟩ v3).heap[gr]?=some (.cells #[v0,v1,v2,v3] 65)/\Below w.heap.size w ((((W.setCell ⟨gr,0,none⟩ v0).setCell ⟨gr,1,none⟩ v1).setCell ⟨gr,2,none⟩ v2).setCell ⟨gr,3,none⟩ v3)/\(∀k,k ≠ gr->((((W.setCell ⟨gr,0,none⟩ v0).setCell ⟨gr,1,none⟩ v1).setCell ⟨gr,2,none⟩ v2).setCell ⟨gr,3,none⟩ v3).heap[k]?=W.heap[k]?):=by
 refine⟨heap_setCell_same _ gr 3 _ 65 _ (heap_setCell_same _ gr 2 _ 65 _ (heap_setCell_same _ gr 1 _ 65 _ (heap_setCell_same _ gr 0 _ 65 _ h.nr))),(((h.bl.setCell h.sz _).setCell h.sz _).setCell h.sz _).setCell h.sz _,λk hk=>?_⟩;rw[Below.heap_setCell _ _ _ _ (by exact hk),Below.heap_setCell _ _ _ _ (by exact hk),Below.heap_setCell _ _ _ _ (by exact hk),Below.heap_setCell _ _ _ _ (by exact hk)]
theorem retW {W:World}{A:Act}{gr:Nat}{v0 v1 v2 v3:Value}{R:Ending->World->Prop}(hp:A.tmps.getD 10 undef=.pointer (some ⟨gr,0,none⟩))(hd:A.defers=[])(h:W.heap[gr]?=some (.cells #[v0,v1,v2,v3] 65))(hR:R (.returned (.agg #[v0,v1,v2,v3])) W):bodyPost prog Tryz.f35 R .ret A W:=by
 have q0:=ZC h 0;have q1:=ZC h 1;have q2:=ZC h 2;have q3:=ZC h 3;refine bodyPost_ret (v:=.agg #[v0,v1,v2,v3]) ?_ hd hR;rw[qbf W (fn:=Tryz.f35) (p:=10) (ty:=65) rfl A.tmps _ hp];exact run_loadVar_mid W gr 0 65 [v0,v1,v2,v3] _ (λj u hj=>by
  match j,hj with
  | 0,hj=>simpa using q0.trans (by simpa using hj)
  | 1,hj=>simpa using q1.trans (by simpa using hj)
  | 2,hj=>simpa using q2.trans (by simpa using hj)
  | 3,hj=>simpa using q3.trans (by simpa using hj)) Tryz.underlying65 rfl (by kernel_rfl)
theorem WB5.none {w W:World}{gr wd:Nat}{s:ByteArray}(h:WB5 w gr W){A:Act}{R:Option PT}(hR:R=none)(hp:A.tmps.getD 10 undef=.pointer (some ⟨gr,0,Option.none⟩))(hd:A.defers=[]) : bodyPost prog Tryz.f35 (WhAt wd s R w) .ret A ((((W.setCell ⟨gr,0,Option.none⟩ (.string ⟨#[]⟩)).setCell ⟨gr,1,Option.none⟩ (.slice Option.none 0 0)).setCell ⟨gr,2,Option.none⟩ (.string ⟨#[]⟩)).setCell ⟨gr,3,Option.none⟩ (.int .i64 (-1))):=by
 obtain⟨h1,h2,h3⟩:=h.fin (.string ⟨#[]⟩) (.slice Option.none 0 0) (.string ⟨#[]⟩) (.int .i64 (-1));subst hR;exact retW hp hd h1 ⟨λt h=>(by cases h),λ_=>rfl,h2⟩
theorem whole_any (n:Int)(root lo hi s:ByteArray)(w:World)(hs:s.size<=1048576)(hr:root.size<=1048576)(hlo:lo.size<=1048576)(hhi:hi.size<=1048576) : Calls prog 35 #[.int .i64 n,.string root,.string lo,.string hi,.string s] w (WhAt n.toNat s (accP n root lo hi s) w):=by
 have HW:Hid (∀w',Calls prog 63 #[.int .i64 n] w' λe w''=>e=.returned (.bool (isW n))/\w'=w''):=λw'=>(isW_spec n w').mono (by rintro e w'' ⟨he,hw⟩;exact⟨he,hw.symm⟩);have HV:Hid (∀w',Calls prog 82 #[.string root,.int .i64 n] w' λe w''=>e=.returned (.bool (hashOk root.size n))/\w'=w''):=λw'=>qaJ root n w' hr;have HN:Hid (∀w',Calls prog 83 #[] w' λe w''=>e=.returned (.agg #[.string ⟨#[]⟩,.slice none 0 0,.string ⟨#[]⟩,.int .i64 (-1)])/\Below w'.heap.size w' w''):=none_any;obtain⟨R,hRe⟩:=eX (accP n root lo hi s);rw[hRe];have hB0:WB5 w w.heap.size (w.alloc (.cells #[.string ⟨#[]⟩,.slice none 0 0,.string ⟨#[]⟩,.int .i64 0] 65)):=⟨Nat.le_refl _,(Below.refl _ _).alloc (Nat.le_refl _) _,heap_alloc_new w _⟩;have hfin:Hid (∀W:World,WB5 w w.heap.size W->W.cell? ⟨w.heap.size,0,none⟩=some (.string ⟨#[]⟩)/\W.cell? ⟨w.heap.size,1,none⟩=some (.slice none 0 0)/\W.cell? ⟨w.heap.size,2,none⟩=some (.string ⟨#[]⟩)/\W.cell? ⟨w.heap.size,3,none⟩=some (.int .i64 0)/\(∀j,W.frozen? ⟨w.heap.size,j,none⟩=false)):=λW h=>⟨ZC h.nr 0,ZC h.nr 1,ZC h.nr 2,ZC h.nr 3,λj=>qac h.nr⟩;unfold accP at hRe;cases hw:isW n with
 | false =>
  rw[hw] at HW;have hRn:Hid (R=none):=by show _=_;rw[<-hRe,if_neg (by rw[hw];simp)]
  clear hRe hw;go_enter func35,ntmps35;go_wp2_with (first|(go_at_call 63;refine(HW.out _).mono ?_;rintro e w2 ⟨rfl,rfl⟩)|(go_at_call 83;refine(HN.out _).mono ?_;rintro e W1 ⟨rfl,hb1⟩;have hB1:=hB0.below hb1;obtain⟨r0,r1,r2,r3,fr⟩:=hfin.out _ hB1));exact hB1.none hRn.out rfl rfl
 | true =>
 cases hv:hashOk root.size n with
 | false =>
  rw[hw] at HW;rw[hv] at HV;have hRn:Hid (R=none):=by show _=_;rw[<-hRe,if_neg (by rw[hv];simp)]
  clear hRe hw hv;go_enter func35,ntmps35;go_wp2_with (first|(go_at_call 63;refine(HW.out _).mono ?_;rintro e w2 ⟨rfl,rfl⟩)|(go_at_call 82;refine(HV.out _).mono ?_;rintro e w2 ⟨rfl,rfl⟩)|(go_at_call 83;refine(HN.out _).mono ?_;rintro e W1 ⟨rfl,hb1⟩;have hB1:=hB0.below hb1;obtain⟨r0,r1,r2,r3,fr⟩:=hfin.out _ hB1));exact hB1.none hRn.out rfl rfl
 | true =>
 rw[if_pos (by rw[hw,hv];rfl)] at hRe;have h12:1<=n/\n<=32:=by
  unfold isW at hw;rw[Bool.and_eq_true,decide_eq_true_eq,decide_eq_true_eq] at hw;exact hw
 rw[hw] at HW;rw[hv] at HV;clear hw hv;obtain⟨wd,rfl⟩:∃wd:Nat,n=(wd:Int):=⟨n.toNat,by omega⟩;rw[Int.toNat_natCast] at hRe⊢;have HR:Hid (∀W,Calls prog 84 #[.agg #[.int .i64 (wd:Int),.string lo,.string hi,.string s],.int .i64 0,.string ⟨#[]⟩,.agg #[.string ⟨#[]⟩,.string ⟨#[]⟩],.int .i64 0] W (RdAt wd (rdP s lo hi wd 501 0 ⟨#[]⟩ ⟨#[]⟩ ⟨#[]⟩ 0) W)):=λW=>by
  have:=lrd_all wd (by omega) (by omega) lo hi s hs hlo hhi 501 ⟨#[]⟩ ⟨#[]⟩ ⟨#[]⟩ 0 0 W (by omega) (by omega) (by omega) (by decide) (by decide) (by decide);rw[if_neg (by omega)] at this;exact this
 obtain⟨RR,hRR⟩:=eX (rdP s lo hi wd 501 0 ⟨#[]⟩ ⟨#[]⟩ ⟨#[]⟩ 0);rw[hRR] at HR hRe;cases RR with
 | none =>
  have hRn:Hid (R=none):=hRe.symm;have HR2:Hid (∀W,Calls prog 84 #[.agg #[.int .i64 (wd:Int),.string lo,.string hi,.string s],.int .i64 0,.string ⟨#[]⟩,.agg #[.string ⟨#[]⟩,.string ⟨#[]⟩],.int .i64 0] W λe W'=>e=.returned (.agg #[.string ⟨#[]⟩,.slice none 0 0,.string ⟨#[]⟩,.int .i64 (-1)])/\Below W.heap.size W W'):=λW=>(HR.out W).mono λe W' h=>⟨h.2.1 rfl,h.2.2⟩;have z1':((-1:Int) == (s.size:Int))=false:=beq_eq_false_iff_ne.2 (by omega);have z1:((-1:Int) != (s.size:Int))=true:=by rw[bne,z1'];rfl
  clear hRe hRR HR;go_enter func35,ntmps35;go_upto_region 4 with (first|(go_at_call 63;refine(HW.out _).mono ?_;rintro e w2 ⟨rfl,rfl⟩)|(go_at_call 82;refine(HV.out _).mono ?_;rintro e w2 ⟨rfl,rfl⟩)|(go_at_call 84;refine(HR2.out _).mono ?_;rintro e W1 ⟨rfl,hb1⟩;have hB1:=hB0.below hb1));have hB2:=hB1.below ((Below.refl W1.heap.size W1).alloc (Nat.le_refl _) (.cells #[.string ⟨#[]⟩,.slice none 0 0,.string ⟨#[]⟩,.int .i64 (-1)] 65));have nP:=heap_alloc_new W1 (.cells #[.string ⟨#[]⟩,.slice none 0 0,.string ⟨#[]⟩,.int .i64 (-1)] 65);generalize W1.alloc (.cells #[.string ⟨#[]⟩,.slice none 0 0,.string ⟨#[]⟩,.int .i64 (-1)] 65)=W2 at hB2 nP⊢;generalize W1.heap.size=gp at nP⊢;have l0:=ZC nP 0;have l1:=ZC nP 1;have l3:=ZC nP 3;go_wp2_with (first|(go_at_call 83;refine(HN.out _).mono ?_;rintro e W3 ⟨rfl,hb3⟩;have hB3:=hB2.below hb3;obtain⟨r0,r1,r2,r3,fr⟩:=hfin.out _ hB3));exact hB3.none hRn.out rfl rfl
 | some Y =>
 obtain⟨t,a',c'⟩:=Y;have hcnt:=qdn 501 _ _ _ _ _ _ _ _ hRR;obtain⟨_,o2,_,o4⟩:=rdP_ok 501 _ _ _ _ _ _ _ _ (by omega) hRR;have hnl:=qbi wd t;have hRe2:Hid ((if a'=s.size/\hashP wd t=root then some t else none)=R):=hRe;obtain⟨ln,hln⟩:=eX ((nodesP wd t).length);have HR2:Hid (∀W,Calls prog 84 #[.agg #[.int .i64 (wd:Int),.string lo,.string hi,.string s],.int .i64 0,.string ⟨#[]⟩,.agg #[.string ⟨#[]⟩,.string ⟨#[]⟩],.int .i64 0] W λe W'=>∃ (x y:ByteArray) (al:Option Addr) (cl:Nat),e=.returned (.agg #[.string x,.slice al ln cl,.string y,.int .i64 (a':Int)])/\Hid (x=hashP wd t)/\Hid (y.data.toList=shapeP t)/\W'.ownsRow W.heap.size 73 4 (.slice al ln cl) ln (flatN (nodesP wd t))/\Below W.heap.size W W'):=λW=>(HR.out W).mono λe W' h=>by
  obtain⟨x,y,al,cl,he,hx,hy,hown⟩:=h.1 t a' c' rfl;rw[hln] at he hown;exact⟨x,y,al,cl,he,hx,hy,hown,h.2.2⟩
 have hln5:ln<=500:=by omega
 have hlnH:Hid ((nodesP wd t).length=ln):=hln;clear hRe hRR HR hln hnl hcnt;go_enter func35,ntmps35;go_upto_region 4 with (first|(go_at_call 63;refine(HW.out _).mono ?_;rintro e w2 ⟨rfl,rfl⟩)|(go_at_call 82;refine(HV.out _).mono ?_;rintro e w2 ⟨rfl,rfl⟩)|(go_at_call 84;refine(HR2.out _).mono ?_;rintro e W1 ⟨x,y,al,cl,rfl,hxe,hye,own1,hb1⟩;have hB1:=hB0.below hb1));have hB2:=hB1.below ((Below.refl W1.heap.size W1).alloc (Nat.le_refl _) (.cells #[.string x,.slice al ln cl,.string y,.int .i64 (a':Int)] 65));have nP:=heap_alloc_new W1 (.cells #[.string x,.slice al ln cl,.string y,.int .i64 (a':Int)] 65);have own2:(W1.alloc (.cells #[.string x,.slice al ln cl,.string y,.int .i64 (a':Int)] 65)).ownsRow w.heap.size 73 4 (.slice al ln cl) ln (flatN (nodesP wd t)):=own4_mono (own1.alloc _) (by simp);generalize W1.alloc (.cells #[.string x,.slice al ln cl,.string y,.int .i64 (a':Int)] 65)=W2 at hB2 nP own2⊢;generalize W1.heap.size=gp at nP⊢;have l0:=ZC nP 0;have l1:=ZC nP 1;have l2:=ZC nP 2;have l3:=ZC nP 3;clear own1 hb1 hB1 hB0 HR2;clear W1;by_cases ha:a'=s.size
 case neg =>
  have z1:((a':Int) != (s.size:Int))=true:=by simp;omega
  have z1':((a':Int) == (s.size:Int))=false:=by simp;omega
  have z1'':(a' == s.size)=false:=by simp;omega
  have hRn:Hid (R=none):=by show _=_;rw[<-hRe2.out,if_neg (λh=>ha h.1)]
  clear ha;go_wp2_with (first|(go_at_call 83;refine(HN.out _).mono ?_;rintro e W3 ⟨rfl,hb3⟩;have hB3:=hB2.below hb3;obtain⟨r0,r1,r2,r3,fr⟩:=hfin.out _ hB3));exact hB3.none hRn.out rfl rfl
 subst ha;by_cases hh:x=root
 case neg =>
  have z2:(x.toList == root.toList)=false:=strNe hh;have hRn:Hid (R=none):=by show _=_;rw[<-hRe2.out,if_neg (λh=>hh (by rw[hxe.out];exact h.2))]
  clear hh;go_wp2_with (first|(go_at_call 83;refine(HN.out _).mono ?_;rintro e W3 ⟨rfl,hb3⟩;have hB3:=hB2.below hb3;obtain⟨r0,r1,r2,r3,fr⟩:=hfin.out _ hB3));exact hB3.none hRn.out rfl rfl
 have z2:(x.toList == root.toList)=true:=by rw[hh];simp
 have hRv:Hid (some t=R):=by show _=_;rw[<-hRe2.out,if_pos ⟨rfl,by rw[<-hxe.out];exact hh⟩]
 have z3:decide ((500:Int)<(ln:Int))=false:=decide_eq_false (by omega);have z3':decide (500<ln)=false:=decide_eq_false (by omega);obtain⟨r0,r1,r2,r3,fr⟩:=hfin.out _ hB2;obtain⟨f1,f2,f3⟩:=hB2.fin (.string x) (.slice al ln cl) (.string y) (.int .i64 (s.size:Int));have HF:Hid (WhAt wd s R w (.returned (.agg #[.string x,.slice al ln cl,.string y,.int .i64 (s.size:Int)])) ((((W2.setCell ⟨w.heap.size,0,none⟩ (.string x)).setCell ⟨w.heap.size,1,none⟩ (.slice al ln cl)).setCell ⟨w.heap.size,2,none⟩ (.string y)).setCell ⟨w.heap.size,3,none⟩ (.int .i64 (s.size:Int)))):=by
  refine⟨λt' h'=>?_,λh'=>?_,f2⟩
  ·rw[<-hRv.out] at h';cases h';refine⟨x,y,al,cl,by rw[hlnH.out],hxe,hye,?_⟩;rw[hlnH.out];refine qdc own2 (λg hv hg=>f3 g (λe=>?_));obtain⟨_,_,cur,h9⟩:=qcx own2 hv;rw[e,hB2.nr] at h9;simp only[Option.some.injEq,Obj.cells.injEq] at h9;exact absurd h9.2.1 (by decide)
  ·rw[<-hRv.out] at h';cases h'
 have f1':Hid _:=f1;clear hh f1 f2 f3 own2 hRv hRe2 hxe hye hlnH;go_wp2_with fail;exact retW rfl rfl f1'.out HF.out
end Go.Proofs.YtibjhkpgaaapaaaGreatDoor
