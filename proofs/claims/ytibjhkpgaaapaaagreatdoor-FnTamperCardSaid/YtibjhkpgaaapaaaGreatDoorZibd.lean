import Derived.Test.YtibjhkpgaaapaaaGreatDoorZibc
import Derived.Test.YtibjhkpgaaapaaaGreatDoorZiah
import Derived.Test.YtibjhkpgaaapaaaGreatDoorZiag
import Derived.Test.YtibjhkpgaaapaaaGreatDoorZiat
import Derived.Test.YtibjhkpgaaapaaaGreatDoorZias
set_option maxRecDepth 100000
set_option maxHeartbeats 2000000
namespace Go.Proofs.YtibjhkpgaaapaaaGreatDoor
open Go.RowKit Go.Proofs.Sha Tryz
def WP5 (lb sb c:Nat) (L:List UInt8) (N:Nat->Prop) (w:World) (R:Int × Nat × List PairT) (X:List UInt8) (e:Ending) (w':World):Prop :=
 e=.returned (.bool (decide (R.1=0)))/\Ft c N w w'/\(R.1=0->LD lb sb R.2.1 0 w'/\Bld c (L++X) w')/\(R.1 ≠ 0->∃m,LD lb sb m R.1 w')
theorem Bld.ty {c:Nat}{l:List UInt8}{w:World}(h:Bld c l w):∃cs,w.heap[c]?=some (.cells cs 165):=by
 rcases h with ⟨_,v,h2,_⟩|⟨_,v,h2,_⟩ <;> exact⟨_,h2⟩
theorem walk5_none (lb sb c gb xl xa:Nat)(lo hi over under pk:ByteArray)(f:Nat)(fnd:ByteArray->FN)(cnt:Nat)(L:List UInt8)(hash:ByteArray)(he:emp hash=true)(w:World)(hg:w.heap[gb]?=some (.cells #[.string lo,.string hi] 75))(hL:LD lb sb cnt 0 w)(hS:Bld c L w)(hl:L.length<=6000000)(hcl:lb ≠ c) : Calls prog 147 #[.pointer none,into5 gb c,atV xl xa] w (WP5 lb sb c L (NWk none lb c) w (goF fnd hgW lo hi (f+1) hash over under pk cnt) (prL fnd lo hi (f+1) hash over under)):=by
 rw[qaQ (by rw[he];rfl),prL_e he];have HI:=into_none gb c lo hi L w hg hS (by omega);have HP:Hid (∀w',Put c (L++[69]) w w'->WP5 lb sb c L (NWk none lb c) w (0,cnt,[]) [69] (.returned (.bool true)) w'):=λw' hp=>⟨rfl,Ft.of_put hp (.inr (.inr rfl)),λ_=>⟨hp.cells hL hcl (by decide),hp.1⟩,λh=>absurd rfl h⟩;clear hL hS hg;go_enter func147,ntmps147;go_wp2_with (first|(go_at_call 108;refine HI.mono ?_;rintro e w2 ⟨rfl,hb2⟩));go_ret;exact HP.out _ hb2
theorem walk5_cut (lb sb c gb xl xa b:Nat)(lo hi over under pk:ByteArray)(par:Option Addr)(f:Nat)(fnd:ByteArray->FN)(cnt:Nat)(L:List UInt8)(hash:ByteArray)(he:emp hash=false)(hc:canW over under lo hi=false)(w:World)(hg:w.heap[gb]?=some (.cells #[.string lo,.string hi] 75))(hB:BR b hash over under par w)(hL:LD lb sb cnt 0 w)(hS:Bld c L w)(hl:L.length+hash.size<=6000000)(hcl:lb ≠ c) : Calls prog 147 #[.pointer (some ⟨b,0,none⟩),into5 gb c,atV xl xa] w (WP5 lb sb c L (NWk (some ⟨b,0,none⟩) lb c) w (goF fnd hgW lo hi (f+1) hash over under pk cnt) (prL fnd lo hi (f+1) hash over under)):=by
 rw[qaQ (by rw[hc];simp),prL_s he hc];have HI:=into_cut b gb c hash over under par lo hi L w hB hc hg hS (by omega);have HP:Hid (∀w',Put c (L++83 :: hash.data.toList) w w'->WP5 lb sb c L (NWk (some ⟨b,0,none⟩) lb c) w (0,cnt,[]) (83 :: hash.data.toList) (.returned (.bool true)) w'):=λw' hp=>⟨rfl,Ft.of_put hp (.inr (.inr rfl)),λ_=>⟨hp.cells hL hcl (by decide),hp.1⟩,λh=>absurd rfl h⟩;generalize L++83 :: hash.data.toList=L1 at HI HP;clear hL hS hB hc hg;go_enter func147,ntmps147;go_wp2_with (first|(go_at_call 108;refine HI.mono ?_;rintro e w2 ⟨rfl,hb2⟩));go_ret;exact HP.out _ hb2
structure Ar5 (wg:World) (B0 base lb sb c gb xl xa:Nat) (lo hi:ByteArray) (b:Nat) (w0:World) (cnt:Nat) (L:List UInt8) (w:World):Prop where
 env:Env5 wg B0 base lb c gb xl xa lo hi w
 ld:LD lb sb cnt 0 w
 ls:Bld c L w
 fr:Ft c (NWk (some ⟨b,0,none⟩) lb c) w0 w
section
variable {wg:World} {B0 base lb sb c gb xl xa:Nat} {lo hi:ByteArray} {b:Nat} {w0 w w':World} {cnt:Nat} {L:List UInt8} {hash over under:ByteArray} {par:Option Addr} {k v l r:ByteArray} {pl pr:Option Addr} {gl gr:Nat}
theorem Ar5.below (h:Ar5 wg B0 base lb sb c gb xl xa lo hi b w0 cnt L w)(s:Stc B0 base lb c gb xl xa)(hb:Below w.heap.size w w'):Ar5 wg B0 base lb sb c gb xl xa lo hi b w0 cnt L w' :=
 ⟨h.env.below s hb,h.ld.below hb,h.ls.below hb,h.fr.trans (Ft.of_below (N:=λ_=>False) hb) (λ_ _ x=>x.elim)⟩
end
theorem walk5_any (fnd:ByteArray->FN)(wd:Nat)(hfo:FndOk wd fnd)(hwd32:wd<=32)(wg:World)(B0 base lb sb c gb xl xa:Nat)(lo hi:ByteArray)(s:Stc B0 base lb c gb xl xa)
 (HF:Hid (∀ (hash:ByteArray) w',hash.size=wd->Below B0 wg w'->Calls prog 190 #[.pointer (some ⟨sb,0,none⟩),.string hash] w' λe w''=>e=.returned (nodeT (fnd hash))/\Below w'.heap.size w' w''))
 (HR:Hid (∀ (k:ByteArray) w',okKey k=true->Below B0 wg w'->Calls prog 166 #[Value.string k] w' λe w''=>e=.returned (.agg (rkL k).toArray)/\Below w'.heap.size w' w'')) :
 ∀ (f:Nat) (hash over under pk:ByteArray) (par p:Option Addr) (cnt:Nat) (L:List UInt8) (w:World),Env5 wg B0 base lb c gb xl xa lo hi w->LinkAt hash over under par p w->ParAt par pk w->LD lb sb cnt 0 w->Bld c L w->(∀q,p=some q->base<=q.block)->(hash.size=0\/hash.size=wd)->500<cnt+f->cnt<=500->L.length<=2400*cnt →
 Calls prog 147 #[.pointer p,into5 gb c,atV xl xa] w (WP5 lb sb c L (NWk p lb c) w (goF fnd hgW lo hi f hash over under pk cnt) (prL fnd lo hi f hash over under))
 | 0,_,_,_,_,_,_,_,_,_,_,_,_,_,_,_,_,h1,h2,_=>by omega
 | f+1,hash,over,under,pk,par,p,cnt,L,w,hE,hK,hP,hL,hS,hpb,hsz,h500,hcn,hln=>by
  rcases hK with ⟨he,rfl⟩|⟨he,b,rfl,hB⟩
  ·exact walk5_none lb sb c gb xl xa lo hi over under pk f fnd cnt L hash he w hE.gx hL hS (by omega) s.n7
  cases hcan:canW over under lo hi with
  | false=>exact walk5_cut lb sb c gb xl xa b lo hi over under pk par f fnd cnt L hash he hcan w hE.gx hB hL hS (by omega) s.n7
  | true =>
  have hskip:(emp hash || !canW over under lo hi)=false:=by rw[he,hcan];rfl
  have hwd:hash.size=wd:=by
   rcases hsz with h|h
   ·have h9:emp hash=true:=by unfold emp;simp[h]
    rw[he] at h9;cases h9
   ·exact h
  have hbb:base<=b:=hpb _ rfl
  have HI:=into_yes b gb c hash over under par lo hi w hB hcan hE.gx
  have hsmall:(fnd hash).2=0->(fnd hash).1.1.size<=256/\(fnd hash).1.2.1.size<=2000:=λhz=>by
   obtain⟨okk,okv,_,_⟩:=hfo.node hash hz
   unfold okKey at okk
   unfold okVal at okv
   have okk:=of_decide_eq_true okk
   have okv:=of_decide_eq_true okv
   omega
  have HB:Hid (∀w0,Below w.heap.size w w0->Calls prog 149 #[.pointer (some ⟨b,0,none⟩),.int .i64 0,.pointer (some ⟨xl,0,none⟩),.pointer (some ⟨xa,0,none⟩)] w0 λe w'=>e=.returned (.bool (decide (codeF fnd hash over under pk (cnt+1)=0)))/\Ft c (λq=>q=b\/q=lb\/q=c) w0 w'/\LD lb sb (cnt+1) (codeF fnd hash over under pk (cnt+1)) w'/\(codeF fnd hash over under pk (cnt+1)=0->Kids b hash over under par (fnd hash).1.1 (fnd hash).1.2.1 (fnd hash).1.2.2.1 (fnd hash).1.2.2.2 w0 w'/\Bld c (L++70 :: (sized (fnd hash).1.1.data.toList++sized (fnd hash).1.2.1.data.toList)) w')):=λw0 hb0 =>
   g1_before fnd wg B0 base lb sb c gb xl xa b hash over under pk par lo hi cnt L w0 s (hE.below s hb0) (hfo.code hash) (λhz=>by have:=hsmall hz;omega) (hL.below hb0) ((hb0.block b (zG hB).1).trans hB) (hP.fr (Fr.of_below (base:=0) (N:=λ_=>False) hb0) (λ_ _ h=>h)) (hS.below hb0) hcn hbb (by omega) (λw' h'=>HF.out hash w' hwd h') (λw' h' hz=>HR.out _ w' (hfo.node hash hz).1 h')
  by_cases hC:codeF fnd hash over under pk (cnt+1)=0
  ·obtain⟨hz,hfit,hc5⟩:=qcp hC
   obtain⟨okk,okv,okl,okr⟩:=hfo.node hash hz
   have hke:emp (fnd hash).1.1=false:=by
    have h9:1<=(fnd hash).1.1.size:=by
     unfold okKey at okk
     simp at okk
     omega
    unfold emp
    exact decide_eq_false (by omega)
   have hfe:fnd hash=(((fnd hash).1.1,(fnd hash).1.2.1,(fnd hash).1.2.2.1,(fnd hash).1.2.2.2),0):=by rw[<-hz]
   obtain⟨LR,hLR⟩:=eX (goF fnd hgW lo hi f (fnd hash).1.2.2.1 over (fnd hash).1.1 (fnd hash).1.1 (cnt+1))
   obtain⟨RR,hRR⟩:=eX (goF fnd hgW lo hi f (fnd hash).1.2.2.2 (fnd hash).1.1 under (fnd hash).1.1 LR.2.1)
   obtain⟨LX,hLX⟩:=eX (prL fnd lo hi f (fnd hash).1.2.2.1 over (fnd hash).1.1)
   obtain⟨RX,hRX⟩:=eX (prL fnd lo hi f (fnd hash).1.2.2.2 (fnd hash).1.1 under)
   rw[qbc hskip hfe hfit hc5 hLR hRR,prL_f he hcan,hLX,hRX]
   have IL:=λpar' p' L' w'=>walk5_any fnd wd hfo hwd32 wg B0 base lb sb c gb xl xa lo hi s HF HR f (fnd hash).1.2.2.1 over (fnd hash).1.1 (fnd hash).1.1 par' p' (cnt+1) L' w'
   have IR:=λpar' p' L' w'=>walk5_any fnd wd hfo hwd32 wg B0 base lb sb c gb xl xa lo hi s HF HR f (fnd hash).1.2.2.2 (fnd hash).1.1 under (fnd hash).1.1 par' p' LR.2.1 L' w'
   have hcl:LR.1=0->cnt+1<=LR.2.1/\LR.2.1<=500:=λh=>by rw[<-hLR] at h⊢;exact qbo f _ _ _ _ _ hc5 h
   have hll:LR.1=0->LX.length+2400*(cnt+1)<=2400*LR.2.1+40:=λh=>by
    rw[<-hLX]
    rw[<-hLR] at h⊢
    exact qdw hfo hwd32 f _ _ _ _ _ hc5 okl h
   rw[hLR,hLX] at IL
   rw[hRR,hRX] at IR
   rw[hC] at HB
   rw[decide_eq_true rfl] at HB
   obtain⟨L1,hL1⟩:=eX (L++70 :: (sized (fnd hash).1.1.data.toList++sized (fnd hash).1.2.1.data.toList))
   have hl1:L1.length<=2400*cnt+2261:=by
    rw[<-hL1]
    simp only[List.length_append,List.length_cons,sized_len]
    have e1:(fnd hash).1.1.data.toList.length=(fnd hash).1.1.size:=rfl
    have e2:(fnd hash).1.2.1.data.toList.length=(fnd hash).1.2.1.size:=rfl
    have:=hsmall hz
    omega
   have hfin:L++((70 :: (sized (fnd hash).1.1.data.toList++sized (fnd hash).1.2.1.data.toList))++(LX++RX))=L1++LX++RX:=by rw[<-hL1];simp
   rw[hL1] at HB
   generalize (70 :: (sized (fnd hash).1.1.data.toList++sized (fnd hash).1.2.1.data.toList))++(LX++RX)=FX at hfin⊢
   clear hL1 hLX hRX hsmall
   generalize (fnd hash).1.1=k at *
   generalize (fnd hash).1.2.1=v at *
   generalize (fnd hash).1.2.2.1=l at *
   generalize (fnd hash).1.2.2.2=r at *
   have K1:Hid (∀w2,Below w.heap.size w w2->Calls prog 149 #[.pointer (some ⟨b,0,none⟩),.int .i64 0,.pointer (some ⟨xl,0,none⟩),.pointer (some ⟨xa,0,none⟩)] w2 λe w3=>e=.returned (.bool true)/\∃pl pr gl gr,Ar5 wg B0 base lb sb c gb xl xa lo hi b w (cnt+1) L1 w3/\RightAt base b w hash over under par k v l r pl pr gr w3/\LeftAt base w over k l pl pr gl w3):=λw2 hb2=>by
    refine(HB.out w2 hb2).mono ?_
    rintro e w3 ⟨rfl,f3,hL3,hk3⟩
    obtain⟨⟨pl,pr,gl,gr,h1,h2,h3,h4,h5,h6,h7,h8⟩,hS3⟩:=hk3 rfl
    have hs2:=hb2.size
    have hw2:base<=w2.heap.size:=Nat.le_trans hE.hs hs2
    have e3:=(hE.below s hb2).ft s f3 (λq hq=>by rcases hq with e|e|e;exact .inr (.inr (by omega));exact .inl e;exact .inr (.inl e))
    refine⟨rfl,pl,pr,gl,gr,⟨e3,hL3,hS3,(Ft.of_below hb2).trans f3 (λq _ e=>by rcases e with e|e|e;exact .inl ⟨_,rfl,e⟩;exact .inr (.inl e);exact .inr (.inr e))⟩,⟨h1,h4,h5,λq hq=>?_⟩,⟨h2,h3,λq hq=>?_,λq q' hq hq'=>Nat.ne_of_lt (h8 q q' hq hq')⟩⟩
    ·have:=h7 q hq;omega
    ·have:=h6 q hq;omega
   have K3:Hid (∀pl pr gl gr w4,Ar5 wg B0 base lb sb c gb xl xa lo hi b w (cnt+1) L1 w4->RightAt base b w hash over under par k v l r pl pr gr w4->LeftAt base w over k l pl pr gl w4->Calls prog 147 #[.pointer pl,into5 gb c,atV xl xa] w4 λe w5=>e=.returned (.bool (decide (LR.1=0)))/\(LR.1=0->Ar5 wg B0 base lb sb c gb xl xa lo hi b w LR.2.1 (L1++LX) w5/\RightAt base b w hash over under par k v l r pl pr gr w5)/\(LR.1 ≠ 0->(∃m,LD lb sb m LR.1 w5)/\Ft c (NWk (some ⟨b,0,none⟩) lb c) w w5)):=λpl pr gl gr w4 hA hR hF=>by
    refine(IL (some ⟨gl,0,none⟩) pl L1 w4 hA.env hF.lk (.inr ⟨hke,gl,rfl,hF.rk⟩) hA.ld hA.ls (λq hq=>(hF.hp q hq).1) okl (by omega) hc5 (by omega)).mono ?_
    rintro e w5 ⟨rfl,f5,g5,n5⟩
    obtain⟨bcs,hbt⟩:=hA.ls.ty
    have hN:∀q,NWk pl lb c q->q=lb\/q=c\/base<=q:=λq hq=>by
     rcases hq with ⟨x,hx,e⟩|e|e
     ·have:=(hF.hp x hx).1;exact .inr (.inr (by omega))
     ·exact .inl e
     ·exact .inr (.inl e)
    have hfr:Ft c (NWk (some ⟨b,0,none⟩) lb c) w w5:=hA.fr.trans f5 (λq hq e=>by
     rcases e with ⟨x,hx,e⟩|e|e
     ·have:=(hF.hp x hx).2;omega
     ·exact .inr (.inl e)
     ·exact .inr (.inr e))
    have l4:=s.l4
    have l5:=s.l5
    have hnb:¬ NWk pl lb c b:=λhq=>by
     rcases hq with ⟨x,hx,e⟩|e|e
     ·have:=(hF.hp x hx).2;have:=(zG hB).1;omega
     ·omega
     ·omega
    have hnr:∀q,pr=some q->¬ NWk pl lb c q.block:=λq hq hx=>by
     have h1:=(hR.hp q hq).1
     rcases hx with ⟨x,hx,e⟩|e|e
     ·exact hF.ne x q hx hq e.symm
     ·omega
     ·omega
    have hng:¬ NWk pl lb c gr:=λhx=>by
     rcases hx with ⟨x,hx,e⟩|e|e
     ·rcases hF.lk with ⟨_,h⟩|⟨_,q,h,hq⟩
      ·rw[h] at hx;cases hx
      ·rw[h] at hx;cases hx;exact qai hR.rk hq (by decide) e
     ·exact qai hR.rk hA.ld (by decide) e
     ·exact qai hR.rk hbt (by decide) e
    refine⟨rfl,λh0=>⟨⟨hA.env.ft s f5 hN,(g5 h0).1,(g5 h0).2,hfr⟩,⟨f5.keep hR.bf hnb (by decide),hR.lk.ft f5 hnr,f5.keep hR.rk hng (by decide),hR.hp⟩⟩,λh0=>⟨n5 h0,hfr⟩⟩
   have K4:Hid (∀w5 L' m,Ar5 wg B0 base lb sb c gb xl xa lo hi b w m L' w5->Calls prog 149 #[.pointer (some ⟨b,0,none⟩),.int .i64 1,.pointer (some ⟨xl,0,none⟩),.pointer (some ⟨xa,0,none⟩)] w5 λe w6=>e=.returned (.bool true)/\w6=w5):=λw5 L' m hA=>g1_rest 1 (.inl rfl) b c xl xa w5 hA.env.ax
   have K5:Hid (∀pl pr gr w6,LR.1=0->Ar5 wg B0 base lb sb c gb xl xa lo hi b w LR.2.1 (L1++LX) w6->RightAt base b w hash over under par k v l r pl pr gr w6->Calls prog 147 #[.pointer pr,into5 gb c,atV xl xa] w6 λe w7=>e=.returned (.bool (decide (RR.1=0)))/\(RR.1=0->Ar5 wg B0 base lb sb c gb xl xa lo hi b w RR.2.1 (L1++LX++RX) w7)/\(RR.1 ≠ 0->(∃m,LD lb sb m RR.1 w7)/\Ft c (NWk (some ⟨b,0,none⟩) lb c) w w7)):=λpl pr gr w6 h0 hA hR=>by
    have q1:=hcl h0
    have q2:=hll h0
    refine(IR (some ⟨gr,0,none⟩) pr _ w6 hA.env hR.lk (.inr ⟨hke,gr,rfl,hR.rk⟩) hA.ld hA.ls (λq hq=>(hR.hp q hq).1) okr (by omega) q1.2 (by rw[List.length_append];omega)).mono ?_
    rintro e w7 ⟨rfl,f7,g7,n7⟩
    have hN:∀q,NWk pr lb c q->q=lb\/q=c\/base<=q:=λq hq=>by
     rcases hq with ⟨x,hx,e⟩|e|e
     ·have:=(hR.hp x hx).1;exact .inr (.inr (by omega))
     ·exact .inl e
     ·exact .inr (.inl e)
    have hfr:Ft c (NWk (some ⟨b,0,none⟩) lb c) w w7:=hA.fr.trans f7 (λq hq e=>by
     rcases e with ⟨x,hx,e⟩|e|e
     ·have:=(hR.hp x hx).2;omega
     ·exact .inr (.inl e)
     ·exact .inr (.inr e))
    refine⟨rfl,λhz=>⟨hA.env.ft s f7 hN,(g7 hz).1,(g7 hz).2,hfr⟩,λhz=>⟨n7 hz,hfr⟩⟩
   have K6:Hid (∀L' m w7,Ar5 wg B0 base lb sb c gb xl xa lo hi b w m L' w7->Calls prog 149 #[.pointer (some ⟨b,0,none⟩),.int .i64 2,.pointer (some ⟨xl,0,none⟩),.pointer (some ⟨xa,0,none⟩)] w7 λe w8=>e=.returned (.bool true)/\w8=w7):=λL' m w7 hA=>g1_rest 2 (.inr rfl) b c xl xa w7 hA.env.ax
   have K2:Hid (∀pl pr gl gr w3,Ar5 wg B0 base lb sb c gb xl xa lo hi b w (cnt+1) L1 w3->RightAt base b w hash over under par k v l r pl pr gr w3->LeftAt base w over k l pl pr gl w3->Calls prog 230 #[.pointer (some ⟨b,0,none⟩)] w3 λe w4=>e=.returned (.tuple #[.pointer pl,.pointer pr])/\Ar5 wg B0 base lb sb c gb xl xa lo hi b w (cnt+1) L1 w4/\RightAt base b w hash over under par k v l r pl pr gr w4/\LeftAt base w over k l pl pr gl w4):=λpl pr gl gr w3 hA hR hF=>by
    refine(subsB_any b hash over under par k v l r pl pr w3 hR.bf).mono ?_
    rintro e w4 ⟨rfl,hb4⟩
    exact⟨rfl,hA.below s hb4,hR.below hb4,hF.below hb4⟩
   have hm : ∀ w' : World, (method 427 166 (.pointer (some ⟨b, 0, none⟩)) "loop.example/s03048/impl.subtrees").run prog w' = .ok (230, .pointer (some ⟨b, 0, none⟩)) w' := fun _ => by kernel_rfl
   clear IL IR HB hLR hRR hfe hE hP hL hS hB hcl hll okk okv okl okr hC hfit HF HR hfo hl1 hln
   by_cases hl0:LR.1=0
   ·rw[if_neg (λh=>h hl0)]
    rw[decide_eq_true hl0] at K3
    have K3':Hid (∀pl pr gl gr w4,Ar5 wg B0 base lb sb c gb xl xa lo hi b w (cnt+1) L1 w4->RightAt base b w hash over under par k v l r pl pr gr w4->LeftAt base w over k l pl pr gl w4->Calls prog 147 #[.pointer pl,into5 gb c,atV xl xa] w4 λe w5=>e=.returned (.bool true)/\Ar5 wg B0 base lb sb c gb xl xa lo hi b w LR.2.1 (L1++LX) w5/\RightAt base b w hash over under par k v l r pl pr gr w5):=λpl pr gl gr w4 h1 h2 h3=>by
     refine(K3.out pl pr gl gr w4 h1 h2 h3).mono ?_
     rintro e w5 ⟨he5,h5,_⟩
     exact⟨he5,h5 hl0⟩
    by_cases hr0:RR.1=0
    ·rw[if_neg (λh=>h hr0)]
     rw[decide_eq_true hr0] at K5
     have HP:Hid (∀X w8,Ar5 wg B0 base lb sb c gb xl xa lo hi b w RR.2.1 (L1++LX++RX) w8->WP5 lb sb c L (NWk (some ⟨b,0,none⟩) lb c) w (0,RR.2.1,X) FX (.returned (.bool true)) w8):=λX w8 hA=>⟨rfl,hA.fr,λ_=>⟨hA.ld,by rw[hfin];exact hA.ls⟩,λh=>absurd rfl h⟩
     have K5':Hid (∀pl pr gr w6,Ar5 wg B0 base lb sb c gb xl xa lo hi b w LR.2.1 (L1++LX) w6->RightAt base b w hash over under par k v l r pl pr gr w6->Calls prog 147 #[.pointer pr,into5 gb c,atV xl xa] w6 λe w7=>e=.returned (.bool true)/\Ar5 wg B0 base lb sb c gb xl xa lo hi b w RR.2.1 (L1++LX++RX) w7):=λpl pr gr w6 h1 h2=>by
      refine(K5.out pl pr gr w6 hl0 h1 h2).mono ?_
      rintro e w7 ⟨he7,h7,_⟩
      exact⟨he7,h7 hr0⟩
     generalize LR.2.2++(if hasW lo hi k=true then [(k,v)] else [])++RR.2.2=PX
     clear K3 K5 hl0 hr0 hfin
     go_enter func147,ntmps147
     go_wp2_with (first|(go_at_call 108;refine HI.mono ?_;rintro e w2 ⟨rfl,hb2⟩)|(go_at_call_of 149 (Value.int .i64 0);refine(K1.out _ hb2).mono ?_;rintro e w3 ⟨rfl,pl,pr,gl,gr,hA3,hR3,hF3⟩)|(go_at_call 230;refine(K2.out _ _ _ _ _ hA3 hR3 hF3).mono ?_;rintro e w4 ⟨rfl,hA4,hR4,hF4⟩)|(go_at_call_of 147 (Value.pointer pl);refine(K3'.out _ _ _ _ _ hA4 hR4 hF4).mono ?_;rintro e w5 ⟨rfl,hA5,hR5⟩)|(go_at_call_of 149 (Value.int .i64 1);refine(K4.out _ _ _ hA5).mono ?_;rintro e w6 ⟨rfl,rfl⟩)|(go_at_call_of 147 (Value.pointer pr);refine(K5'.out _ _ _ _ hA5 hR5).mono ?_;rintro e w7 ⟨rfl,hA7⟩)|(go_at_call_of 149 (Value.int .i64 2);refine(K6.out _ _ _ hA7).mono ?_;rintro e w8 ⟨rfl,rfl⟩))
     go_ret
     exact HP.out _ _ hA7
    ·rw[if_pos hr0]
     rw[decide_eq_false hr0] at K5
     have K5':Hid (∀pl pr gr w6,Ar5 wg B0 base lb sb c gb xl xa lo hi b w LR.2.1 (L1++LX) w6->RightAt base b w hash over under par k v l r pl pr gr w6->Calls prog 147 #[.pointer pr,into5 gb c,atV xl xa] w6 λe w7=>e=.returned (.bool false)/\WP5 lb sb c L (NWk (some ⟨b,0,none⟩) lb c) w (RR.1,0,[]) FX (.returned (.bool false)) w7):=λpl pr gr w6 h1 h2=>by
      refine(K5.out pl pr gr w6 hl0 h1 h2).mono ?_
      rintro e w7 ⟨he7,_,h7⟩
      exact⟨he7,by rw[decide_eq_false hr0],(h7 hr0).2,λh=>absurd h hr0,λ_=>(h7 hr0).1⟩
     clear K3 K5 hl0 hr0 K6 hfin
     go_enter func147,ntmps147
     go_wp2_with (first|(go_at_call 108;refine HI.mono ?_;rintro e w2 ⟨rfl,hb2⟩)|(go_at_call_of 149 (Value.int .i64 0);refine(K1.out _ hb2).mono ?_;rintro e w3 ⟨rfl,pl,pr,gl,gr,hA3,hR3,hF3⟩)|(go_at_call 230;refine(K2.out _ _ _ _ _ hA3 hR3 hF3).mono ?_;rintro e w4 ⟨rfl,hA4,hR4,hF4⟩)|(go_at_call_of 147 (Value.pointer pl);refine(K3'.out _ _ _ _ _ hA4 hR4 hF4).mono ?_;rintro e w5 ⟨rfl,hA5,hR5⟩)|(go_at_call_of 149 (Value.int .i64 1);refine(K4.out _ _ _ hA5).mono ?_;rintro e w6 ⟨rfl,rfl⟩)|(go_at_call_of 147 (Value.pointer pr);refine(K5'.out _ _ _ _ hA5 hR5).mono ?_;rintro e w7 ⟨rfl,hA7⟩))
     go_ret
     exact hA7
   ·rw[if_pos hl0]
    rw[decide_eq_false hl0] at K3
    have K3':Hid (∀pl pr gl gr w4,Ar5 wg B0 base lb sb c gb xl xa lo hi b w (cnt+1) L1 w4->RightAt base b w hash over under par k v l r pl pr gr w4->LeftAt base w over k l pl pr gl w4->Calls prog 147 #[.pointer pl,into5 gb c,atV xl xa] w4 λe w5=>e=.returned (.bool false)/\WP5 lb sb c L (NWk (some ⟨b,0,none⟩) lb c) w (LR.1,0,[]) FX (.returned (.bool false)) w5):=λpl pr gl gr w4 h1 h2 h3=>by
     refine(K3.out pl pr gl gr w4 h1 h2 h3).mono ?_
     rintro e w5 ⟨he5,_,h5⟩
     exact⟨he5,by rw[decide_eq_false hl0],(h5 hl0).2,λh=>absurd h hl0,λ_=>(h5 hl0).1⟩
    clear K3 K5 K4 hl0 K6 hfin
    go_enter func147,ntmps147
    go_wp2_with (first|(go_at_call 108;refine HI.mono ?_;rintro e w2 ⟨rfl,hb2⟩)|(go_at_call_of 149 (Value.int .i64 0);refine(K1.out _ hb2).mono ?_;rintro e w3 ⟨rfl,pl,pr,gl,gr,hA3,hR3,hF3⟩)|(go_at_call 230;refine(K2.out _ _ _ _ _ hA3 hR3 hF3).mono ?_;rintro e w4 ⟨rfl,hA4,hR4,hF4⟩)|(go_at_call_of 147 (Value.pointer pl);refine(K3'.out _ _ _ _ _ hA4 hR4 hF4).mono ?_;rintro e w5 ⟨rfl,hA5⟩))
    go_ret
    exact hA5
  ·rw[goF_code hskip hC]
   obtain⟨C,hCC⟩:=eX (codeF fnd hash over under pk (cnt+1))
   rw[hCC] at HB hC⊢
   have HP:Hid (∀X w0 w',Below w.heap.size w w0->Ft c (λq=>q=b\/q=lb\/q=c) w0 w'->LD lb sb (cnt+1) C w'->WP5 lb sb c L (NWk (some ⟨b,0,none⟩) lb c) w (C,0,[]) X (.returned (.bool false)) w'):=λX w0 w' hb0 f2 hL2=>⟨by rw[decide_eq_false hC],(Ft.of_below hb0).trans f2 (λq _ e=>by rcases e with e|e|e;exact .inl ⟨_,rfl,e⟩;exact .inr (.inl e);exact .inr (.inr e)),λh=>absurd h hC,λ_=>⟨_,hL2⟩⟩
   rw[decide_eq_false hC] at HB
   generalize prL fnd lo hi (f+1) hash over under=FX
   clear hCC hE hP hL hS hB HF HR
   go_enter func147,ntmps147
   go_wp2_with (first|(go_at_call 108;refine HI.mono ?_;rintro e w2 ⟨rfl,hb2⟩)|(go_at_call 149;refine(HB.out _ hb2).mono ?_;rintro e w3 ⟨rfl,f3,hL3,_⟩))
   go_ret
   exact HP.out _ _ _ hb2 f3 hL3
theorem gt5_bad (sb gb c wd:Nat)(root:ByteArray)(v0 v2:Value)(w:World)(hb:w.heap[sb]?=some (.cells #[v0,.int .i64 (wd:Int),v2] 194))(hr:root.size<=1048576)(hk:hashOk root.size (wd:Int)=false) : Calls prog 111 #[.pointer (some ⟨sb,0,none⟩),.string root,into5 gb c,at5 c] w λe w'=>e=.returned (.int .i64 1)/\Below w.heap.size w w':=by
 have HV:=λw'=>qbF root (wd:Int) w' hr;rw[hk] at HV;have hA:=bA w (.cells #[at5 c] 171);have c1:(w.alloc (.cells #[at5 c] 171)).cell? ⟨sb,1,none⟩=some (.int .i64 (wd:Int)):=ZC ((hA.block sb (zG hb).1).trans hb) 1;go_enter func111,ntmps111;go_wp2_with (first|(go_at_call 95;refine(HV _).mono ?_;rintro e w2 ⟨rfl,rfl⟩));go_ret;exact⟨rfl,hA⟩
theorem gt5_ok (fnd:ByteArray->FN)(wd:Nat)(hfo:FndOk wd fnd)(hwd32:wd<=32)(wg:World)(B0 sb gb c:Nat)(lo hi root:ByteArray)(v0 v2:Value)(w:World)(hb:w.heap[sb]?=some (.cells #[v0,.int .i64 (wd:Int),v2] 194))(hr:root.size<=1048576)(hk:hashOk root.size (wd:Int)=true)(hsz:root.size=0\/root.size=wd)(hbw:Below B0 wg w)(hBc:B0<=c)(hBs:B0<=w.heap.size)(hgb:w.heap[gb]?=some (.cells #[.string lo,.string hi] 75))(hcb:Bld c [] w)(HF:Hid (∀ (hash:ByteArray) w',hash.size=wd->Below B0 wg w'->Calls prog 190 #[.pointer (some ⟨sb,0,none⟩),.string hash] w' λe w''=>e=.returned (nodeT (fnd hash))/\Below w'.heap.size w' w''))(HR:Hid (∀ (k:ByteArray) w',okKey k=true->Below B0 wg w'->Calls prog 166 #[Value.string k] w' λe w''=>e=.returned (.agg (rkL k).toArray)/\Below w'.heap.size w' w''))(R:Int × Nat × List PairT)(hRe:goF fnd hgW lo hi 501 root ⟨#[]⟩ ⟨#[]⟩ ⟨#[]⟩ 0=R) : Calls prog 111 #[.pointer (some ⟨sb,0,none⟩),.string root,into5 gb c,at5 c] w λe w'=>e=.returned (.int .i64 R.1)/\Ft c (λq=>q=c) w w'/\(R.1=0->Bld c (prL fnd lo hi 501 root ⟨#[]⟩ ⟨#[]⟩) w'):=by
 have HV:=λw'=>qbF root (wd:Int) w' hr;rw[hk] at HV;have hA:=bA w (.cells #[at5 c] 171);have c1:(w.alloc (.cells #[at5 c] 171)).cell? ⟨sb,1,none⟩=some (.int .i64 (wd:Int)):=ZC ((hA.block sb (zG hb).1).trans hb) 1;go_enter func111,ntmps111;go_upto_region 4 with (first|(go_at_call 95;refine(HV _).mono ?_;rintro e w2 ⟨rfl,rfl⟩));have hgl:=(zG hgb).1;have hcl:=hcb.lt;have hW:Below w.heap.size w (((w.alloc (.cells #[at5 c] 171)).alloc (.cells #[.pointer (some ⟨sb,0,none⟩),.int .i64 0,.int .i64 0] 228)).alloc (.cells #[.pointer (some ⟨w.heap.size+1,0,none⟩)] 226)):=(((Below.refl _ _).alloc (Nat.le_refl _) _).alloc (by simp) _).alloc (by simp;omega) _;have nX:=heap_alloc_new ((w.alloc (.cells #[at5 c] 171)).alloc (.cells #[.pointer (some ⟨sb,0,none⟩),.int .i64 0,.int .i64 0] 228)) (.cells #[.pointer (some ⟨w.heap.size+1,0,none⟩)] 226);have nL0:((w.alloc (.cells #[at5 c] 171)).alloc (.cells #[.pointer (some ⟨sb,0,none⟩),.int .i64 0,.int .i64 0] 228)).heap[w.heap.size+1]?=some (.cells #[.pointer (some ⟨sb,0,none⟩),.int .i64 0,.int .i64 0] 228):=by
  have:=heap_alloc_new (w.alloc (.cells #[at5 c] 171)) (.cells #[.pointer (some ⟨sb,0,none⟩),.int .i64 0,.int .i64 0] 228);rw[World.size_alloc] at this;exact this
 have nL:=(Below.heap_alloc ((w.alloc (.cells #[at5 c] 171)).alloc (.cells #[.pointer (some ⟨sb,0,none⟩),.int .i64 0,.int .i64 0] 228)) (.cells #[.pointer (some ⟨w.heap.size+1,0,none⟩)] 226) (w.heap.size+1) (by simp)).trans nL0;clear nL0;have nA:=(Below.heap_alloc ((w.alloc (.cells #[at5 c] 171)).alloc (.cells #[.pointer (some ⟨sb,0,none⟩),.int .i64 0,.int .i64 0] 228)) (.cells #[.pointer (some ⟨w.heap.size+1,0,none⟩)] 226) w.heap.size (by simp;omega)).trans ((Below.heap_alloc (w.alloc (.cells #[at5 c] 171)) (.cells #[.pointer (some ⟨sb,0,none⟩),.int .i64 0,.int .i64 0] 228) w.heap.size (by simp)).trans (heap_alloc_new w (.cells #[at5 c] 171)));have hzW:(((w.alloc (.cells #[at5 c] 171)).alloc (.cells #[.pointer (some ⟨sb,0,none⟩),.int .i64 0,.int .i64 0] 228)).alloc (.cells #[.pointer (some ⟨w.heap.size+1,0,none⟩)] 226)).heap.size=w.heap.size+3:=by simp
 rw[World.size_alloc,World.size_alloc] at nX;generalize ((w.alloc (.cells #[at5 c] 171)).alloc (.cells #[.pointer (some ⟨sb,0,none⟩),.int .i64 0,.int .i64 0] 228)).alloc (.cells #[.pointer (some ⟨w.heap.size+1,0,none⟩)] 226)=W at hW nX nL nA hzW⊢;obtain⟨S,hS⟩:=eX (w.heap.size);have nc:Bld c [] W:=hcb.below hW;have ng:W.heap[gb]?=some (.cells #[.string lo,.string hi] 75):=(hW.block gb hgl).trans hgb;have hst:Stc B0 (S+3) (S+1) c gb (S+1+1) S:=by
  rw[hS] at hgl hcl hBs;obtain⟨bcs,hbt⟩:=nc.ty;have hne:gb ≠ c:=qai ng hbt (by decide);exact⟨by omega,by omega,by omega,by omega,by omega,by omega,by omega,by omega,by omega,by omega,by omega,by omega,by omega,hne,by omega⟩
 have hbW:Below B0 wg W:=hbw.trans (hW.mono hBs);rw[hS] at nX nL nA hzW;have hEn:Env5 wg B0 (S+3) (S+1) c gb (S+1+1) S lo hi W:=⟨nX,nA,ng,hbW,by omega⟩;have hLn:LD (S+1) sb 0 0 W:=nL;have HB:=qdA root ⟨#[]⟩ ⟨#[]⟩ none W;have HW:Hid (∀p w3,LinkAt root ⟨#[]⟩ ⟨#[]⟩ none p w3->(∀q,p=some q->W.heap.size<=q.block)->Below W.heap.size W w3->Calls prog 147 #[.pointer p,into5 gb c,atV (S+1+1) S] w3 λe w'=>(∃x,e=.returned (.bool x))/\w'.cell? ⟨S+1+1,0,none⟩=some (.pointer (some ⟨S+1,0,none⟩))/\w'.cell? ⟨S+1,2,none⟩=some (.int .i64 R.1)/\Ft c (λq=>q=c) w w'/\(R.1=0->Bld c (prL fnd lo hi 501 root ⟨#[]⟩ ⟨#[]⟩) w')):=λp w3 hl hp hb3=>by
  refine(walk5_any fnd wd hfo hwd32 wg B0 (S+3) (S+1) sb c gb (S+1+1) S lo hi hst HF HR 501 root ⟨#[]⟩ ⟨#[]⟩ ⟨#[]⟩ none p 0 [] w3 (hEn.below hst hb3) hl (.inl ⟨rfl,rfl⟩) (hLn.below hb3) (nc.below hb3) (λq hq=>by have:=hp q hq;omega) hsz (by omega) (by omega) (Nat.le_refl _)).mono ?_;rw[hRe];rintro e w' ⟨rfl,f',g',n'⟩;have hE':=(hEn.below hst hb3).ft hst f' (λq hq=>by
   rcases hq with ⟨x,hx,e⟩|e|e
   ·have:=hp x hx;exact .inr (.inr (by omega))
   ·exact .inl e
   ·exact .inr (.inl e))
  have hld:∃m,LD (S+1) sb m R.1 w':=by
   by_cases h0:R.1=0
   ·rw[h0];exact⟨_,(g' h0).1⟩
   ·exact n' h0
  obtain⟨m,hld⟩:=hld;refine⟨⟨_,rfl⟩,ZC hE'.bx 0,ZC hld 2,?_,λh0=>?_⟩
  ·refine((Ft.of_below (base:=c) (N:=λq=>q=c) hW).trans (Ft.of_below (N:=λq=>q=c) hb3) (λ_ _ x=>x)).trans f' (λq hq hx=>?_);rcases hx with ⟨x,hx,e⟩|e|e
   ·have:=hp x hx;omega
   ·omega
   ·exact e
  ·exact(g' h0).2
 clear hEn hLn nX nL nA nc ng hgl hcl hbW HF HR hcb;go_wp2_with (first|(go_at_call 148;refine HB.mono ?_;rintro e w3 ⟨p,rfl,hl3,hp3,hb3⟩)|(go_at_call 147;refine(HW.out _ _ hl3 hp3 hb3).mono ?_;rintro e w4 ⟨⟨x,rfl⟩,d1,d2,d3⟩));go_ret;exact⟨rfl,d3⟩
def proveX (fnd:ByteArray->FN) (wd:Nat) (root lo hi:ByteArray):ByteArray × Int :=
 if hashOk root.size (wd:Int)=true then
  if (goF fnd hgW lo hi 501 root ⟨#[]⟩ ⟨#[]⟩ ⟨#[]⟩ 0).1=0 then (⟨(prL fnd lo hi 501 root ⟨#[]⟩ ⟨#[]⟩).toArray⟩,0) else (⟨#[]⟩,(goF fnd hgW lo hi 501 root ⟨#[]⟩ ⟨#[]⟩ ⟨#[]⟩ 0).1)
 else (⟨#[]⟩,1)
theorem prove_any (fnd:ByteArray->FN)(wd:Nat)(hfo:FndOk wd fnd)(hwd32:wd<=32)(sb:Nat)(lo hi root:ByteArray)(v0 v2:Value)(w:World)(hb:w.heap[sb]?=some (.cells #[v0,.int .i64 (wd:Int),v2] 194))(hr:root.size<=1048576)(HF:Hid (∀ (hash:ByteArray) w',hash.size=wd->Below w.heap.size w w'->Calls prog 190 #[.pointer (some ⟨sb,0,none⟩),.string hash] w' λe w''=>e=.returned (nodeT (fnd hash))/\Below w'.heap.size w' w''))(HR:Hid (∀ (k:ByteArray) w',okKey k=true->Below w.heap.size w w'->Calls prog 166 #[Value.string k] w' λe w''=>e=.returned (.agg (rkL k).toArray)/\Below w'.heap.size w' w'')) : Calls prog 53 #[.pointer (some ⟨sb,0,none⟩),.string root,.agg #[.string lo,.string hi]] w λe w'=>e=.returned (.tuple #[.string (proveX fnd wd root lo hi).1,.int .i64 (proveX fnd wd root lo hi).2])/\Below w.heap.size w w':=by
 have hXe:proveX fnd wd root lo hi=proveX fnd wd root lo hi:=rfl
 conv at hXe=>rhs;unfold proveX
 obtain⟨R,hR⟩:=eX (goF fnd hgW lo hi 501 root ⟨#[]⟩ ⟨#[]⟩ ⟨#[]⟩ 0);rw[hR] at hXe;have hW:Below w.heap.size w ((w.alloc (.cells #[.string lo,.string hi] 75)).alloc (.cells #[.pointer none,.slice none 0 0] 165)):=((Below.refl _ _).alloc (Nat.le_refl _) _).alloc (by simp) _;have nC:=fresh_bld1 w (.cells #[.string lo,.string hi] 75);have nG:=(Below.heap_alloc (w.alloc (.cells #[.string lo,.string hi] 75)) (.cells #[.pointer none,.slice none 0 0] 165) w.heap.size (by simp)).trans (heap_alloc_new w (.cells #[.string lo,.string hi] 75));have hzW:((w.alloc (.cells #[.string lo,.string hi] 75)).alloc (.cells #[.pointer none,.slice none 0 0] 165)).heap.size=w.heap.size+2:=by simp
 have hbW:=(hW.block sb (zG hb).1).trans hb;cases hk:hashOk root.size (wd:Int) with
 | false =>
  rw[hk,if_neg (by decide)] at hXe;rw[hXe];have HG:=gt5_bad sb w.heap.size (w.heap.size+1) wd root v0 v2 _ hbW hr hk;have HQ:Hid (∀w2,Below ((w.alloc (.cells #[.string lo,.string hi] 75)).alloc (.cells #[.pointer none,.slice none 0 0] 165)).heap.size ((w.alloc (.cells #[.string lo,.string hi] 75)).alloc (.cells #[.pointer none,.slice none 0 0] 165)) w2->Below w.heap.size w w2):=λw2 hb2=>hW.trans (hb2.mono hW.size);clear HF HR hR hzW nC nG hbW hW hb hXe;go_enter func53,ntmps53;go_wp2_with (first|(go_at_call 111;refine HG.mono ?_;rintro e w2 ⟨rfl,hb2⟩;replace hb2:=HQ.out _ hb2));go_ret2;exact⟨rfl,hb2⟩
 | true =>
  rw[hk,if_pos rfl] at hXe;have hsz:root.size=0\/root.size=wd:=by
   unfold hashOk at hk;rcases(Bool.or_eq_true _ _).mp hk with h|h
   ·exact .inl (of_decide_eq_true h)
   ·exact .inr (by have:=of_decide_eq_true h;omega)
  have HG:=gt5_ok fnd wd hfo hwd32 w w.heap.size sb w.heap.size (w.heap.size+1) lo hi root v0 v2 _ hbW hr hk hsz hW (by omega) hW.size nG nC HF HR R hR;have HQ:Hid (∀w2,Ft (w.heap.size+1) (λq=>q=w.heap.size+1) ((w.alloc (.cells #[.string lo,.string hi] 75)).alloc (.cells #[.pointer none,.slice none 0 0] 165)) w2->Below w.heap.size w w2):=λw2 hf=>hW.trans (hf.below (by omega) (λq e=>by omega) hW.size);by_cases h0:R.1=0
  ·rw[if_pos h0] at hXe;rw[hXe];rw[h0] at HG;generalize prL fnd lo hi 501 root ⟨#[]⟩ ⟨#[]⟩=X at HG hXe⊢;have HS:Hid (∀w2,Bld (w.heap.size+1) X w2->Below w.heap.size w w2->Calls prog 114 #[.pointer (some ⟨w.heap.size+1,0,none⟩)] w2 λe w'=>e=.returned (.string ⟨X.toArray⟩)/\Below w.heap.size w w'):=λw2 h2 hb2=>by
    refine(bstring _ _ w2 h2).mono ?_;rintro e w' ⟨rfl,hb3⟩;exact⟨rfl,hb2.trans (hb3.mono (by omega))⟩
   clear HF HR hR hzW nC nG hbW hW hb h0 hXe;go_enter func53,ntmps53;go_wp2_with (first|(go_at_call 111;refine HG.mono ?_;rintro e w2 ⟨rfl,hf2,hl2⟩;replace hl2:=hl2 (by trivial);replace hf2:=HQ.out _ hf2)|(go_at_call 114;refine(HS.out _ hl2 hf2).mono ?_;rintro e w3 ⟨rfl,hb3⟩));go_ret2;exact⟨rfl,hb3⟩
  ·rw[if_neg h0] at hXe;rw[hXe];clear HF HR hR hzW nC nG hbW hW hb hXe;go_enter func53,ntmps53;go_wp2_with (first|(go_at_call 111;refine HG.mono ?_;rintro e w2 ⟨rfl,hf2,hl2⟩;replace hf2:=HQ.out _ hf2));go_ret2;exact⟨rfl,hf2⟩
def proveM (fnd:ByteArray->FN) (n:Int) (m:Nat) (root lo hi:ByteArray):ByteArray × Int :=
 if poolOk n m=true then proveX fnd n.toNat root lo hi else (⟨#[]⟩,1)
theorem iprove_any (HH:Hid (HashSaid KT))(D:Dec)(n:Int)(HD:Hid (∀wd:Nat,(wd:Int)=n->1<=wd->wd<=32->DecSaid 198 wd D))(hdo:∀wd:Nat,(wd:Int)=n->DecOk wd D)(a:Option Addr)(ss:List ByteArray)(c:Nat)(root lo hi:ByteArray)(w:World)(h:SArg a ss w)(hK:KT w)(hr:root.size<=1048576) : Calls prog 14 #[.agg #[.int .i64 n,.slice a ss.length c],.string root,.string lo,.string hi] w λe w'=>e=.returned (.tuple #[.string (proveM (fndD D n.toNat ss) n ss.length root lo hi).1,.int .i64 (proveM (fndD D n.toNat ss) n ss.length root lo hi).2])/\Below w.heap.size w w':=by
 have HV:=λw'=>qcS n a ss.length c w' h.le;have hA:∀m:Int,Below w.heap.size w (w.alloc (.cells #[.int .i64 m,.slice a ss.length c] 31)):=λm=>(Below.refl _ _).alloc (Nat.le_refl _) _;cases hp:poolOk n ss.length with
 | false =>
  have hX:proveM (fndD D n.toNat ss) n ss.length root lo hi=(⟨#[]⟩,1):=by unfold proveM;rw[if_neg (by rw[hp];decide)]
  rw[hX];rw[hp] at HV;have hA:=hA n;clear HH HD h hK hX;go_enter func14,ntmps14;go_wp2_with (first|(go_at_call 52;refine(HV _).mono ?_;rintro e w1 ⟨rfl,hb1⟩));go_ret2;exact⟨rfl,hA.trans (hb1.mono hA.size)⟩
 | true =>
  rw[hp] at HV;have hp':1<=n/\n<=32/\ss.length<=20000:=of_decide_eq_true hp;obtain⟨wd,rfl⟩:∃wd:Nat,n=(wd:Int):=⟨n.toNat,by omega⟩;have hX:proveM (fndD D (wd:Int).toNat ss) (wd:Int) ss.length root lo hi=proveX (fndD D wd ss) wd root lo hi:=by unfold proveM;rw[if_pos hp,Int.toNat_natCast]
  rw[hX];have HS:Hid (∀w',Below w.heap.size w w'->Calls prog 54 #[.agg #[.int .i64 (wd:Int),.slice a ss.length c]] w' λe w''=>∃sb r a' c',e=.returned (.pointer (some ⟨sb,0,none⟩))/\StockAt sb r (sb+1) wd ss a' c' w''/\Below w'.heap.size w' w''):=λw' hb=>stockOf_any HH (λw1 w2 h1 hb=>KT.below h1 hb) wd a ss c w' (h.below hb) (hK.below hb) (by omega);have HW:Hid (∀w1 sb r a' c',Below w.heap.size w w1->StockAt sb r (sb+1) wd ss a' c' w1->Calls prog 53 #[.pointer (some ⟨sb,0,none⟩),.string root,.agg #[.string lo,.string hi]] w1 λe w'=>e=.returned (.tuple #[.string (proveX (fndD D wd ss) wd root lo hi).1,.int .i64 (proveX (fndD D wd ss) wd root lo hi).2])/\Below w.heap.size w w'):=λw1 sb r a' c' hb1 hs=>by
   refine(prove_any (fndD D wd ss) wd (qdz D wd ss (hdo wd rfl)) (by omega) sb lo hi root _ _ w1 hs.blk hr (λhash w' hh hb'=>stockFind_any D sb r (sb+1) wd (HD.out wd rfl (by omega) (by omega)) ss a' c' hash w' (hs.below hb') h.sz (by have:=h.le;omega) (by omega) hh) (λk w' hk hb'=>rank_any k w' (by unfold okKey at hk;have:=of_decide_eq_true hk;omega) ((hK.below hb1).below hb'))).mono ?_;rintro e w' ⟨he,hb'⟩;exact⟨he,hb1.trans (hb'.mono hb1.size)⟩
  generalize proveX (fndD D wd ss) wd root lo hi=X at HW⊢;have hA:=hA (wd:Int);have nA:=heap_alloc_new w (.cells #[.int .i64 (wd:Int),.slice a ss.length c] 31);clear HH HD h hK hX hp hp';go_enter func14,ntmps14;go_wp2_with (first|(go_at_call 52;refine(HV _).mono ?_;rintro e w1 ⟨rfl,hb1⟩;have nA1:=(hb1.block w.heap.size (by simp)).trans nA;have d0:=ZC nA1 0;have d1:=ZC nA1 1;clear nA1;replace hb1:=hA.trans (hb1.mono hA.size))|(go_at_call 54;refine(HS.out _ hb1).mono ?_;rintro e w2 ⟨sb,r,a2,c2,rfl,hs2,hb2⟩;replace hb2:=hb1.trans (hb2.mono hb1.size))|(go_at_call 53;refine(HW.out _ _ _ _ _ hb2 hs2).mono ?_;rintro e w3 ⟨rfl,hb3⟩));go_ret2;exact⟨rfl,hb3⟩
end Go.Proofs.YtibjhkpgaaapaaaGreatDoor
