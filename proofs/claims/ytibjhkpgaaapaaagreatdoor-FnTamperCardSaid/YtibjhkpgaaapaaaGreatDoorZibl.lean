import Derived.Test.YtibjhkpgaaapaaaGreatDoorZibk
import Derived.Test.YtibjhkpgaaapaaaGreatDoorZibj
import Derived.Test.YtibjhkpgaaapaaaGreatDoorZibi
set_option maxRecDepth 100000
set_option maxHeartbeats 4000000
namespace Go.Proofs.YtibjhkpgaaapaaaGreatDoor
open Go.RowKit Go.Proofs.Sha Tryz
structure SmR (ps:List PairT) (n:Nat):Prop where
 len:ps.length<=n
 sz:∀q ∈ ps,q.1.size<=70/\q.2.size<=300
theorem SmR.drop {ps:List PairT}{n:Nat}(h:SmR ps n)(j:Nat):SmR (ps.drop j) n:=⟨by have:=h.len;rw[List.length_drop];omega,λq hq=>h.sz q (List.mem_of_mem_drop hq)⟩
def DpG (w:World) (e:Ending) (w':World):Prop:=∃ (wd:Nat) (root lo hi proof:ByteArray) (ps:List PairT) (a':Option Addr) (c' y:Nat),
 e=.returned (.tuple #[.int .i64 (wd:Int),.string root,.string lo,.string hi,.string proof,.slice a' ps.length c',.int .i64 (y:Int)])/\(1<=wd/\wd<=32)/\root.size<=32/\lo.size<=80/\hi.size<=80/\proof.size<=33640/\SmR ps 14/\PArg a' ps w'/\ps.length<=c'/\y<=1000/\Below w.heap.size w w'
theorem saveO_nil (wd:Nat)(h1:1<=wd)(h2:wd<=32):(saveO (wd:Int) [] []).cd=0:=by
 unfold saveO;have hp:poolOk (wd:Int) ([]:List ByteArray).length=true:=decide_eq_true ⟨by omega,by omega,by decide⟩;have hm:isMapT []=true:=by decide
 rw[hp,hm,Bool.and_self,if_pos rfl,Int.toNat_natCast];have hc:cutTree []=.nil:=by rw[cutTree,dif_neg (by decide)]
 rw[hc];rfl
structure SvB (gs:Nat) (o:SvO) (a:Option Addr) (c:Nat) (W:World):Prop where
 nb:W.heap[gs]?=some (.cells #[.int .i64 o.cd,.int .i64 o.n,.slice a o.xs.length c,.string o.root,.string o.x,.string o.y] 56)
 sa:SArg a o.xs W
theorem OwnT.far {w W:World}{xs:List ByteArray}{a:Option Addr}{m c:Nat}(h:OwnT w xs a m c W):∀b off,a=some (⟨b,off,none⟩:Addr)->0<xs.length->w.heap.size<=b:=λb off e h0=>by
 have hl:=h.len;rcases h.own.2 with ⟨e1,h1⟩|⟨g,cap',cur,e1,hb,_⟩
 ·omega
 ·simp only[Value.slice.injEq] at e1;obtain⟨rfl,_,_⟩:=e1;cases e;exact hb
theorem qaX (a:Option Addr)(xs:List Nat)(cap p:Nat)(hX:Code8 xs)(hp:p<=100)(w:World)(hB:BL a xs w)(HDg:Hid DigSaid):Calls prog 59 #[.slice a xs.length cap,.int .i64 (p:Int)] w (DpG w):=by
 obtain⟨wd,hwd,HWd'⟩:=width_det a xs cap p hX (by omega);obtain⟨m,hm⟩:∃m:Nat,(if 14<2+xs.length / 8 then 14 else 2+xs.length / 8)=m:=⟨_,rfl⟩;have hm14:m<=14:=by rw[<-hm];split <;> omega
 have HC':=λw'=>count_any a xs.length cap 8 2 14 w' (by omega) hX.le (by omega) (by omega);rw[hm] at HC';obtain⟨ps,hps,HM'⟩:=map_det a xs cap (p+1) m hX (by omega) (by omega);obtain⟨lo,hi,hlh,HBd'⟩:=bounds_det a xs cap (p+1+3*m) hX (by omega);have HWd0:∀w',Below w.heap.size w w'->Calls prog 73 #[.slice a xs.length cap,.int .i64 (p:Int)] w' λe w''=>e=.returned (.tuple #[.int .i64 (wd:Int),.int .i64 ((p+1:Nat):Int)])/\Below w'.heap.size w' w'':=λw' hb=>HWd' w' (hB.below hb);have HC0:∀w',Calls prog 118 #[.slice a xs.length cap,.int .i64 8,.int .i64 2,.int .i64 14] w' λe w''=>e=.returned (.int .i64 (m:Int))/\w''=w':=HC';have HM0:∀w',Below w.heap.size w w'->Calls prog 117 #[.slice a xs.length cap,.int .i64 ((p+1:Nat):Int),.int .i64 (m:Int)] w' λe w''=>∃a' c',e=.returned (.tuple #[.slice a' ps.length c',.int .i64 ((p+1+3*m:Nat):Int)])/\OwnP w' ps a' ps.length c' w'':=λw' hb=>HM' w' (hB.below hb);have HBd0:∀w',Below w.heap.size w w'->Calls prog 77 #[.slice a xs.length cap,.int .i64 ((p+1+3*m:Nat):Int)] w' λe w''=>e=.returned (.tuple #[.string lo,.string hi,.int .i64 ((p+1+3*m+1+1+1:Nat):Int)])/\Below w'.heap.size w' w'':=λw' hb=>HBd' w' (hB.below hb);have hsm:Hid (SmallP ps):=hps.small (by omega);have hR:SmR ps 14:=⟨Nat.le_trans hps.len hm14,hps.sz⟩;obtain⟨sv,hsv⟩:∃sv:List PairT->SvO,∀qs,saveO (wd:Int) [] qs=sv qs:=⟨_,λ_=>rfl⟩;have HS:Hid (∀a1 c1 (qs:List PairT) w',PArg a1 qs w'->qs.length<=c1->Calls prog 33 #[.agg #[.int .i64 (wd:Int),.slice none 0 0],.slice a1 qs.length c1] w' (SavedIs (sv qs) w')):=λa1 c1 qs w' h2 hc=>by
  rw[<-hsv];exact qce HDg (wd:Int) none [] 0 a1 qs c1 w' ⟨Nat.zero_le _,λj=>Nat.zero_le _,λq=>absurd q (Nat.lt_irrefl _)⟩ (λj=>Nat.zero_le _) h2 hc
 have HF:Hid (∀qs:List PairT,qs.length<=14->SmT (sv qs).xs 100 10000/\(sv qs).root.size<=32):=λqs hq=>by
  rw[<-hsv];have:=qdq wd hwd.1 hwd.2 qs (by omega);exact⟨this.1,this.2.1⟩
 have HN:Hid ((sv []).cd=0):=by
  show _=_;rw[<-hsv];exact saveO_nil wd hwd.1 hwd.2
 have HP:Hid (∀ (qs:List PairT),qs.length<=14->∃pf:ByteArray,pf.size<=33640/\∃q:Int,∀a1 c1 w',SArg a1 (sv qs).xs w'->Calls prog 12 #[.agg #[.int .i64 (sv qs).n,.slice a1 (sv qs).xs.length c1],.string (sv qs).root,.string lo,.string hi] w' λe w''=>e=.returned (.tuple #[.string pf,.int .i64 q])/\Below w'.heap.size w' w''):=λqs hq=>by
  rw[<-hsv];obtain⟨f1,f2,f3⟩:=qdq wd hwd.1 hwd.2 qs (by omega);obtain⟨D,d1,_,d3,d4⟩:=qdh (saveO (wd:Int) [] qs).n;refine⟨_,?_,_,λa1 c1 w' hs=>sprove_any HDg D _ d3 d1 a1 _ c1 _ lo hi w' hs (λj=>by have:=f1.getD j;omega) (by omega) (by omega) (by omega)⟩;have:=f3 D d1 d4 lo hi;omega
 obtain⟨L,hL⟩:=eX (xs.length);obtain⟨q1,hq1⟩:∃q,p+1=q:=⟨_,rfl⟩;rw[hq1] at HWd0 HM0 HBd0;obtain⟨q2,hq2⟩:∃q,q1+3*m=q:=⟨_,rfl⟩;rw[hq2] at HM0 HBd0;obtain⟨q3,hq3⟩:∃q,q2+1+1+1=q:=⟨_,rfl⟩;rw[hq3] at HBd0;have hy:q3<=1000:=by omega
 rw[hL] at HWd0 HM0 HBd0 HC0⊢;have HWd:Hid _:=HWd0;have HM:Hid _:=HM0;have HBd:Hid _:=HBd0;have HC:Hid _:=HC0;clear HWd' HC' HM' HBd' HWd0 HM0 HBd0 HC0 hps HDg hm hsv hB hX hq1 hq2 hq3 hp hL hm14;have hw32:wd<=32:=hwd.2;go_enter func59,ntmps59;go_upto_region 2 with (first|(go_at_call 73;refine(HWd.out _ (Below.refl _ _)).mono ?_;rintro e w1 ⟨rfl,hb1⟩));go_upto_region 3 with (first|(go_at_call 118;refine(HC.out _).mono ?_;rintro e w1' ⟨rfl,rfl⟩)|(go_at_call 117;refine(HM.out _ hb1).mono ?_;rintro e w2 ⟨a1,c1,rfl,hO1⟩));have hP1:=qau hO1 hsm.out;have hc1:=qaU hO1.own;have hb2:=hb1.trans (hO1.bel.mono hb1.size);clear hO1 HWd HC HM;go_upto_region 4 with (first|(go_at_call 77;refine(HBd.out _ hb2).mono ?_;rintro e w3 ⟨rfl,hb3'⟩));have hP3:=hP1.below hb3';have hb3:=hb2.trans (hb3'.mono hb2.size);clear hP1 hb3' hb2 hb1 HBd;have HF0:=HF.out ps hR.len;have HS0:=λ(_:Unit)=>HS.out a1 c1 ps w3 hP3 hc1;unfold SavedIs at HS0;obtain⟨o,ho⟩:=eX (sv ps);rw[ho] at HF0 HS0
 replace HS0:Hid _:=HS0
 have ho:Hid (sv ps=o):=ho;unfold svV at HS0;obtain⟨cd,n,ys,root,x,y⟩:=o;simp only at HF0 HS0;obtain⟨N,hN⟩:=eX (ys.length);rw[hN] at HS0;obtain⟨P,hPl⟩:=eX (ps.length);rw[hPl] at HS0
 try rw[hPl]
 go_upto_region 5 with (first|(go_at_call 33;refine(HS0.out ()).mono ?_;rintro e w4 ⟨a2,c2,rfl,hO2⟩));have al:=bA w4 (.cells #[.int .i64 cd,.int .i64 n,.slice a2 N c2,.string root,.string x,.string y] 56);have nS:=heap_alloc_new w4 (.cells #[.int .i64 cd,.int .i64 n,.slice a2 N c2,.string root,.string x,.string y] 56);have hb34:=hO2.bel.trans (al.mono hO2.bel.size);have hSB:SvB w4.heap.size (sv ps) a2 c2 (w4.alloc (.cells #[.int .i64 cd,.int .i64 n,.slice a2 N c2,.string root,.string x,.string y] 56)):=by
  rw[ho.out];refine⟨by rw[<-hN] at nS⊢;exact nS,?_⟩;have h1:=hO2;rw[<-hN] at h1;have hs:=HF0.1;exact(h1.sarg hs (by omega) (by omega)).below al
 have hP4:=hP3.below hb34;have hb4:=hb3.trans (hb34.mono hb3.size);have hgs:w3.heap.size<=w4.heap.size:=hO2.bel.size;have hgs0:w.heap.size<=w4.heap.size:=Nat.le_trans hb3.size hgs;have hbg:0<ps.length->∃b off,a1=some (⟨b,off,none⟩:Addr)/\b<w4.heap.size:=λh0=>by
  obtain⟨b,off,e,hb,_⟩:=hP3.at_ h0;exact⟨b,off,e,Nat.lt_of_lt_of_le hb hgs⟩
 generalize w4.alloc (.cells #[.int .i64 cd,.int .i64 n,.slice a2 N c2,.string root,.string x,.string y] 56)=w5 at hSB hP4 hb4⊢;obtain⟨gs,hgs'⟩:∃g,w4.heap.size=g:=⟨_,rfl⟩;rw[hgs'] at hSB hbg hgs0
 try rw[hgs']
 clear hgs' hgs al nS hO2 hb34 HF0 HS0 hN hP3 hb3 ho;have hsl:ps.length=P:=hPl
 replace hbg:Hid _:=hbg
 replace hPl:Hid _:=hPl
 have hPle:P<=14:=by have:=hR.len;omega
 clear hsl;go_upto_region 6 with fail;go_loopw [13,19] (λt13 t19 wr=>∃ (j:Nat) (a1:Option Addr) (c1:Nat) (qs:List PairT),t13=.slice a1 qs.length c1/\t19=.int .i64 ((wd+j:Nat):Int)/\j+qs.length=P/\SmR qs 14/\PArg a1 qs wr/\qs.length<=c1/\(0<qs.length->∃b off,a1=some (⟨b,off,none⟩:Addr)/\b<gs)/\(∃a c,SvB gs (sv qs) a c wr)/\Below w.heap.size w wr) (λ_ t19 _=>wd+P-(intOf t19).toNat)
 case atStart=>exact⟨0,a1,c1,ps,by rw[hPl.out],rfl,by rw[hPl.out];omega,hR,hP4,hc1,hbg.out,⟨a2,c2,hSB⟩,hb4⟩
 case round =>
  clear hSB hP4 hb4 hbg hc1 hR hsm hPl;obtain⟨j,a1,c1,qs,rfl,rfl,hjl,hR,hPa,hc1,hbg,⟨a2,c2,hSB⟩,hbw⟩:=hrel;have hF:=HF.out qs hR.len;by_cases hcd:(sv qs).cd=0
  ·obtain⟨pf,hpf,q,HPq⟩:=HP.out qs hR.len;have nb:=hSB.nb;have hsa:=hSB.sa;clear hSB;obtain⟨o,ho⟩:=eX (sv qs);rw[ho] at hF hcd HPq nb hsa;obtain⟨cd,n,ys,root,x,y⟩:=o;simp only at hF hcd HPq nb hsa;subst hcd;obtain⟨N,hN⟩:=eX (ys.length);rw[hN] at HPq nb;obtain⟨Q,hQ⟩:=eX (qs.length)
   try rw[hQ]
   have HP1:=λw' (hb:Below wr.heap.size wr w')=>HPq a2 c2 w' (hsa.below hb);have HP2:Hid _:=HP1;have HE:Hid (∀W,Below w.heap.size w W->Below wr.heap.size wr W->DpG w (.returned (.tuple #[.int .i64 (wd:Int),.string root,.string lo,.string hi,.string pf,.slice a1 Q c1,.int .i64 (q3:Int)])) W):=λW hb hb'=>⟨wd,root,lo,hi,pf,qs,a1,c1,q3,by rw[hQ],hwd,hF.2,hlh.1,hlh.2,hpf,hR,hPa.below hb',hc1,hy,hb⟩;clear HPq HP1 HP HF HS HN hF hPa hR hc1 hbg ho hsa;have s0:=ZC nb 0;have s1:=ZC nb 1;have s2:=ZC nb 2;have s3:=ZC nb 3;go_upto_region 11 with (first|(go_at_call 12;refine(HP2.out _ (Below.refl _ _)).mono ?_;rintro e w6 ⟨rfl,hb6⟩));have nb6:=qab hb6 nb;have t3:=ZC nb6 3;have hb7:=hbw.trans (hb6.mono hbw.size);clear s0 s1 s2 s3;go_region;have hdr:∀k,Below w6.heap.size w6 (w6.drewN k):=λk=>qaa k (Below.refl _ _);go_wp2_with fail;exact bodyPost_ret (v:=.tuple #[.int .i64 (wd:Int),.string root,.string lo,.string hi,.string pf,.slice a1 Q c1,.int .i64 (q3:Int)]) (by simp[results,Tryz.results59,go_sem]) rfl (HE.out _ (hb7.trans ((hdr _).mono hb7.size)) (hb6.trans ((hdr _).mono hb6.size)))
  ·have hq0:0<qs.length:=by
    rcases Nat.eq_zero_or_pos qs.length with h0|h0
    ·obtain rfl:=List.length_eq_zero_iff.1 h0;exact absurd HN.out hcd
    ·exact h0
   obtain⟨b,off,rfl,hblt⟩:=hbg hq0;obtain⟨x0,qs',rfl⟩:∃x0 qs',qs=x0 :: qs':=by cases qs with
    | nil=>cases hq0
    | cons x0 qs'=>exact⟨x0,qs',rfl⟩
   have hPd:=hPa.drop 1;have hRd:=hR.drop 1;simp only[List.drop_succ_cons,List.drop_zero] at hPd hRd;have nb:=hSB.nb;clear hSB;generalize sv (x0 :: qs')=o at hcd hF nb;obtain⟨cd,n,ys,root,x,y⟩:=o;simp only at hcd hF nb;have hF':=HF.out qs' hRd.len;rw[List.length_cons] at hjl hc1 hq0⊢;obtain⟨Q,hQ⟩:=eX (qs'.length);rw[hQ] at hjl hc1 hq0⊢;obtain⟨A,hA⟩:∃A:Option Addr,(if c1=1 then some (⟨b,off,none⟩:Addr) else some ⟨b,off+1*2,none⟩)=A:=⟨_,rfl⟩;have hPA:PArg A qs' wr:=by
    rw[<-hA];by_cases e:c1=1
    ·rw[if_pos e];have:qs'=[]:=List.length_eq_zero_iff.1 (by omega);rw[this];exact PArg.empty _ _
    ·rw[if_neg e];exact hPd
   have hAb:0<qs'.length->∃b off,A=some (⟨b,off,none⟩:Addr)/\b<gs:=λ_=>by
    rw[<-hA]
    split
    ·exact⟨b,off,rfl,hblt⟩
    ·exact⟨b,_,rfl,hblt⟩
   have HS0:=λ(_:Unit)=>HS.out A (c1-1) qs' wr hPA (by omega);unfold SavedIs at HS0;obtain⟨o',ho'⟩:∃o',sv qs'=o':=⟨_,rfl⟩;rw[ho'] at hF' HS0;have ho':Hid (sv qs'=o'):=ho'
   replace HS0:Hid _:=HS0
   unfold svV at HS0;obtain⟨cd',n',ys',root',x',y'⟩:=o';simp only at hF' HS0;obtain⟨N',hN'⟩:∃N,ys'.length=N:=⟨_,rfl⟩;rw[hN',hQ] at HS0;have hcd1:(cd == 0)=false:=(by rw[beq_eq_false_iff_ne];exact hcd);have hcd2:(cd != 0)=true:=(by rw[bne_iff_ne];exact hcd);have hq1:decide ((0:Int)<((Q+1:Nat):Int))=true:=(by apply decide_eq_true;omega);have hq2:decide ((0:Int)<(Q:Int)+1)=true:=(by apply decide_eq_true;omega);have z1:(1:Int)<=(Q:Int)+1:=(by omega);have z2:(Q:Int)+1<=(c1:Int):=(by omega);have s0:=ZC nb 0;clear HP HF hF hR HN hPa hPd;go_upto_region 9 with fail;have hglt:gs<wr.heap.size:=(zG nb).1;go_wp2_with (first|(go_at_call 33;refine(HS0.out ()).mono ?_;rintro e w7 ⟨a7,c7,rfl,hO7⟩;have nb7:=qab hO7.bel nb;have d0:=ZC nb7 0;have d1:=ZC nb7 1;have d2:=ZC nb7 2;have d3:=ZC nb7 3;have d4:=ZC nb7 4;have d5:=ZC nb7 5;have rf:∀j,w7.frozen? ⟨gs,j,none⟩=false:=(λj=>(by rw[World.frozen?,nb7];rfl))));have m0:=heap_setCell_same w7 gs 0 _ 56 (.int .i64 cd') nb7;have m1:=heap_setCell_same _ gs 1 _ 56 (.int .i64 n') m0;have m2:=heap_setCell_same _ gs 2 _ 56 (.slice a7 N' c7) m1;have m3:=heap_setCell_same _ gs 3 _ 56 (.string root') m2;have m4:=heap_setCell_same _ gs 4 _ 56 (.string x') m3;have m5:=heap_setCell_same _ gs 5 _ 56 (.string y') m4;have g5:=qad (qad (qad (qad (qad (qae w7 gs 0 (.int .i64 cd')) (qae _ gs 1 (.int .i64 n'))) (qae _ gs 2 (.slice a7 N' c7))) (qae _ gs 3 (.string root'))) (qae _ gs 4 (.string x'))) (qae _ gs 5 (.string y'));have hb8:=hbw.trans ((hO7.bel.mono hbw.size).trans (qah g5 hgs0 (Nat.le_trans hbw.size hO7.bel.size)));clear m0 m1 m2 m3 m4;generalize (((((w7.setCell ⟨gs,0,none⟩ (.int .i64 cd')).setCell ⟨gs,1,none⟩ (.int .i64 n')).setCell ⟨gs,2,none⟩ (.slice a7 N' c7)).setCell ⟨gs,3,none⟩ (.string root')).setCell ⟨gs,4,none⟩ (.string x')).setCell ⟨gs,5,none⟩ (.string y')=W8 at m5 g5 hb8⊢;have hP8:=(hPA.below hO7.bel).grown g5 (λb' off' e h0=>by
    obtain⟨b2,off2,e2,hlt⟩:=hAb h0
    rw[e] at e2
    cases e2
    intro q
    have:=Option.some.inj q
    omega)
   have hS8:SArg a7 ys' W8:=by
    have h1:=hO7;rw[<-hN'] at h1;have hs:=hF'.1;refine(h1.sarg hs (by omega) (by omega)).grown g5 (λb' off' e h0=>?_);have:=h1.far b' off' e h0;intro q;have:=Option.some.inj q;omega
   refine⟨⟨j+1,A,c1-1,qs',by rw[hQ],(by congr 1 <;> omega),by omega,hRd,hP8,by omega,hAb,⟨a7,c7,?_,?_⟩,hb8⟩,by simp only[intOf];omega⟩
   ·rw[ho'.out,hN'];exact m5
   ·rw[ho'.out];exact hS8
structure SmQ (ps:List PairT) (n:Nat):Prop where
 len:ps.length<=n
 sz:∀q ∈ ps,q.1.size<=300/\q.2.size<=2001
theorem SmQ.small {ps:List PairT}{n:Nat}(h:SmQ ps n)(hn:n<=100000):SmallP ps:=qbg (by have:=h.len;omega) (λq hq=>by have:=h.sz q hq;omega)
theorem SmQ.wth {ps:List PairT}{n:Nat}(h:SmQ ps n){k v:ByteArray}(hk:k.size<=70)(hv:v.size<=300):SmQ (wth ps k v) (n+1) :=
 ⟨by have:=wth_len ps k v;have:=h.len;omega,λq hq=>by
  rcases mem_ins' hq with e|e
  ·subst e;exact⟨Nat.le_trans hk (by omega),Nat.le_trans hv (by omega)⟩
  ·exact h.sz q (List.mem_filter.1 e).1⟩
theorem SmQ.wout {ps:List PairT}{n:Nat}(h:SmQ ps n)(k:ByteArray):SmQ (wout ps k) n :=
 ⟨Nat.le_trans (qdp ps k) h.len,λq hq=>h.sz q (List.mem_filter.1 hq).1⟩
theorem SmP.q {ps:List PairT}{n:Nat}(h:SmP ps n):SmQ ps n:=⟨h.len,λq hq=>by have:=h.sz q hq;omega⟩
theorem near2_det (a:Option Addr)(xs:List Nat)(cap p:Nat)(ps:List PairT)(M:Nat)(hX:Code8 xs)(hp:p<=70000)(hM:M<=1000)(hS:SmQ ps M) : ∃ (qs:List PairT) (z:Nat),(SmQ qs (M+3)/\p<=z/\z<=p+13)/\∀a3 c3 w,BL a xs w->PArg a3 ps w->ps.length<=c3->Calls prog 78 #[.slice a xs.length cap,.int .i64 (p:Int),.slice a3 ps.length c3] w (PGot qs ps z a3 w):=by
 obtain⟨kf,vf,hkv⟩:=kv_det a xs cap hX;obtain⟨af,haf⟩:=take3_det a xs cap 3 hX (by omega) (by omega);obtain⟨n,hn,Hn⟩:=qaP a xs cap p 4 hX (by omega) (by omega) (by omega);have hsm:∀i,i<=n->SmQ (nearD af kf vf p ps i) (M+i):=by
  intro i
  induction i with
  | zero=>intro _;exact hS
  | succ i ih =>
   intro hi;rw[nearD]
   split
   ·have:=(ih (by omega)).wout (kf (p+2+4*i));exact⟨by have:=this.len;omega,this.sz⟩
   ·exact(ih (by omega)).wth (hkv _ (by omega)).1 (hkv _ (by omega)).2.1
 have hq:=hsm n (Nat.le_refl _);refine⟨nearD af kf vf p ps n,p+1+4*n,⟨⟨by have:=hq.len;omega,hq.sz⟩,by omega,by omega⟩,λa3 c3 w hB hP hc3=>?_⟩;have HTk:Hid (∀i w',i<=n->Below w.heap.size w w'->Calls prog 58 #[.slice a xs.length cap,.int .i64 ((p+1+4*i:Nat):Int),.int .i64 ((3:Nat):Int)] w' λe w''=>e=.returned (.tuple #[.int .i64 (af (p+1+4*i):Int),.int .i64 ((p+1+4*i+1:Nat):Int)])/\Below w'.heap.size w' w''):=λi w' hi hb=>(haf (p+1+4*i) (by omega)).2 w' (hB.below hb);have Hn':=Hn w hB;have HK:Hid (∀i w',i<=n->Below w.heap.size w w'->Calls prog 135 #[.slice a xs.length cap,.int .i64 ((p+1+4*i+1:Nat):Int)] w' λe w''=>e=.returned (.tuple #[.string (kf (p+2+4*i)),.int .i64 ((p+3+4*i:Nat):Int)])/\Below w'.heap.size w' w''):=λi w' hi hb=>by
  have:=(hkv (p+2+4*i) (by omega)).2.2.1 w' (hB.below hb);rw[show p+2+4*i+1=p+3+4*i by omega,show p+2+4*i=p+1+4*i+1 by omega] at this;rw[show p+2+4*i=p+1+4*i+1 by omega];exact this
 have HV:Hid (∀i w',i<=n->Below w.heap.size w w'->Calls prog 136 #[.slice a xs.length cap,.int .i64 ((p+3+4*i:Nat):Int)] w' λe w''=>e=.returned (.tuple #[.string (vf (p+3+4*i)),.int .i64 ((p+1+4*(i+1):Nat):Int)])/\Below w'.heap.size w' w''):=λi w' hi hb=>by
  have:=(hkv (p+3+4*i) (by omega)).2.2.2 w' (hB.below hb);rw[show p+3+4*i+2=p+1+4*(i+1) by omega] at this;exact this
 have HW:Hid (∀i a3 c3 w',i<n->PArg a3 (nearD af kf vf p ps i) w'->(af (p+1+4*i)=0->Calls prog 137 #[.slice a3 (nearD af kf vf p ps i).length c3,.string (kf (p+2+4*i))] w' (PairsAt (nearD af kf vf p ps (i+1)) w'))/\(af (p+1+4*i) ≠ 0->Calls prog 86 #[.slice a3 (nearD af kf vf p ps i).length c3,.string (kf (p+2+4*i)),.string (vf (p+3+4*i))] w' (PairsAt (nearD af kf vf p ps (i+1)) w'))):=λi a3 c3 w' hi hP=>by
  refine⟨λh0=>?_,λh0=>?_⟩
  ·rw[nearD,if_pos h0];exact without_any a3 _ c3 _ w' hP
  ·rw[nearD,if_neg h0];exact with_any a3 _ c3 _ _ w' hP (by have:=(hkv (p+2+4*i) (by omega)).1;omega) (by have:=(hsm i (by omega)).len;omega)
 have HPa:Hid (∀i w' a4 c4 W,i<=n->OwnP w' (nearD af kf vf p ps i) a4 (nearD af kf vf p ps i).length c4 W->PArg a4 (nearD af kf vf p ps i) W/\(nearD af kf vf p ps i).length<=c4):=λi w' a4 c4 W hi h=>⟨qau h ((hsm i hi).small (by omega)),qaU h.own⟩;clear Hn hkv haf hsm hq hB;obtain⟨L,hL⟩:=eX (xs.length);rw[hL] at Hn' HTk HK HV⊢;clear hL;go_enter func78,ntmps78;go_wp2_with (first|(go_at_call 58;refine Hn'.mono ?_;rintro e w1 ⟨rfl,hb1⟩));have hP1:=hP.below hb1;have hM0:∀b off,a3=some ⟨b,off,none⟩->w.heap.size<=b\/(a3=a3/\nearD af kf vf p ps 0=ps):=λ_ _ _=>.inr ⟨rfl,rfl⟩;go_loopw [1,2,9] (λt1 t2 t10 wr=>∃ (i:Nat) (a4:Option Addr) (c4:Nat),i<=n/\t10=.int .i64 (i:Int)/\t1=.int .i64 ((p+1+4*i:Nat):Int)/\t2=.slice a4 (nearD af kf vf p ps i).length c4/\PArg a4 (nearD af kf vf p ps i) wr/\(nearD af kf vf p ps i).length<=c4/\(∀b off,a4=some ⟨b,off,none⟩->w.heap.size<=b\/(a4=a3/\nearD af kf vf p ps i=ps))/\Below w.heap.size w wr) (λ_ _ t10 _=>n-(intOf t10).toNat)
 case atStart=>exact⟨0,a3,c3,Nat.zero_le _,rfl,rfl,rfl,hP1,hc3,hM0,hb1⟩
 case round =>
  clear hP1 hM0 hP hc3;obtain⟨i,a4,c4,hi,rfl,rfl,rfl,hPi,hci,hge,hbw⟩:=hrel;by_cases hlt:i<n
  ·have z1:decide ((i:Int)<(n:Int))=true:=(by simp;omega);have HT':Hid (∀w',Below w.heap.size w w'->Calls prog 58 #[.slice a L cap,.int .i64 ((p+1+4*i:Nat):Int),.int .i64 3] w' λe w''=>e=.returned (.tuple #[.int .i64 (af (p+1+4*i):Int),.int .i64 ((p+1+4*i+1:Nat):Int)])/\Below w'.heap.size w' w''):=λw' hb=>HTk.out i w' hi hb;have HK':Hid (∀w',Below w.heap.size w w'->Calls prog 135 #[.slice a L cap,.int .i64 ((p+1+4*i+1:Nat):Int)] w' λe w''=>e=.returned (.tuple #[.string (kf (p+2+4*i)),.int .i64 ((p+3+4*i:Nat):Int)])/\Below w'.heap.size w' w''):=λw' hb=>HK.out i w' hi hb;have HV':Hid (∀w',Below w.heap.size w w'->Calls prog 136 #[.slice a L cap,.int .i64 ((p+3+4*i:Nat):Int)] w' λe w''=>e=.returned (.tuple #[.string (vf (p+3+4*i)),.int .i64 ((p+1+4*(i+1):Nat):Int)])/\Below w'.heap.size w' w''):=λw' hb=>HV.out i w' hi hb;have HW':Hid (∀w',PArg a4 (nearD af kf vf p ps i) w'->(af (p+1+4*i)=0->Calls prog 137 #[.slice a4 (nearD af kf vf p ps i).length c4,.string (kf (p+2+4*i))] w' (PairsAt (nearD af kf vf p ps (i+1)) w'))/\(af (p+1+4*i) ≠ 0->Calls prog 86 #[.slice a4 (nearD af kf vf p ps i).length c4,.string (kf (p+2+4*i)),.string (vf (p+3+4*i))] w' (PairsAt (nearD af kf vf p ps (i+1)) w'))):=λw' q=>HW.out i a4 c4 w' hlt q;have HF:Hid (∀w' a5 c5 W,Below w.heap.size w w'->OwnP w' (nearD af kf vf p ps (i+1)) a5 (nearD af kf vf p ps (i+1)).length c5 W->∃ (j:Nat) (b4:Option Addr) (d4:Nat),j<=n/\Value.int .i64 ((i+1:Nat):Int)=.int .i64 (j:Int)/\Value.int .i64 ((p+1+4*(i+1):Nat):Int)=.int .i64 ((p+1+4*j:Nat):Int)/\Value.slice a5 (nearD af kf vf p ps (i+1)).length c5=.slice b4 (nearD af kf vf p ps j).length d4/\PArg b4 (nearD af kf vf p ps j) W/\(nearD af kf vf p ps j).length<=d4/\(∀b off,b4=some ⟨b,off,none⟩->w.heap.size<=b\/(b4=a3/\nearD af kf vf p ps j=ps))/\Below w.heap.size w W):=λw' a5 c5 W hb ho=>⟨i+1,a5,c5,hlt,rfl,rfl,rfl,(HPa.out (i+1) w' a5 c5 W hlt ho).1,(HPa.out (i+1) w' a5 c5 W hlt ho).2,λb off e=>.inl (Nat.le_trans hb.size (ho.ge b off e)),hb.trans (ho.bel.mono hb.size)⟩;unfold PairsAt at HW';generalize nearD af kf vf p ps i=X at HW' hPi⊢;obtain⟨Y,hY⟩:=eX (nearD af kf vf p ps (i+1));rw[hY] at HW';generalize kf (p+2+4*i)=ky at HK' HW';generalize vf (p+3+4*i)=vl at HV' HW';generalize p+1+4*i=q1 at HT' HK' HW'⊢;generalize p+3+4*i=q3 at HK' HV';obtain⟨q4,hq4⟩:=eX (p+1+4*(i+1));rw[hq4,hY] at HF;rw[hq4] at HV';clear hq4 hY hci HTk HK HV HW HPa hge;by_cases h0:af q1=0
   ·rw[h0] at HT';have HW2:Hid (∀w',PArg a4 X w'->Calls prog 137 #[.slice a4 X.length c4,.string ky] w' λe w''=>∃a5 c5,e=.returned (.slice a5 Y.length c5)/\OwnP w' Y a5 Y.length c5 w''):=λw' q=>(HW'.out w' q).1 h0;clear HW' h0;go_wp2_with (first|(go_at_call 58;refine(HT'.out _ hbw).mono ?_;rintro e w2 ⟨rfl,hb2⟩;have hbw2:=hbw.trans (hb2.mono hbw.size);have hP2:=hPi.below hb2)|(go_at_call 135;refine(HK'.out _ hbw2).mono ?_;rintro e w3 ⟨rfl,hb3⟩;have hbw3:=hbw2.trans (hb3.mono hbw2.size);have hP3:=hP2.below hb3)|(go_at_call 136;refine(HV'.out _ hbw3).mono ?_;rintro e w4 ⟨rfl,hb4⟩;have hbw4:=hbw3.trans (hb4.mono hbw3.size);have hP4:=hP3.below hb4)|(go_at_call 137;refine(HW2.out _ hP4).mono ?_;rintro e w5 ⟨a5,c5,rfl,hT5⟩));have hfin:=HF.out _ _ _ _ hbw4 hT5;go_roundw
    case rel =>
     obtain⟨j,b4,d4,r1,r2,r3,r4,r5⟩:=hfin;exact⟨j,b4,d4,r1,by rw[<-r2];go_num,r3,r4,r5⟩
    case measure=>simp[intOf];omega
   ·have HW2:Hid (∀w',PArg a4 X w'->Calls prog 86 #[.slice a4 X.length c4,.string ky,.string vl] w' λe w''=>∃a5 c5,e=.returned (.slice a5 Y.length c5)/\OwnP w' Y a5 Y.length c5 w''):=λw' q=>(HW'.out w' q).2 h0;have z2:((af q1:Int) == 0)=false:=(by simp;omega);generalize af q1=av at HT' z2;clear HW' h0;go_wp2_with (first|(go_at_call 58;refine(HT'.out _ hbw).mono ?_;rintro e w2 ⟨rfl,hb2⟩;have hbw2:=hbw.trans (hb2.mono hbw.size);have hP2:=hPi.below hb2)|(go_at_call 135;refine(HK'.out _ hbw2).mono ?_;rintro e w3 ⟨rfl,hb3⟩;have hbw3:=hbw2.trans (hb3.mono hbw2.size);have hP3:=hP2.below hb3)|(go_at_call 136;refine(HV'.out _ hbw3).mono ?_;rintro e w4 ⟨rfl,hb4⟩;have hbw4:=hbw3.trans (hb4.mono hbw3.size);have hP4:=hP3.below hb4)|(go_at_call 86;refine(HW2.out _ hP4).mono ?_;rintro e w5 ⟨a5,c5,rfl,hT5⟩));have hfin:=HF.out _ _ _ _ hbw4 hT5;go_roundw
    case rel =>
     obtain⟨j,b4,d4,r1,r2,r3,r4,r5⟩:=hfin;exact⟨j,b4,d4,r1,by rw[<-r2];go_num,r3,r4,r5⟩
    case measure=>simp[intOf];omega
  ·obtain rfl:i=n:=by omega
   have z1:decide ((i:Int)<(i:Int))=false:=(by simp);have hfin:Hid (PGot (nearD af kf vf p ps i) ps (p+1+4*i) a3 w (.returned (.tuple #[.slice a4 (nearD af kf vf p ps i).length c4,.int .i64 ((p+1+4*i:Nat):Int)])) wr):=⟨a4,c4,rfl,hPi,hci,hge,hbw⟩;go_wp2_with fail;go_ret2;exact hfin.out
end Go.Proofs.YtibjhkpgaaapaaaGreatDoor
