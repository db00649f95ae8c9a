import Derived.Test.YtibjhkpgaaapaaaGreatDoorZibo
import Derived.Test.YtibjhkpgaaapaaaGreatDoorZibp
import Derived.Test.YtibjhkpgaaapaaaGreatDoorZibm
import Derived.Deep.DeepCutAuto
import Derived.Test.YtibjhkpgaaapaaaGreatDoorZibk
import Derived.Test.YtibjhkpgaaapaaaGreatDoorZibi
import Derived.Test.YtibjhkpgaaapaaaGreatDoorZiaa
set_option maxRecDepth 1000000
set_option maxHeartbeats 4000000
namespace Go.Proofs.YtibjhkpgaaapaaaGreatDoor
open Go.RowKit Go.Proofs.Sha Tryz
theorem retPT2 {fn:Func}{R:Ending->World->Prop}{A:Act}{p q:Tmp}{gb:Nat}{n:Int}{a:Option Addr}{m c:Nat}{v2:Value}{W:World}(hres:fn.results=#[.cell p 31,.tmp q])(hp:A.tmps.getD p undef=.pointer (some ⟨gb,0,none⟩))(hq:A.tmps.getD q undef=v2)(hd:A.defers=[])(hn:W.heap[gb]?=some (.cells #[.int .i64 n,.slice a m c] 31))(h:R (.returned (.tuple #[.agg #[.int .i64 n,.slice a m c],v2])) W):bodyPost prog fn R Exit.ret A W:=by
 have c0:=ZC hn 0;have c1:=ZC hn 1;have hp':A.tmps[p]?.getD undef=.pointer (some ⟨gb,0,none⟩):=by simpa using hp
 have hq':A.tmps[q]?.getD undef=v2:=by simpa using hq
 refine bodyPost_ret (v:=.tuple #[.agg #[.int .i64 n,.slice a m c],v2]) ?_ hd h;simp[results,hres,go_sem,asAddr,hp',hq',c0,c1]
def TmGot (o:SvO) (w:World) (e:Ending) (w':World):Prop:=∃a c,e=.returned (.tuple #[.agg #[.int .i64 o.n,.slice a o.xs.length c],.string o.root])/\SArg a o.xs w'/\Below w.heap.size w w'
theorem toomany_any (HDg:Hid DigSaid)(o:SvO)(ho:saveO 8 [] (crowd 500)=o)(hsm:SmT o.xs 500 10000)(w:World):Calls prog 76 #[.int .i64 0] w (TmGot o w):=by
 have HC:Hid (∀w',Calls prog 75 #[.int .i64 500] w' (PairsAt (crowd 500) w')):=λw'=>crowd_any 500 (by omega) w';have hcs:Hid (SmallP (crowd 500)):=(qdL 500).small (by omega);have HS:Hid (∀a2 c2 w',PArg a2 (crowd 500) w'->500<=c2->Calls prog 33 #[.agg #[.int .i64 8,.slice none 0 0],.slice a2 500 c2] w' (SavedIs o w')):=λa2 c2 w' h2 hc=>by
  have hl:=qaN 500;have:=qce HDg 8 none [] 0 a2 (crowd 500) c2 w' ⟨Nat.zero_le _,λj=>Nat.zero_le _,λq=>absurd q (Nat.lt_irrefl _)⟩ (λj=>Nat.zero_le _) h2 (by omega);rw[ho,hl] at this;exact this
 have HT:Hid (∀a2 c2 w',PArg a2 (crowd 500) w'->Calls prog 126 #[.slice a2 500 c2] w' λe w''=>e=.returned (.int .i64 (topTo (crowd 500) 499:Int))/\Below w'.heap.size w' w''):=λa2 c2 w' h2=>by
  have hl:=qaN 500;have:=top_any a2 (crowd 500) c2 w' h2 (by omega);rw[hl] at this;exact this
 have hTl:topTo (crowd 500) 499<500:=by have:=qbs (crowd 500) 499;omega
 obtain⟨T,hT⟩:=eX (topTo (crowd 500) 499);rw[hT] at HT hTl;have hcl:Hid ((crowd 500).length=500):=qaN 500;generalize crowd 500=cr at HC HS HT hcs hcl;clear ho hT;unfold PairsAt at HC;rw[hcl.out] at HC;unfold SavedIs at HS;obtain⟨cd,n,ys,root,x,y⟩:=o;simp only at hsm HS;obtain⟨N,hN⟩:=eX (ys.length);rw[hN] at HS;have hA:=bA w (.cells #[.int .i64 0,.slice none 0 0] 31);have nA:=heap_alloc_new w (.cells #[.int .i64 0,.slice none 0 0] 31);have hgw:w.heap.size<=w.heap.size:=Nat.le_refl _;go_enter func76,ntmps76;go_upto_region 1 with fail;generalize w.alloc (.cells #[.int .i64 0,.slice none 0 0] 31)=wA at hA nA⊢;obtain⟨gr,hgr⟩:∃g,w.heap.size=g:=⟨_,rfl⟩;have hgl:w.heap.size<=gr:=Nat.le_of_eq hgr;rw[hgr] at nA
 try rw[hgr]
 clear hgr hgw;go_upto_region 2 with (first|(go_at_call 75;refine(HC.out _).mono ?_;rintro e w1 ⟨a1,c1,rfl,hO1⟩));have hP1:=qau hO1 hcs.out;have hc1:=qaU hO1.own;have hb1:=hA.trans (hO1.bel.mono hA.size);have nB:=qap hO1.bel nA;clear hO1;unfold svV at HS;go_upto_region 3 with (first|(go_at_call 33;refine(HS.out a1 c1 _ hP1 hc1).mono ?_;rintro e w2 ⟨a2,c2,rfl,hO2⟩));have al:=bA w2 (.cells #[.int .i64 cd,.int .i64 n,.slice a2 N c2,.string root,.string x,.string y] 56);have nS:=heap_alloc_new w2 (.cells #[.int .i64 cd,.int .i64 n,.slice a2 N c2,.string root,.string x,.string y] 56);have hb12:Below w1.heap.size w1 (w2.alloc (.cells #[.int .i64 cd,.int .i64 n,.slice a2 N c2,.string root,.string x,.string y] 56)):=hO2.bel.trans (al.mono hO2.bel.size);have nC:=qap hb12 nB;have hP3:=hP1.below hb12;have hb3:=hb1.trans (hb12.mono hb1.size);have hS3:SArg a2 ys (w2.alloc (.cells #[.int .i64 cd,.int .i64 n,.slice a2 N c2,.string root,.string x,.string y] 56)):=by
  have h1:=hO2;rw[<-hN] at h1;exact(h1.sarg hsm (by omega) (by omega)).below al
 have hne:gr ≠ w2.heap.size:=by
  have h1:=(zG nB).1;have:=hO2.bel.size;omega
 generalize w2.alloc (.cells #[.int .i64 cd,.int .i64 n,.slice a2 N c2,.string root,.string x,.string y] 56)=w3 at nS nC hP3 hb3 hS3⊢;obtain⟨gs,hgs⟩:∃g,w2.heap.size=g:=⟨_,rfl⟩;rw[hgs] at nS hne
 try rw[hgs]
 clear hgs al hO2 hb12 hP1 hb1 nB nA hA HS HC;obtain⟨b1,off1,rfl,hbl1,hc⟩:=hP3.at_ (by rw[hcl.out];omega);obtain⟨hcT,_⟩:=hc T (by rw[hcl.out];exact hTl);have t0:(0:Int)<=(T:Int):=Int.natCast_nonneg _;have t1:(T:Int)<500:=by omega
 generalize (cr.getD T noPair).1=kt at hcT;clear hc;go_upto_region 5 with (first|(go_at_call 126;refine(HT.out _ c1 _ hP3).mono ?_;rintro e w4 ⟨rfl,hb4⟩;have hcT4:=(hb4.cell (p:=⟨b1,off1+T*2,none⟩) hbl1).trans hcT));have nS4:=(hb4.block gs (zG nS).1).trans nS;have nR4:=qap hb4 nC;have hb5:=hb3.trans (hb4.mono hb3.size);have hS4:=hS3.below hb4;clear nS nC hb4 hb3 hS3 hP3 hcT hcT4;have s1:=ZC nS4 1;have s2:=ZC nS4 2;have s3:=ZC nS4 3;have r0:=ZC nR4 0;have r1:=ZC nR4 1;have rf:=fZ nR4;go_region;have m0:=heap_setCell_same w4 gr 0 _ 31 (.int .i64 n) nR4;have m1:=heap_setCell_same _ gr 1 _ 31 (.slice a2 N c2) m0;have hS6:=(hS4.set37 nR4 (o:=0) (.int .i64 n)).set37 m0 (o:=1) (.slice a2 N c2);have hb6:=(hb5.setCell (p:=⟨gr,0,none⟩) hgl (.int .i64 n)).setCell (p:=⟨gr,1,none⟩) hgl (.slice a2 N c2);generalize (w4.setCell ⟨gr,0,none⟩ (.int .i64 n)).setCell ⟨gr,1,none⟩ (.slice a2 N c2)=wF at m1 hS6 hb6⊢;have hdr:Below wF.heap.size wF wF.drew:=qaa 1 (Below.refl _ _);have m2:=qap hdr m1;have hfin:Hid (TmGot ⟨cd,n,ys,root,x,y⟩ w (.returned (.tuple #[.agg #[.int .i64 n,.slice a2 N c2],.string root])) wF.drew):=⟨a2,c2,by rw[hN],hS6.below hdr,hb6.trans (hdr.mono hb6.size)⟩;generalize wF.drew=wG at m2 hfin⊢;go_wp2_with fail;exact retPT2 Tryz.results76 rfl rfl rfl m2 hfin.out
theorem crowd_map:isMapT (crowd 500)=true:=by kernel_rfl
def ShT (t:Tr PairT):Prop:=∀p ∈ t.inord,p.1.size<=100/\p.2.size<=100
theorem txt_len (wd:Nat)(h2:wd<=32)(lo hi:ByteArray):∀ (t:Tr PairT) (over under:ByteArray),ShT t->(txtP (ptT wd lo hi over under t)).length<=300*t.size+40
 | .nil,_,_,_=>by show (1:Nat)<=_;omega
 | .node l x r,over,under,h=>by
  cases hc:canW over under lo hi with
  | false =>
   rw[ptT_s hc]
   show (83 :: (rootT wd (.node l x r)).data.toList).length<=_
   have:(rootT wd (.node l x r)).data.toList.length=wd:=qaG _ _ h2
   rw[List.length_cons,this]
   omega
  | true =>
   rw[ptT_f hc,txtP,List.length_append,List.length_cons,List.length_append,List.length_append,qaq,qaq]
   have hx:=h x (by simp[Tr.inord])
   have h1:=txt_len wd h2 lo hi l over x.1 (λp hp=>h p (by simp[Tr.inord,hp]))
   have h3:=txt_len wd h2 lo hi r x.1 under (λp hp=>h p (by simp[Tr.inord,hp]))
   have e1:x.1.data.toList.length=x.1.size:=rfl
   have e2:x.2.data.toList.length=x.2.size:=rfl
   rw[e1,e2]
   simp only[Tr.size]
   omega
theorem sub_tree {fnd:ByteArray->FN}{wd:Nat}:∀t:Tr PairT,HasT fnd wd t->∀e ∈ encsT wd t,∃t',HasT fnd wd t'/\rootT wd t'=digB e wd/\t'.size<=t.size/\∀p ∈ t'.inord,p ∈ t.inord
 | .nil,_,e,he=>by cases he
 | .node l x r,hH,e,he=>by
  rw[encsT] at he
  rcases List.mem_append.1 he with q|q
  ·rcases List.mem_append.1 q with q|q
   ·obtain⟨t',a1,a2,a3,a4⟩:=sub_tree l hH.2.1 e q
    exact⟨t',a1,a2,by simp only[Tr.size];omega,λp hp=>by simp[Tr.inord,a4 p hp]⟩
   ·obtain⟨t',a1,a2,a3,a4⟩:=sub_tree r hH.2.2 e q
    exact⟨t',a1,a2,by simp only[Tr.size];omega,λp hp=>by simp[Tr.inord,a4 p hp]⟩
  ·rw[List.mem_singleton.1 q]
   exact⟨.node l x r,hH,rfl,Nat.le_refl _,λp hp=>hp⟩
theorem crowd_sh {p:PairT}(hp:p ∈ crowd 500):p.1.size<=100/\p.2.size<=100:=by
 unfold crowd at hp;obtain⟨i,_,rfl⟩:=List.mem_map.1 hp;refine⟨?_,Nat.zero_le _⟩;show (crD i).size<=100;unfold crD;rw[ByteArray.size_append,ByteArray.size_append];show 1+1+1<=100;omega
theorem tm_tree (D:Dec)(hD:DecEnc 8 D)(o:SvO)(ho:saveO 8 [] (crowd 500)=o) : o.n=8/\SmT o.xs 500 10000/\(o.root.size=0\/o.root.size=8)/\(∃t,HasT (fndD D 8 o.xs) 8 t/\rootT 8 t=o.root/\t.size<=501/\ShT t) ∧ ∀z:ByteArray,z.size=3->∃t,HasT (fndD D 8 (o.xs++[encS z ⟨#[]⟩ o.root ⟨#[]⟩ 8])) 8 t/\rootT 8 t=digB (encS z ⟨#[]⟩ o.root ⟨#[]⟩ 8) 8/\t.size<=501/\ShT t:=by
 have hnil:SmT ([]:List ByteArray) 0 10000:=⟨Nat.le_refl _,λx hx=>by cases hx⟩;have hlen:=qaN 500;have hpo:poolOk (8:Int) ([]:List ByteArray).length=true:=by decide
 have hsv:saveO 8 [] (crowd 500)=savO 8 [] (cutTree (crowd 500)):=by
  unfold saveO;rw[hpo,crowd_map,Bool.and_self,if_pos rfl];rfl
 have hok:=qcg _ crowd_map;have hin:=qaE (crowd 500);have hsz:=qaW (crowd 500);have hshort:∀p ∈ crowd 500,p.1.size<=100/\p.2.size<=100:=λp hp=>crowd_sh hp;rw[hsv] at ho;clear hsv;generalize crowd 500=cr at *;have key:∃ (t0:Tr PairT),o.n=8/\SmT o.xs 500 10000/\rootT 8 t0=o.root/\t0.size<=500/\ShT t0/\(∀x ∈ o.xs,x ∈ encsT 8 t0)/\HasT (fndD D 8 o.xs) 8 t0/\∀en,HasT (fndD D 8 (o.xs++[en])) 8 t0:=by
  rcases qdx (wd:=8) (ss:=[]) (ps:=cr) (n:=0) (k:=500) (s:=10000) hnil (Nat.le_refl _) (by omega) (by omega) with ⟨ad,e1,e2,e3⟩|⟨u,e,e1,_⟩
  ·rw[List.nil_append] at e2 e3;rw[e2] at ho;rw[<-ho];refine⟨cutTree cr,rfl,⟨Nat.le_trans e3.len (by omega),e3.sz⟩,rfl,by omega,λp hp=>?_,λx hx=>?_,?_,λen=>?_⟩
   ·rw[hin] at hp;have:=hshort p hp;exact this
   ·rcases(sv_sub 8 [] _ [] ad e1).1 x hx with q|q
    ·cases q
    ·exact q
   ·have:=qdo D 8 hD (by omega) (by omega) (ss:=[]) (ad:=ad) (cutTree cr) (by rw[hin];exact hok) (sv_has 8 [] _ [] ad e1).2;rw[List.nil_append] at this;exact this
   ·have:=qdo D 8 hD (by omega) (by omega) (ss:=[]) (ad:=ad++[en]) (cutTree cr) (by rw[hin];exact hok) (λe he=>fst2_more ((sv_has 8 [] _ [] ad e1).2 e he));rw[List.nil_append] at this;exact this
  ·rw[e1] at ho;rw[<-ho];exact⟨.nil,rfl,⟨Nat.zero_le _,λx hx=>by cases hx⟩,rfl,Nat.zero_le _,λp hp=>(by cases hp),λx hx=>(by cases hx),trivial,λ_=>trivial⟩
 obtain⟨t0,k1,k2,k3,k4,k5,k6,k0,k7⟩:=key;have hrs:o.root.size=0\/o.root.size=8:=by rw[<-k3];exact qax 8 (by omega) t0
 refine⟨k1,k2,hrs,⟨t0,k0,k3,by omega,k5⟩,λz hz=>?_⟩;have hno:nodeOk z.size (⟨#[]⟩:ByteArray).size o.root.size (⟨#[]⟩:ByteArray).size ((8:Nat):Int)=true:=by
  have e0:(⟨#[]⟩:ByteArray).size=0:=rfl;rw[e0,hz];rcases hrs with h|h <;> (rw[h];decide)
 obtain⟨en,hen⟩:=eX (encS z ⟨#[]⟩ o.root ⟨#[]⟩ 8);have hen':encS z ⟨#[]⟩ o.root ⟨#[]⟩ ((8:Nat):Int)=en:=hen;rw[hen];cases hf:fst2 8 [] o.xs (hashT 8 en) with
 | none =>
  have h1:=fst2_last hf;rw[<-hen'] at h1;have h2:=fnd_of D 8 hD (ss:=[]) hno h1;rw[List.nil_append,hen'] at h2;refine⟨.node t0 (z,⟨#[]⟩) .nil,⟨?_,k7 en,trivial⟩,?_,by simp only[Tr.size];omega,λp hp=>?_⟩
  ·show fndD D 8 _ (digB (encS z ⟨#[]⟩ (rootT 8 t0) ⟨#[]⟩ 8) 8)=((z,⟨#[]⟩,rootT 8 t0,⟨#[]⟩),0);rw[k3,hen];exact h2
  ·show digB (encS z ⟨#[]⟩ (rootT 8 t0) ⟨#[]⟩ 8) 8=_;rw[k3,hen]
  ·have:p ∈ t0.inord++(z,⟨#[]⟩) :: []:=hp;rcases List.mem_append.1 this with q|q
   ·exact k5 p q
   ·rw[List.mem_singleton.1 q];exact⟨by show z.size<=100;omega,Nat.zero_le _⟩
 | some u =>
  have hu:u ∈ o.xs/\hashT 8 u=hashT 8 en:=by
   unfold fst2 at hf;rw[List.nil_append] at hf;cases hi:firstI (hitB 8 o.xs (hashT 8 en)) (([]:List ByteArray).length+o.xs.length) with
   | none=>rw[hi] at hf;cases hf
   | some i =>
    rw[hi] at hf;have hl:=qbB hi;have hp:=firstI_is hi;have e:o.xs.getD i ⟨#[]⟩=u:=Option.some.inj hf;have hl':i<o.xs.length:=(by simpa using hl);refine⟨?_,?_⟩
    ·rw[<-e,zL,List.getElem?_eq_getElem hl'];exact List.getElem_mem hl'
    ·unfold hitB at hp;rw[decide_eq_true_eq,e] at hp;unfold hashT at hp⊢;rw[hp]
  obtain⟨t',a1,a2,a3,a4⟩:=sub_tree t0 (k7 en) u (k6 u hu.1);refine⟨t',a1,?_,by omega,λp hp=>k5 p (a4 p hp)⟩;rw[a2];exact hu.2
section
variable {fz:Nat->Option Obj} {ex:Option Nat} {w0:World} {gp g wd:Nat} {ss ys roots:List ByteArray} {ap:Option Addr} {cp:Nat} {ao:Option Addr} {co:Nat} {ar:Option Addr} {cr:Nat} {W:World}
end
end Go.Proofs.YtibjhkpgaaapaaaGreatDoor
