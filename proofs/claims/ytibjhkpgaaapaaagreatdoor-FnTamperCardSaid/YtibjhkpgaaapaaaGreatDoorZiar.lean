import Derived.Test.YtibjhkpgaaapaaaGreatDoorZiaq
import Derived.Test.YtibjhkpgaaapaaaGreatDoorZiap
import Derived.Deep.AppendLies
import Derived.Test.YtibjhkpgaaapaaaGreatDoorZiah
set_option maxRecDepth 100000
set_option maxHeartbeats 2000000
namespace Go.Proofs.YtibjhkpgaaapaaaGreatDoor
open Go.RowKit Go.Proofs.Sha Tryz
theorem take_any (fnd:ByteArray->FN)(wg:World)(B0 lb sb b:Nat)(hash over under pk:ByteArray)(par:Option Addr)(cnt:Nat)(w:World)(hc:(fnd hash).2=0\/(fnd hash).2=2\/(fnd hash).2=3)(hL:LD lb sb cnt 0 w)(hB:BR b hash over under par w)(hP:ParAt par pk w)(hcn:cnt<=500)(hbw:Below B0 wg w)(hlb:B0<=lb)(hBs:B0<=w.heap.size)(HF:Hid (∀w',Below B0 wg w'->Calls prog 190 #[.pointer (some ⟨sb,0,none⟩),.string hash] w' λe w''=>e=.returned (nodeT (fnd hash))/\Below w'.heap.size w' w''))(HR:Hid (∀w',Below B0 wg w'->(fnd hash).2=0->Calls prog 166 #[Value.string (fnd hash).1.1] w' λe w''=>e=.returned (.agg (rkL (fnd hash).1.1).toArray)/\Below w'.heap.size w' w'')) : Calls prog 150 #[.pointer (some ⟨lb,0,none⟩),.pointer (some ⟨b,0,none⟩)] w λe w'=>e=.returned (.bool (decide (codeF fnd hash over under pk (cnt+1)=0)))/\Fr w.heap.size (λq=>q=b\/q=lb) w w'/\LD lb sb (cnt+1) (codeF fnd hash over under pk (cnt+1)) w'/\(codeF fnd hash over under pk (cnt+1)=0->Kids b hash over under par (fnd hash).1.1 (fnd hash).1.2.1 (fnd hash).1.2.2.1 (fnd hash).1.2.2.2 w w'):=by
 have hlw:lb<w.heap.size:=(zG hL).1;have l1:=ZC hL 1;have fl:∀j,w.frozen? ⟨lb,j,none⟩=false:=λj=>by rw[World.frozen?,show w.heap[lb]?=_ from hL];rfl
 have hwr:wrap64 ((cnt:Int)+1)=((cnt:Int)+1):=by exact wr_in64 _ (by omega)
 have hL1:=heap_setCell_same w lb 1 _ 228 (.int .i64 ((cnt:Int)+1)) hL;have hne:lb ≠ b:=qai hL hB (by decide);have f1:Fr w.heap.size (λq=>q=lb) w (w.setCell ⟨lb,1,none⟩ (.int .i64 ((cnt:Int)+1))):=Fr.set1 _ _ _;have hb1:Below B0 wg (w.setCell ⟨lb,1,none⟩ (.int .i64 ((cnt:Int)+1))):=hbw.setCell hlb _;have hL1:LD lb sb (cnt+1) 0 (w.setCell ⟨lb,1,none⟩ (.int .i64 ((cnt:Int)+1))):=by
  have e:((cnt+1:Nat):Int)=(cnt:Int)+1:=by omega
  unfold LD;rw[e];exact hL1
 go_enter func150,ntmps150;go_upto_region 2 with fail;have hB1:BR b hash over under par (w.setCell ⟨lb,1,none⟩ (.int .i64 ((cnt:Int)+1))):=f1.keep hB (λe=>hne e.symm) (.inl (by decide));have hP1:ParAt par pk (w.setCell ⟨lb,1,none⟩ (.int .i64 ((cnt:Int)+1))):=hP.fr f1 (λg hg e=>qai hg hL (by decide) e);generalize w.setCell ⟨lb,1,none⟩ (.int .i64 ((cnt:Int)+1))=W1 at hL1 f1 hb1 hB1 hP1⊢;have hs1:=f1.size;have HC:=filled_any fnd lb sb b hash over under pk par (cnt+1) 0 W1 hc hL1 hB1 hP1 (by omega) (λw' hb'=>HF.out w' (hb1.trans (hb'.mono (Nat.le_trans hBs hs1)))) (λw' hb'=>HR.out w' (hb1.trans (hb'.mono (Nat.le_trans hBs hs1))));obtain⟨C,hC⟩:=eX (codeF fnd hash over under pk (cnt+1));rw[hC] at HC;have hCf:Hid (codeF fnd hash over under pk (cnt+1)=C):=hC;clear hC hwr l1 fl hL HF HR hB hP hB1 hP1;go_upto_region 3 with (first|(go_at_call 176;refine HC.mono ?_;rintro e w2 ⟨rfl,hf2,hk2⟩;have hL2:LD lb sb (cnt+1) 0 w2:=hf2.keep hL1 hne (.inl (by decide));have c2:=ZC hL2 2;have fz2:w2.frozen? ⟨lb,2,none⟩=false:=(by rw[World.frozen?,show w2.heap[lb]?=_ from hL2];rfl)));have hL3:LD lb sb (cnt+1) C (w2.setCell ⟨lb,2,none⟩ (.int .i64 C)):=heap_setCell_same w2 lb 2 _ 228 (.int .i64 C) hL2;have f3:Fr w2.heap.size (λq=>q=lb) w2 (w2.setCell ⟨lb,2,none⟩ (.int .i64 C)):=Fr.set1 _ _ _;generalize w2.setCell ⟨lb,2,none⟩ (.int .i64 C)=W3 at hL3 f3⊢;have d2:=ZC hL3 2;have hfr:Fr w.heap.size (λq=>q=b\/q=lb) w W3:=((f1.mono (λq _ e=>Or.inr e)).trans ((hf2.base hs1).mono (λq _ e=>Or.inl e)) (λq _ e=>e)).trans ((f3.base (Nat.le_trans hs1 hf2.size)).mono (λq _ e=>Or.inr e)) (λq _ e=>e);have hkid:Hid (C=0->Kids b hash over under par (fnd hash).1.1 (fnd hash).1.2.1 (fnd hash).1.2.2.1 (fnd hash).1.2.2.2 w W3):=λhz=>by
  obtain⟨pl,pr,gl,gr,h1,h2,h3,h4,h5,h6,h7,h8⟩:=Kids.from (hk2 hz) hs1;have hlt:lb<w.heap.size:=hlw;exact⟨pl,pr,gl,gr,f3.keep h1 (λe=>hne e.symm) (.inl (by decide)),h2.fr f3 (λq hq e=>by have:=h6 q hq;omega),f3.keep h3 (qai h3 hL2 (by decide)) (.inl (by decide)),h4.fr f3 (λq hq e=>by have:=h7 q hq;omega),f3.keep h5 (qai h5 hL2 (by decide)) (.inl (by decide)),h6,h7,h8⟩
 clear hk2 hc hL2 hL1 c2 fz2 f1 f3 hf2 hb1 HC;cases hz:decide (C=0) with
 | true =>
  have hz0:C=0:=of_decide_eq_true hz;subst hz0;go_wp2_with fail;go_ret;rw[hCf.out];exact⟨rfl,hfr,hL3,λ_=>hkid.out trivial⟩
 | false =>
  have hz0:¬ C=0:=of_decide_eq_false hz;have hz1:(C == 0)=false:=by simpa using hz0
  go_wp2_with fail;go_ret;rw[hCf.out];exact⟨by simp[hz0],hfr,hL3,λh=>absurd h hz0⟩
theorem Fr.below {B0 base:Nat}{N:Nat->Prop}{w w':World}(h:Fr base N w w')(hb:B0<=base)(hN:∀q,N q->B0<=q)(hs:B0<=w.heap.size):Below B0 w w' :=
 ⟨h.os,h.tape,h.output,h.size,λq hq=>h.block q (by omega) (λx=>by have:=hN q x;omega) (λx=>by omega)⟩
structure Stc (B0 base lb c gb xl xa:Nat):Prop where
 hl:B0<=lb
 hc:B0<=c
 h0:B0<=base
 l1:xl<base
 l2:xa<base
 l3:gb<base
 l4:c<base
 l5:lb<base
 n1:xl ≠ lb
 n2:xl ≠ c
 n3:xa ≠ lb
 n4:xa ≠ c
 n5:gb ≠ lb
 n6:gb ≠ c
 n7:lb ≠ c
section
variable {wg:World} {B0 base lb c gb xl xa:Nat} {lo hi:ByteArray} {w w':World} {N:Nat->Prop}
end
section
variable {fnd:ByteArray->FN} {hg:ByteArray->ByteArray->Bool} {lo hi:ByteArray}
theorem goF_len:∀ (f:Nat) (hash over under par:ByteArray) (cnt:Nat),(goF fnd hg lo hi f hash over under par cnt).1=0->cnt+(goF fnd hg lo hi f hash over under par cnt).2.2.length<=(goF fnd hg lo hi f hash over under par cnt).2.1
 | 0,_,_,_,_,_,h=>by rw[goF] at h;exact absurd h (by decide)
 | f+1,hash,over,under,par,cnt,h=>by
  cases h1:(emp hash || !canW over under lo hi) with
  | true=>rw[qaQ h1];exact Nat.le_refl _
  | false =>
   by_cases h2:(fnd hash).2=2
   ·rw[qbm h1 h2] at h;exact absurd h (by decide)
   ·by_cases h20:(fnd hash).2=0
    ·cases h3:(insW over under (fnd hash).1.1 && parW hg par (fnd hash).1.1) with
     | false=>rw[qbD h1 h20 h3] at h;exact absurd h (by decide)
     | true =>
      by_cases h4:500<cnt+1
      ·rw[qdf h1 h20 h3 h4] at h;exact absurd h (by decide)
      ·have e:fnd hash=(((fnd hash).1.1,(fnd hash).1.2.1,(fnd hash).1.2.2.1,(fnd hash).1.2.2.2),0):=by rw[<-h20]
       rw[qbc h1 e h3 (by omega) rfl rfl] at h⊢
       have il:=goF_len f (fnd hash).1.2.2.1 over (fnd hash).1.1 (fnd hash).1.1 (cnt+1)
       split at h
       ·rename_i q;exact absurd h q
       ·rename_i q
        have il:=il (by simpa using q)
        split at h
        ·rename_i q2;exact absurd h q2
        ·rename_i q2
         have ir:=goF_len f (fnd hash).1.2.2.2 (fnd hash).1.1 under (fnd hash).1.1 _ (by simpa using q2)
         rw[if_neg q,if_neg q2]
         simp only[List.length_append]
         have:(if hasW lo hi (fnd hash).1.1=true then [((fnd hash).1.1,(fnd hash).1.2.1)] else []).length<=1:=by split <;> simp
         omega
    ·rw[goF,if_neg (by rw[h1];decide),if_neg h2,if_pos h20] at h;exact absurd h (by decide)
end
structure OS (w:World) (g8 g12 g16 gz g17:Nat) (wd:Nat) (a:Option Addr) (n c:Nat) (over under:ByteArray) (cnt:Nat) (gn gr:Nat) (k v l r:ByteArray) (a2:Option Addr) (rn d2 Qn:Nat) (Qp:List PairT) (W:World):Prop where
 gs:GS w g8 g12 g16 gz g17 wd a n c over under cnt W
 nn:W.heap[gn]?=some (.cells #[.string k,.string v,.string l,.string r] 73)
 rr:W.heap[gr]?=some (.cells #[.slice a2 rn d2,.int .i64 (Qn:Int),.int .i64 0] 158)
 ln:g17<gn
 lr:g17<gr
 row:W.ownsRow w.heap.size 81 2 (.slice a2 rn d2) rn (flatP Qp)
section
variable {w:World} {g8 g12 g16 gz g17:Nat} {wd:Nat} {a:Option Addr} {n c:Nat} {over under:ByteArray} {cnt:Nat} {gn gr:Nat} {k v l r:ByteArray} {a2:Option Addr} {rn d2 Qn:Nat} {Qp:List PairT} {W W':World}
theorem OS.below (h:OS w g8 g12 g16 gz g17 wd a n c over under cnt gn gr k v l r a2 rn d2 Qn Qp W)(hb:Below W.heap.size W W'):OS w g8 g12 g16 gz g17 wd a n c over under cnt gn gr k v l r a2 rn d2 Qn Qp W' :=
 ⟨h.gs.below hb,(hb.block _ (zG h.nn).1).trans h.nn,(hb.block _ (zG h.rr).1).trans h.rr,h.ln,h.lr,qbb h.row (λq _ hq=>hb.block q hq)⟩
def Far (g17 gn gr:Nat) (a2:Option Addr) (rn d2:Nat) (x:Value):Prop:=∀q,x.ownBlock=some q->g17<q/\q ≠ gn/\q ≠ gr/\(Value.slice a2 rn d2).ownBlock ≠ some q
theorem OS.grown {x:Value}(h:OS w g8 g12 g16 gz g17 wd a n c over under cnt gn gr k v l r a2 rn d2 Qn Qp W)(hg:W.grownBy W' x.ownBlock)(hf:Far g17 gn gr a2 rn d2 x):OS w g8 g12 g16 gz g17 wd a n c over under cnt gn gr k v l r a2 rn d2 Qn Qp W':=by
 have l:=h.gs.lt;have h1:=h.gs.o1;have h2:=h.gs.o2;have h3:=h.gs.o3;have h4:=h.gs.o4;have h5:=h.gs.sz;have far:∀q,q<=g17->q<W.heap.size->W'.heap[q]?=W.heap[q]?:=λq hq hl=>hg.block q hl (λe=>by have:=(hf q e.symm).1;omega);refine⟨⟨h.gs.sz,h1,h2,h3,h4,?_,(far _ (by omega) (by omega)).trans h.gs.n8,(far _ (by omega) (by omega)).trans h.gs.n12,(far _ (by omega) (by omega)).trans h.gs.n16,(far _ (by omega) (by omega)).trans h.gs.nz,(far _ (by omega) (by omega)).trans h.gs.n17⟩,?_,?_,h.ln,h.lr,?_⟩
 ·exact⟨hg.os.trans h.gs.bl.os,hg.tape.trans h.gs.bl.tape,hg.output.trans h.gs.bl.output,Nat.le_trans h.gs.bl.size hg.size,λq hq=>(far q (by omega) (Nat.lt_of_lt_of_le hq h.gs.bl.size)).trans (h.gs.bl.block q hq)⟩
 ·exact(hg.block gn (zG h.nn).1 (λe=>(hf gn e.symm).2.1 rfl)).trans h.nn
 ·exact(hg.block gr (zG h.rr).1 (λe=>(hf gr e.symm).2.2.1 rfl)).trans h.rr
 ·exact qbb h.row (λq hv hq=>hg.block q hq (λe=>(hf q e.symm).2.2.2 hv))
theorem OS.pair (h:OS w g8 g12 g16 gz g17 wd a n c over under cnt gn gr k v l r a2 rn d2 Qn Qp W)(hl:Qp.length=rn)(j:Nat)(hj:j<rn):∃b,a2=some ⟨b,0,none⟩/\W.cell? ⟨b,j*2,none⟩=some (.string (Qp.getD j noPair).1)/\W.cell? ⟨b,j*2+1,none⟩=some (.string (Qp.getD j noPair).2):=by
 rcases h.row.2 with ⟨e,h0⟩|⟨b,cap',cur,e,hb,hg,q1,q2,q3,q4⟩
 ·omega
 ·simp only[Value.slice.injEq] at e;obtain⟨rfl,_,_⟩:=e;obtain⟨e0,e1⟩:=qcO Qp j (by omega);rw[<-q4] at e0 e1;rw[List.getElem?_take,if_pos (by omega)] at e0 e1;exact⟨b,rfl,(ZC hg _).trans (by simpa using e0),(ZC hg _).trans (by simpa using e1)⟩
structure OutAt (w:World) (g8 g12 g16 gz g17:Nat) (wd:Nat) (a:Option Addr) (n c:Nat) (over under:ByteArray) (cnt:Nat) (gn gr:Nat) (k v l r:ByteArray) (a2:Option Addr) (rn d2 Qn:Nat) (Qp:List PairT) (x:Value) (m:Nat) (xs:List PairT) (W:World):Prop where
 os:OS w g8 g12 g16 gz g17 wd a n c over under cnt gn gr k v l r a2 rn d2 Qn Qp W
 own:W.ownsRow w.heap.size 81 2 x m (flatP xs)
 far:Far g17 gn gr a2 rn d2 x
 len:xs.length=m
theorem OutAt.below {x:Value}{m:Nat}{xs:List PairT}(h:OutAt w g8 g12 g16 gz g17 wd a n c over under cnt gn gr k v l r a2 rn d2 Qn Qp x m xs W)(hb:Below W.heap.size W W'):OutAt w g8 g12 g16 gz g17 wd a n c over under cnt gn gr k v l r a2 rn d2 Qn Qp x m xs W' :=
 ⟨h.os.below hb,qbb h.own (λq _ hq=>hb.block q hq),h.far,h.len⟩
theorem OutAt.more {x:Value}{m m' g cap:Nat}{xs:List PairT}{y:PairT}{o:Obj}(h:OutAt w g8 g12 g16 gz g17 wd a n c over under cnt gn gr k v l r a2 rn d2 Qn Qp x m xs W)(hown:W'.ownsRow w.heap.size 81 2 (.slice (some ⟨g,0,none⟩) m' cap) m' (flatP xs++[.string y.1,.string y.2]))(hgrow:(W.alloc o).grownBy W' x.ownBlock)(hat:x.ownBlock=some g\/g=W.heap.size+1)(hm:m'=m+1):OutAt w g8 g12 g16 gz g17 wd a n c over under cnt gn gr k v l r a2 rn d2 Qn Qp (.slice (some ⟨g,0,none⟩) m' cap) m' (xs++[y]) W':=by
 have ha:=h.below ((Below.refl W.heap.size W).alloc (Nat.le_refl _) o);refine⟨ha.os.grown hgrow h.far,by rw[qcV];exact hown,λq hq=>?_,by rw[List.length_append,h.len,hm];rfl⟩;obtain rfl:g=q:=Option.some.inj hq;rcases hat with e|e
 ·exact h.far g e
 ·have l1:=h.os.gs.lt;have l2:=(zG h.os.nn).1;have l3:=(zG h.os.rr).1;refine⟨by omega,by omega,by omega,λe2=>?_⟩;have:=(qaI h.os.row e2).2.1;omega
theorem OutAt.fin {a':Option Addr}{m d':Nat}{xs:List PairT}{R:Int × Nat × List PairT}{A:Act}(h:OutAt w g8 g12 g16 gz g17 wd a n c over under cnt gn gr k v l r a2 rn d2 Qn Qp (.slice a' m d') m xs W)(hR:R=(0,Qn,xs))(hp:A.tmps.getD 16 undef=.pointer (some ⟨g16,0,none⟩))(hd:A.defers=[]) : bodyPost prog Tryz.f105 (GoPost R w) .ret A (((W.setCell ⟨g16,0,none⟩ (.slice a' m d')).setCell ⟨g16,1,none⟩ (.int .i64 (Qn:Int))).setCell ⟨g16,2,none⟩ (.int .i64 0)):=by
 obtain⟨h1,h2,h3⟩:=h.os.gs.fin (.slice a' m d') (.int .i64 (Qn:Int)) (.int .i64 0);subst hR;have q4:=h.os.gs.o3;have q5:=h.os.gs.o4;refine retG hp hd h1 ⟨λ_=>⟨a',d',by rw[h.len],?_⟩,λhne=>absurd rfl hne,h2⟩;rw[h.len];exact qbb h.own (λq hv _=>h3 q (by have:=(h.far q hv).1;omega))
end
theorem qcp {fnd:ByteArray->FN}{hash over under pk:ByteArray}{cnt:Nat}(h:codeF fnd hash over under pk cnt=0):(fnd hash).2=0/\(insW over under (fnd hash).1.1 && parW hgW pk (fnd hash).1.1)=true/\cnt<=500:=by
 unfold codeF at h
 split at h
 ·exact absurd h (by decide)
 ·split at h
  ·exact absurd h (by decide)
  ·rename_i h2
   split at h
   ·exact absurd h (by decide)
   ·rename_i h3
    split at h
    ·exact absurd h (by decide)
    ·rename_i h4;exact⟨by simpa using h2,by simpa using h3,by omega⟩
theorem goF_code {fnd:ByteArray->FN}{lo hi:ByteArray}{f:Nat}{hash over under pk:ByteArray}{cnt:Nat}(h:(emp hash || !canW over under lo hi)=false)(hc:codeF fnd hash over under pk (cnt+1) ≠ 0):goF fnd hgW lo hi (f+1) hash over under pk cnt=(codeF fnd hash over under pk (cnt+1),0,[]):=by
 rw[goF,if_neg (by rw[h];decide)];unfold codeF at hc⊢
 split
 ·rfl
 ·rename_i h1;rw[if_neg h1] at hc
  split
  ·rfl
  ·rename_i h2;rw[if_neg h2] at hc
   split
   ·rfl
   ·rename_i h3;rw[if_neg h3] at hc
    split
    ·rfl
    ·rename_i h4;rw[if_neg h4] at hc;exact absurd rfl hc
abbrev intoV (lo hi:ByteArray):Value:=.func (.func 109) #[.agg #[.string lo,.string hi]] #[]
abbrev atV (xl xa:Nat):Value:=.func (.func 149) #[] #[.pointer (some ⟨xl,0,none⟩),.pointer (some ⟨xa,0,none⟩)]
def NWk (p:Option Addr) (lb c q:Nat):Prop:=(∃a,p=some a/\q=a.block)\/q=lb\/q=c
structure RightAt (base b:Nat) (w0:World) (hash over under:ByteArray) (par:Option Addr) (k v l r:ByteArray) (pl pr:Option Addr) (gr:Nat) (w:World):Prop where
 bf:BF b hash over under par k v l r pl pr w
 lk:LinkAt r k under (some ⟨gr,0,none⟩) pr w
 rk:RKb gr k w
 hp:∀q,pr=some q->base<=q.block/\w0.heap.size<=q.block
structure LeftAt (base:Nat) (w0:World) (over k l:ByteArray) (pl pr:Option Addr) (gl:Nat) (w:World):Prop where
 lk:LinkAt l over k (some ⟨gl,0,none⟩) pl w
 rk:RKb gl k w
 hp:∀q,pl=some q->base<=q.block/\w0.heap.size<=q.block
 ne:∀q q',pl=some q->pr=some q'->q.block ≠ q'.block
section
variable {wg:World} {B0 base lb sb c gb xl xa:Nat} {lo hi:ByteArray} {b:Nat} {w0 w w':World} {cnt:Nat} {ps:List PairT} {hash over under:ByteArray} {par:Option Addr} {k v l r:ByteArray} {pl pr:Option Addr} {gl gr:Nat}
theorem RightAt.below (h:RightAt base b w0 hash over under par k v l r pl pr gr w)(hb:Below w.heap.size w w'):RightAt base b w0 hash over under par k v l r pl pr gr w' :=
 ⟨(hb.block b (zG h.bf).1).trans h.bf,h.lk.below hb,h.rk.below hb,h.hp⟩
theorem LeftAt.below (h:LeftAt base w0 over k l pl pr gl w)(hb:Below w.heap.size w w'):LeftAt base w0 over k l pl pr gl w':=⟨h.lk.below hb,h.rk.below hb,h.hp,h.ne⟩
end
def DigSaid:Prop:=∀ (t:ByteArray) (k:Nat) (w:World),t.size<=1048576->1<=k->k<=32->Calls prog 23 #[.string t,.int .i64 (k:Int)] w λe w'=>e=.returned (.string ⟨((sha t.data.toList).take k).toArray⟩)/\Below w.heap.size w w'
def hashT (wd:Nat) (s:ByteArray):ByteArray:=⟨((sha (78 :: s.data.toList)).take wd).toArray⟩
theorem info9:(prog.info? 9).map (λi=>(i.zero,i.size,i.bytes))=some (some (.string ⟨#[]⟩),1,16):=by kernel_rfl
theorem ltext_any (e:ByteArray)(w:World)(he:e.size<=1048575) : Calls prog 39 #[.string e] w λx w'=>∃t:ByteArray,x=.returned (.string t)/\t.size<=1048576/\Hid (t.data.toList=78 :: e.data.toList)/\w=w':=by
 have z:¬ (9223372036854775807<(⟨#[78]⟩:ByteArray).size+e.size):=by show ¬ _<1+e.size;omega
 have z':¬ (9223372036854775807<1+e.size):=by omega
 go_enter func39,ntmps39;go_wp2;go_ret;refine⟨_,rfl,?_,?_,rfl⟩
 ·rw[ByteArray.size_append];show 1+e.size<=_;omega
 ·show (_:List UInt8)=_;rw[ByteArray.data_append];simp
structure P1 (w:World) (ga:Nat) (n:Int) (a:Option Addr) (m c:Nat) (W:World):Prop where
 sz:w.heap.size=ga
 bl:Below ga w W
 na:W.heap[ga]?=some (.cells #[.int .i64 n,.slice a m c] 31)
section
variable {w:World} {ga:Nat} {n:Int} {a:Option Addr} {m c:Nat} {W W':World}
theorem P1.mk0 (w:World)(n:Int)(a:Option Addr)(m c:Nat):P1 w w.heap.size n a m c (w.alloc (.cells #[.int .i64 n,.slice a m c] 31)) :=
 ⟨rfl,(Below.refl _ w).alloc (Nat.le_refl _) _,heap_alloc_new w _⟩
theorem P1.belowAt (h:P1 w ga n a m c W){k:Nat}(hk:ga<k)(hb:Below k W W'):P1 w ga n a m c W' :=
 ⟨h.sz,h.bl.trans (hb.mono (by omega)),(hb.block ga hk).trans h.na⟩
theorem P1.lt (h:P1 w ga n a m c W):ga<W.heap.size:=(zG h.na).1
theorem P1.below (h:P1 w ga n a m c W)(hb:Below W.heap.size W W'):P1 w ga n a m c W':=h.belowAt h.lt hb
theorem P1.grown (h:P1 w ga n a m c W){g:Nat}(hg:W.grownBy W' (some g))(hl:ga<g):P1 w ga n a m c W':=h.belowAt (Nat.lt_succ_self ga) (qah hg hl h.lt)
theorem P1.bw (h:P1 w ga n a m c W):Below w.heap.size w W:=by rw[h.sz];exact h.bl
end
theorem qbA (HD:Hid DigSaid)(wd:Nat)(a:Option Addr)(ss:List ByteArray)(c:Nat)(w:World)(h:SArg a ss w)(hq:Hid (∀j,(ss.getD j ⟨#[]⟩).size<=1048575))(h1:1<=wd)(h2:wd<=32) : Calls prog 50 #[.agg #[.int .i64 (wd:Int),.slice a ss.length c]] w λe w'=>∃g c',e=.returned (.slice (some ⟨g,0,none⟩) ss.length c')/\Row w' (w.heap.size+1) g ss.length c' ((ss.map (hashT wd)).map Value.string)/\Below w.heap.size w w':=by
 have hn:=h.le;obtain⟨i0,hi0,hz0,hz1,hz2⟩:=info_parts info9;obtain⟨N,hN⟩:=eX (ss.length);rw[hN] at hn;rw[hN];have hrow0:Row ((w.alloc (.cells #[.int .i64 (wd:Int),.slice a N c] 31)).alloc (.cells #[] 9)) (w.heap.size+1) (w.heap.size+1) 0 0 []:=by
  have:=Row.of_block (base:=w.heap.size+1) (g:=w.heap.size+1) (Nat.le_refl _) (by have:=heap_alloc_new (w.alloc (.cells #[.int .i64 (wd:Int),.slice a N c] 31)) (.cells #[] 9);rw[World.size_alloc] at this;exact this) 0 (Nat.zero_le _) (.inl rfl)
  simpa using this
 have hS0:=(P1.mk0 w (wd:Int) a N c).below ((Below.refl _ _).alloc (Nat.le_refl _) (.cells #[] 9));go_enter func50,ntmps50;go_wp2_with fail;obtain⟨ga,hga⟩:=eX (w.heap.size);generalize (w.alloc (.cells #[.int .i64 (wd:Int),.slice a N c] 31)).alloc (.cells #[] 9)=W0 at hrow0 hS0⊢;rw[hga] at hrow0 hS0⊢;go_loopw [3,4] (λt3 t4 wr=>∃k g c':Nat,k<=N/\t4=.int .i64 (k:Int)/\t3=.slice (some ⟨g,0,none⟩) k c'/\Row wr (ga+1) g k c' (((ss.take k).map (hashT wd)).map Value.string)/\P1 w ga (wd:Int) a N c wr) (λ_ t4 _=>N-(intOf t4).toNat)
 case atStart=>exact⟨0,ga+1,0,Nat.zero_le _,rfl,rfl,hrow0,hS0⟩
 case round =>
  clear hrow0 hS0;obtain⟨k,g,c',hk,rfl,rfl,hrow,hS⟩:=hrel;have d0:=ZC hS.na 0;have d1:=ZC hS.na 1;by_cases hlt:k<N
  ·have z1:decide ((k:Int)<(N:Int))=true:=(by simp;omega);obtain⟨b,off,rfl,hbl,hcs⟩:=h.at_ (by omega);obtain⟨s,hs⟩:=eX (ss.getD k ⟨#[]⟩);have hsz:s.size<=1048575:=(by rw[<-hs];exact hq.out k);have hc0:=hcs k (by omega);rw[hs] at hc0;have hC:Hid (∀W,P1 w ga (wd:Int) (some ⟨b,off,none⟩) N c W->W.cell? ⟨ga,1,none⟩=some (.slice (some ⟨b,off,none⟩) N c)/\W.cell? ⟨b,off+k,none⟩=some (.string s)/\W.cell? ⟨ga,0,none⟩=some (.int .i64 (wd:Int))):=λW hW=>⟨ZC hW.na 1,(hW.bw.cell hbl).trans hc0,ZC hW.na 0⟩;have hcx:=(hS.bw.cell hbl).trans hc0;obtain⟨X,hX⟩:=eX (hashT wd s);have HX:Hid (∀ (t:ByteArray) w',t.size<=1048576->Hid (t.data.toList=78 :: s.data.toList)->Calls prog 23 #[.string t,.int .i64 (wd:Int)] w' λe w''=>e=.returned (.string X)/\Below w'.heap.size w' w''):=λt w' ht HT=>by
    have:=HD.out t wd w' ht h1 h2;rw[HT.out] at this;rw[<-hX];exact this
   have hstep:Hid (((ss.take (k+1)).map (hashT wd)).map Value.string=((ss.take k).map (hashT wd)).map Value.string++[.string X]):=by
    have hkl:k<ss.length:=(by omega);have hge:ss[k]=s:=(by rw[<-hs,zL,List.getElem?_eq_getElem hkl];rfl);show _=_;rw[List.take_succ_eq_append_getElem hkl,List.map_append,List.map_append,hge,<-hX];rfl
   have hgl:=hrow.ge;have hsl:=hS.lt;have hx0:(0:Int)<=(k:Int):=Int.natCast_nonneg _;have hx1:(k:Int)<(N:Int):=(by omega);clear hcs hs hc0 hX;generalize ((ss.take k).map (hashT wd)).map Value.string=L at hrow hstep;go_wp2_with fail;go_region_held3 (λw'=>w'.cell? ⟨ga,1,none⟩=some (.slice (some ⟨b,off,none⟩) N c)/\w'.cell? ⟨b,off+k,none⟩=some (.string s)/\w'.cell? ⟨ga,0,none⟩=some (.int .i64 (wd:Int))) (first|exact⟨d1,hcx,d0⟩|exact hC.out _ hS4|exact hC.out _ hS3|exact hC.out _ hS2) (first|(go_at_call 39;refine(ltext_any s _ hsz).mono ?_;rintro e w1 ⟨t,rfl,ht,HT,rfl⟩)|(go_at_call 23;refine(HX.out t _ ht HT).mono ?_;rintro e w2 ⟨rfl,hb2⟩;have hbx:Below wr.heap.size wr w2:=(Below.refl wr.heap.size wr).drew.trans hb2;have hS2:=hS.below hbx;have hrow2:=hrow.below hbx;have hS3:=hS2.below ((Below.refl _ w2).alloc (Nat.le_refl _) (.cells #[.string X] 9));have hsz2:=hbx.size;clear hb2)|(refine qbn _ (by rfl) (.tmp 13) (.tmp 23) 25 (by rfl) 9 i0 (.string ⟨#[]⟩) 16 Tryz.underlying25 hi0 hz0 hz1 hz2 (by rfl) (ga+1) g k c' _ (by rfl) (hrow2.alloc _) ⟨w2.heap.size,0,none⟩ 1 1 [.string X] (by rfl) rfl (World.news_of_block (heap_alloc_new w2 _)) (by simp[Value.oneCell']) (by unfold maxLen;omega) (by omega) (by simp;omega) (w2.heap.size+1) (by simp) ?_;intro g4 c4 w4 hrow4 hgrow4 hg4 hkeep4;have hS4:=hS3.grown hgrow4 hgl));go_wp2_with fail;go_roundw
   case rel=>exact⟨k+1,g4,c4,hlt,by go_num,rfl,by rw[hstep.out];exact hrow4,hS4⟩
   case measure=>simp[intOf];omega
  ·obtain rfl:k=N:=by omega
   have z1:decide ((k:Int)<(k:Int))=false:=(by simp);have htk:ss.take k=ss:=List.take_of_length_le (by omega);rw[htk] at hrow;go_wp2_with fail;go_ret;exact⟨g,c',rfl,by rw[hga];exact hrow,hS.bw⟩
theorem strNe {t s:ByteArray}(h:¬ t=s):(t.toList == s.toList)=false:=by
 rw[beq_eq_false_iff_ne];intro he;rw[ByteArray.toList_eq,ByteArray.toList_eq] at he;exact h (ByteArray.ext (Array.toList_inj.1 he))
theorem qcA {p:Nat->Bool}{k:Nat}(h:firstI p k=none)(h1:p k=false):firstI p (k+1)=none:=by
 rw[firstI,h,h1];rfl
theorem qbq {p:Nat->Bool}{k:Nat}(h:firstI p k=none)(h1:p k=true):firstI p (k+1)=some k:=by
 rw[firstI,h,h1];rfl
theorem qcW {p:Nat->Bool}{k i:Nat}(h:firstI p k=some i)(m:Nat):firstI p (k+m)=some i:=by
 induction m with
 | zero=>exact h
 | succ m ih=>rw[<-Nat.add_assoc,firstI,ih]
theorem qbh {p q:Nat->Bool}{k:Nat}(h:∀j,j<k->p j=q j):firstI p k=firstI q k:=by
 induction k with
 | zero=>rfl
 | succ k ih=>rw[firstI,firstI,ih (λj hj=>h j (by omega)),h k (Nat.lt_succ_self k)]
theorem qcY (D:Dec)(wd:Nat)(HDd:Hid (DecSaid 146 wd D))(a:Option Addr)(ss:List ByteArray)(c:Nat)(g c':Nat)(hs:List ByteArray)(hash:ByteArray)(w:World)(h:SArg a ss w)(_hl:hs.length=ss.length)(hg:g<w.heap.size)(hh:∀j,j<ss.length->w.cell? ⟨g,j,none⟩=some (.string (hs.getD j ⟨#[]⟩))) : Calls prog 107 #[.agg #[.int .i64 (wd:Int),.slice a ss.length c],.slice (some ⟨g,0,none⟩) ss.length c',.string hash] w λe w'=>e=.returned (nodeT (foundR D ss (firstI (λi=>decide (hs.getD i ⟨#[]⟩=hash)) ss.length)))/\Below w.heap.size w w':=by
 have hn:=h.le;obtain⟨p,hp⟩:∃p:Nat->Bool,(λi=>decide (hs.getD i ⟨#[]⟩=hash))=p:=⟨_,rfl⟩;obtain⟨fx,hfx⟩:=eX (firstI p ss.length);obtain⟨N,hN⟩:=eX (ss.length);rw[hp,hfx];rw[hN] at hn hfx hh;rw[hN];obtain⟨R,hR⟩:=eX (foundR D ss fx);rw[hR];have hS0:=P2.mk0 w (wd:Int) a N c;go_enter func107,ntmps107;go_wp2_with fail;obtain⟨ga,hga⟩:=eX (w.heap.size);obtain⟨gb,hgb⟩:=eX (w.heap.size+1);generalize (w.alloc (.cells #[.int .i64 (wd:Int),.slice a N c] 31)).alloc (.cells #[.string ⟨#[]⟩,.string ⟨#[]⟩,.string ⟨#[]⟩,.string ⟨#[]⟩] 73)=W0 at hS0⊢;rw[hgb,hga] at hS0⊢;clear hgb
 replace hga:Hid _:=hga
 go_loopw [8] (λt8 wr=>∃k:Nat,k<=N/\t8=.int .i64 (k:Int)/\firstI p k=none/\P2 w ga gb (wd:Int) a N c wr) (λt8 _=>N-(intOf t8).toNat)
 case atStart=>exact⟨0,Nat.zero_le _,rfl,rfl,hS0⟩
 case round =>
  clear hS0;obtain⟨k,hk,rfl,hf,hS⟩:=hrel;by_cases hlt:k<N
  ·have z1:decide ((k:Int)<(N:Int))=true:=(by simp;omega);have hx0:(0:Int)<=(k:Int):=Int.natCast_nonneg _;have hx1:(k:Int)<(N:Int):=(by omega);obtain⟨x,hx⟩:=eX (hs.getD k ⟨#[]⟩);have hcy:=(hS.bw.cell hg).trans (hh k hlt);rw[hx] at hcy;have hpk:p k=decide (x=hash):=(by rw[<-hp,<-hx]);by_cases he:x=hash
   ·have z2:(x.toList == hash.toList)=true:=(by rw[he];simp);have hfk:fx=some k:=by
     have h1:=qcW (qbq hf (hpk.trans (decide_eq_true he))) (N-(k+1));rw[show k+1+(N-(k+1))=N by omega,hfx] at h1;exact h1
    obtain⟨b,off,rfl,hbl,hcs⟩:=h.at_ (by omega);obtain⟨s,hs'⟩:∃s,ss.getD k ⟨#[]⟩=s:=⟨_,rfl⟩;have hsz:s.size<=1048576:=(by rw[<-hs'];exact h.sz k);have hR1:R=if D.ok s then ((D.k s,D.v s,D.l s,D.r s),0) else ((⟨#[]⟩,⟨#[]⟩,⟨#[]⟩,⟨#[]⟩),3):=(by rw[<-hR,hfk,foundR,hs']);have hc0:=hcs k (by omega);rw[hs'] at hc0;have hC:Hid (∀W,P2 w ga gb (wd:Int) (some ⟨b,off,none⟩) N c W->W.cell? ⟨ga,1,none⟩=some (.slice (some ⟨b,off,none⟩) N c)/\W.cell? ⟨b,off+k,none⟩=some (.string s)/\W.cell? ⟨ga,0,none⟩=some (.int .i64 (wd:Int))):=λW hW=>⟨ZC hW.na 1,(hW.bw.cell hbl).trans hc0,ZC hW.na 0⟩;have hcx:=(hS.bw.cell hbl).trans hc0;have hg3:Hid (gb<wr.heap.size):=(zG hS.nb).1;clear hcs hs' hc0 hpk hf hh hR hfk hfx hp hx _hl hN;go_upto_region 5 with fail;clear hcy z1 z2 he;have d0:=ZC hS.na 0;have d1:=ZC hS.na 1;obtain⟨xk,hxk⟩:∃x,D.k s=x:=⟨_,rfl⟩;obtain⟨xv,hxv⟩:∃x,D.v s=x:=⟨_,rfl⟩;obtain⟨xl,hxl⟩:∃x,D.l s=x:=⟨_,rfl⟩;obtain⟨xr,hxr⟩:∃x,D.r s=x:=⟨_,rfl⟩;cases hok:D.ok s with
    | true =>
     have HD1:Hid (∀w',Calls prog 146 #[.string s,.int .i64 (wd:Int)] w' λe w''=>e=.returned (.tuple #[.agg #[.string xk,.string xv,.string xl,.string xr],.bool true])/\Below w'.heap.size w' w''):=λw'=>by
      have:=HDd.out s w' hsz;rw[hok,hxk,hxv,hxl,hxr] at this;exact this
     have HR:Hid (R=((xk,xv,xl,xr),0)):=by
      show R=_;rw[hR1,hok,hxk,hxv,hxl,hxr];rfl
     clear hxk hxv hxl hxr hok hR1;go_region_held3 (λw'=>w'.cell? ⟨ga,1,none⟩=some (.slice (some ⟨b,off,none⟩) N c)/\w'.cell? ⟨b,off+k,none⟩=some (.string s)/\w'.cell? ⟨ga,0,none⟩=some (.int .i64 (wd:Int))) (first|exact⟨d1,hcx,d0⟩|exact hC.out _ (hS.below ((Below.refl _ wr).drew.alloc (Nat.le_refl _) _))|exact hC.out _ hS4|exact hC.out _ (hS4.set4 hg3.out _ _ _ _)|exact hC.out _ (hS4.below ((Below.refl _ _).alloc (Nat.le_refl _) _))) (first|(go_at_call 146;refine(HD1.out _).mono ?_;rintro e w4 ⟨rfl,hb4⟩;have n4:NBk wr.heap.size ⟨#[]⟩ ⟨#[]⟩ ⟨#[]⟩ ⟨#[]⟩ w4:=NBk.below (show NBk wr.heap.size ⟨#[]⟩ ⟨#[]⟩ ⟨#[]⟩ ⟨#[]⟩ (wr.drew.alloc (.cells #[.string ⟨#[]⟩,.string ⟨#[]⟩,.string ⟨#[]⟩,.string ⟨#[]⟩] 73)) from heap_alloc_new wr.drew _) hb4;have hS4:=(hS.below ((Below.refl _ wr).drew.alloc (Nat.le_refl _) (.cells #[.string ⟨#[]⟩,.string ⟨#[]⟩,.string ⟨#[]⟩,.string ⟨#[]⟩] 73))).below hb4;clear hb4;obtain⟨k0,k1,k2,k3,l0,l1,l2,l3⟩:=n4.at)|(go_at_call 146;refine(HD1.out _).mono ?_;rintro e w4 ⟨rfl,hb4⟩;have hS4:=hS.below ((Below.refl wr.heap.size wr).drew.trans hb4);clear hb4))
     all_goals (clear d0 d1 hcx)
     ·have n5:NBk w4.heap.size xk xv xl xr (w4.alloc (.cells #[.string xk,.string xv,.string xl,.string xr] 73)):=heap_alloc_new _ _;have hS5:=hS4.below ((Below.refl _ w4).alloc (Nat.le_refl _) (.cells #[.string xk,.string xv,.string xl,.string xr] 73));generalize w4.alloc (.cells #[.string xk,.string xv,.string xl,.string xr] 73)=W5 at n5 hS5⊢;generalize w4.heap.size=g5 at n5⊢;clear hS4;obtain⟨k0,k1,k2,k3,l0,l1,l2,l3⟩:=n5.at;obtain⟨c0,c1,c2,c3,f0,f1,f2,f3⟩:=hS5.nb.at;go_wp2_with fail;exact retN Tryz.results107 rfl rfl rfl (hS5.nb.all _ _ _ _) ⟨by rw[HR.out],hS5.fin _ _ _ _⟩
     ·have n5:=n4.all xk xv xl xr;have hS5:=hS4.set4 hg3.out (.string xk) (.string xv) (.string xl) (.string xr);generalize (((w4.setCell ⟨wr.heap.size,0,none⟩ (.string xk)).setCell ⟨wr.heap.size,1,none⟩ (.string xv)).setCell ⟨wr.heap.size,2,none⟩ (.string xl)).setCell ⟨wr.heap.size,3,none⟩ (.string xr)=W5 at n5 hS5⊢;generalize wr.heap.size=g5 at n5⊢;clear k0 k1 k2 k3 l0 l1 l2 l3 n4 hS4;obtain⟨k0,k1,k2,k3,l0,l1,l2,l3⟩:=n5.at;obtain⟨c0,c1,c2,c3,f0,f1,f2,f3⟩:=hS5.nb.at;go_wp2_with fail;exact retN Tryz.results107 rfl rfl rfl (hS5.nb.all _ _ _ _) ⟨by rw[HR.out],hS5.fin _ _ _ _⟩
    | false =>
     have HD1:Hid (∀w',Calls prog 146 #[.string s,.int .i64 (wd:Int)] w' λe w''=>e=.returned (.tuple #[.agg #[.string xk,.string xv,.string xl,.string xr],.bool false])/\Below w'.heap.size w' w''):=λw'=>by
      have:=HDd.out s w' hsz;rw[hok,hxk,hxv,hxl,hxr] at this;exact this
     have HR:Hid (R=((⟨#[]⟩,⟨#[]⟩,⟨#[]⟩,⟨#[]⟩),3)):=by
      show R=_;rw[hR1,hok,hxk,hxv,hxl,hxr];rfl
     clear hxk hxv hxl hxr hok hR1;go_region_held3 (λw'=>w'.cell? ⟨ga,1,none⟩=some (.slice (some ⟨b,off,none⟩) N c)/\w'.cell? ⟨b,off+k,none⟩=some (.string s)/\w'.cell? ⟨ga,0,none⟩=some (.int .i64 (wd:Int))) (first|exact⟨d1,hcx,d0⟩|exact hC.out _ (hS.below ((Below.refl _ wr).drew.alloc (Nat.le_refl _) _))|exact hC.out _ hS4|exact hC.out _ (hS4.set4 hg3.out _ _ _ _)|exact hC.out _ (hS4.below ((Below.refl _ _).alloc (Nat.le_refl _) _))) (first|(go_at_call 146;refine(HD1.out _).mono ?_;rintro e w4 ⟨rfl,hb4⟩;have n4:NBk wr.heap.size ⟨#[]⟩ ⟨#[]⟩ ⟨#[]⟩ ⟨#[]⟩ w4:=NBk.below (show NBk wr.heap.size ⟨#[]⟩ ⟨#[]⟩ ⟨#[]⟩ ⟨#[]⟩ (wr.drew.alloc (.cells #[.string ⟨#[]⟩,.string ⟨#[]⟩,.string ⟨#[]⟩,.string ⟨#[]⟩] 73)) from heap_alloc_new wr.drew _) hb4;have hS4:=(hS.below ((Below.refl _ wr).drew.alloc (Nat.le_refl _) (.cells #[.string ⟨#[]⟩,.string ⟨#[]⟩,.string ⟨#[]⟩,.string ⟨#[]⟩] 73))).below hb4;clear hb4;obtain⟨k0,k1,k2,k3,l0,l1,l2,l3⟩:=n4.at)|(go_at_call 146;refine(HD1.out _).mono ?_;rintro e w4 ⟨rfl,hb4⟩;have hS4:=hS.below ((Below.refl wr.heap.size wr).drew.trans hb4);clear hb4))
     all_goals (clear d0 d1 hcx)
     ·have n5:NBk w4.heap.size xk xv xl xr (w4.alloc (.cells #[.string xk,.string xv,.string xl,.string xr] 73)):=heap_alloc_new _ _;have hS5:=hS4.below ((Below.refl _ w4).alloc (Nat.le_refl _) (.cells #[.string xk,.string xv,.string xl,.string xr] 73));generalize w4.alloc (.cells #[.string xk,.string xv,.string xl,.string xr] 73)=W5 at n5 hS5⊢;generalize w4.heap.size=g5 at n5⊢;clear hS4;obtain⟨k0,k1,k2,k3,l0,l1,l2,l3⟩:=n5.at;obtain⟨c0,c1,c2,c3,f0,f1,f2,f3⟩:=hS5.nb.at;go_wp2_with fail;exact retN Tryz.results107 rfl rfl rfl (hS5.nb.all _ _ _ _) ⟨by rw[HR.out],hS5.fin _ _ _ _⟩
     ·have n5:=n4.all xk xv xl xr;have hS5:=hS4.set4 hg3.out (.string xk) (.string xv) (.string xl) (.string xr);generalize (((w4.setCell ⟨wr.heap.size,0,none⟩ (.string xk)).setCell ⟨wr.heap.size,1,none⟩ (.string xv)).setCell ⟨wr.heap.size,2,none⟩ (.string xl)).setCell ⟨wr.heap.size,3,none⟩ (.string xr)=W5 at n5 hS5⊢;generalize wr.heap.size=g5 at n5⊢;clear k0 k1 k2 k3 l0 l1 l2 l3 n4 hS4;obtain⟨k0,k1,k2,k3,l0,l1,l2,l3⟩:=n5.at;obtain⟨c0,c1,c2,c3,f0,f1,f2,f3⟩:=hS5.nb.at;go_wp2_with fail;exact retN Tryz.results107 rfl rfl rfl (hS5.nb.all _ _ _ _) ⟨by rw[HR.out],hS5.fin _ _ _ _⟩
   ·have z2:(x.toList == hash.toList)=false:=strNe he;have hf':=qcA hf (hpk.trans (decide_eq_false he));clear hpk hx;go_wp2_with fail;go_roundw
    case rel=>exact⟨k+1,hlt,by go_num,hf',hS⟩
    case measure=>simp[intOf];omega
  ·obtain rfl:k=N:=by omega
   have z1:decide ((k:Int)<(k:Int))=false:=(by simp);have HR:Hid (R=((⟨#[]⟩,⟨#[]⟩,⟨#[]⟩,⟨#[]⟩),2)):=by
    show R=_;rw[<-hR,<-hfx,hf];rfl
   clear hh hR hfx hf hp;obtain⟨c0,c1,c2,c3,f0,f1,f2,f3⟩:=hS.nb.at;go_wp2_with fail;exact retN Tryz.results107 rfl rfl rfl (hS.nb.all _ _ _ _) ⟨by rw[HR.out],hS.fin _ _ _ _⟩
theorem hashT_hit (wd:Nat)(s hash:ByteArray):decide (hashT wd s=hash)=decide ((sha (78 :: s.data.toList)).take wd=hash.data.toList):=by
 unfold hashT;by_cases h:(sha (78 :: s.data.toList)).take wd=hash.data.toList
 ·rw[decide_eq_true h,decide_eq_true];rw[h]
 ·rw[decide_eq_false h,decide_eq_false];intro he;apply h;rw[<-he]
theorem qcv (wd:Nat)(ss:List ByteArray)(hash:ByteArray):firstI (λi=>decide ((ss.map (hashT wd)).getD i ⟨#[]⟩=hash)) ss.length=firstI (hitB wd ss hash) ss.length:=by
 refine qbh λj hj=>?_;have h1:(ss.map (hashT wd)).getD j ⟨#[]⟩=hashT wd (ss.getD j ⟨#[]⟩):=by
  rw[zL,List.getElem?_map,zL,List.getElem?_eq_getElem hj];rfl
 rw[h1,hitB,hashT_hit]
theorem wr_in (n:Int)(h:-9223372036854775808<=n/\n<=9223372036854775807):wrap64 n=n:=by unfold wrap64;omega
end Go.Proofs.YtibjhkpgaaapaaaGreatDoor
