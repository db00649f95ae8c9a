import Derived.Test.YtibjhkpgaaapaaaGreatDoorZibm
import Derived.Test.YtibjhkpgaaapaaaGreatDoorZibb
import Derived.Test.YtibjhkpgaaapaaaGreatDoorZibl
import Derived.Test.YtibjhkpgaaapaaaGreatDoorZiao
import Derived.Test.YtibjhkpgaaapaaaGreatDoorZibf
import Derived.Test.YtibjhkpgaaapaaaGreatDoorZiba
import Derived.Test.YtibjhkpgaaapaaaGreatDoorZibk
import Derived.Test.YtibjhkpgaaapaaaGreatDoorZiaf
import Derived.Test.YtibjhkpgaaapaaaGreatDoorZibj
import Derived.Test.YtibjhkpgaaapaaaGreatDoorZiaw
import Derived.Test.YtibjhkpgaaapaaaGreatDoorZian
import Derived.Test.YtibjhkpgaaapaaaGreatDoorZiak
set_option maxRecDepth 100000
set_option maxHeartbeats 2000000
namespace Go.Proofs.YtibjhkpgaaapaaaGreatDoor
open Go.RowKit Go.Proofs.Sha Tryz
theorem spoil_det (a:Option Addr)(xs:List Nat)(cap:Nat)(p:Nat)(s:ByteArray)(hX:Code8 xs)(hp:p<=80000)(hs:s.size<=50000) : ∃t:ByteArray,t.size<=s.size+1/\∀w,BL a xs w->Calls prog 60 #[.slice a xs.length cap,.int .i64 (p:Int),.string s] w λe w'=>e=.returned (.string t)/\Below w.heap.size w w':=by
 obtain⟨x,hx,HT1⟩:=qaP a xs cap p 6 hX (by omega) (by omega) (by omega);obtain⟨y,hy,HT2'⟩:=qaP a xs cap (p+1) (s.size+1) hX (by omega) (by omega) (by omega);obtain⟨z,hz,HT3⟩:=qaP a xs cap (p+1+1) 256 hX (by omega) (by omega) (by omega);obtain⟨p1,hp1⟩:=eX (p+1);obtain⟨p2,hp2⟩:=eX (p1+1);obtain⟨p3,hp3⟩:=eX (p2+1);rw[hp1] at HT1 HT2' HT3;rw[hp2] at HT2' HT3;rw[hp3] at HT3
 replace HT1:Hid _:=HT1
 replace HT3:Hid _:=HT3
 have HT2:Hid (∀w,BL a xs w->Calls prog 58 #[.slice a xs.length cap,.int .i64 (p1:Int),.int .i64 ((s.size:Int)+1)] w λe w'=>e=.returned (.tuple #[.int .i64 (y:Int),.int .i64 (p2:Int)])/\Below w.heap.size w w'):=λw h=>HT2' w h;clear HT2' hp1 hp2 hp3;have HB:Hid (∀w,Calls prog 91 #[.int .i64 (z:Int)] w λe w'=>e=.returned (.string (byteS z))/\Below w.heap.size w w'):=λw=>byte_any z (by omega) w;obtain⟨tb,htb⟩:∃t,byteS z=t:=⟨_,rfl⟩;have kb:tb.size=1:=by rw[<-htb];rfl
 rw[htb] at HB;clear htb;have e1:(s.extract 0 y).size=y:=by rw[ByteArray.size_extract];omega
 have e2:(s.extract (y+1) s.size).size=s.size-(y+1):=by rw[ByteArray.size_extract];omega
 have e3:(s.extract y s.size).size=s.size-y:=by rw[ByteArray.size_extract];omega
 have e4:(s.extract ((y:Int)+1).toNat s.size).size=s.size-(y+1):=by rw[ByteArray.size_extract];omega
 have f1:¬ (9223372036854775807<(s.extract 0 y).size+tb.size):=by omega
 have f2:¬ (9223372036854775807<(s.extract 0 y).size+(s.extract (y+1) s.size).size):=by omega
 have f3:¬ (9223372036854775807<(s.extract 0 y).size+tb.size+(s.extract (y+1) s.size).size):=by omega
 have f4:¬ (9223372036854775807<(s.extract 0 y).size+(s.extract ((y:Int)+1).toNat s.size).size):=by omega
 have f5:¬ (9223372036854775807<(s.extract 0 y).size+tb.size+(s.extract ((y:Int)+1).toNat s.size).size):=by omega
 have f6:¬ (9223372036854775807<(s.extract 0 y).size+(s.size-(y+1))):=by omega
 have f7:¬ (9223372036854775807<(s.extract 0 y).size+tb.size+(s.size-(y+1))):=by omega
 have f8:¬ (9223372036854775807<(s.extract 0 y).size+(s.size-((y:Int)+1).toNat)):=by omega
 have f9:¬ (9223372036854775807<(s.extract 0 y).size+tb.size+(s.size-((y:Int)+1).toNat)):=by omega
 have f10:¬ (9223372036854775807<(s.extract 0 y).size+tb.size+(s.extract y s.size).size):=by omega
 have f11:¬ (9223372036854775807<(s.extract 0 y).size+tb.size+(s.size-y)):=by omega
 have f12:¬ (9223372036854775807<min y s.size+tb.size):=by omega
 have f13:¬ (9223372036854775807<min y s.size+(s.extract (y+1) s.size).size):=by omega
 have f14:¬ (9223372036854775807<min y s.size+tb.size+(s.extract (y+1) s.size).size):=by omega
 have f15:¬ (9223372036854775807<min y s.size+(s.extract ((y:Int)+1).toNat s.size).size):=by omega
 have f16:¬ (9223372036854775807<min y s.size+tb.size+(s.extract ((y:Int)+1).toNat s.size).size):=by omega
 have f17:¬ (9223372036854775807<min y s.size+(s.size-(y+1))):=by omega
 have f18:¬ (9223372036854775807<min y s.size+tb.size+(s.size-(y+1))):=by omega
 have f19:¬ (9223372036854775807<min y s.size+(s.size-((y:Int)+1).toNat)):=by omega
 have f20:¬ (9223372036854775807<min y s.size+tb.size+(s.size-((y:Int)+1).toNat)):=by omega
 have f21:¬ (9223372036854775807<min y s.size+tb.size+(s.extract y s.size).size):=by omega
 have f22:¬ (9223372036854775807<min y s.size+tb.size+(s.size-y)):=by omega
 have f23:¬ (9223372036854775807<y+tb.size):=by omega
 have f24:¬ (9223372036854775807<y+(s.extract (y+1) s.size).size):=by omega
 have f25:¬ (9223372036854775807<y+tb.size+(s.extract (y+1) s.size).size):=by omega
 have f26:¬ (9223372036854775807<y+(s.extract ((y:Int)+1).toNat s.size).size):=by omega
 have f27:¬ (9223372036854775807<y+tb.size+(s.extract ((y:Int)+1).toNat s.size).size):=by omega
 have f28:¬ (9223372036854775807<y+(s.size-(y+1))):=by omega
 have f29:¬ (9223372036854775807<y+tb.size+(s.size-(y+1))):=by omega
 have f30:¬ (9223372036854775807<y+(s.size-((y:Int)+1).toNat)):=by omega
 have f31:¬ (9223372036854775807<y+tb.size+(s.size-((y:Int)+1).toNat)):=by omega
 have f32:¬ (9223372036854775807<y+tb.size+(s.extract y s.size).size):=by omega
 have f33:¬ (9223372036854775807<y+tb.size+(s.size-y)):=by omega
 have q1:(y:Int)<=(s.size:Int):=by omega
 have x6:IntKind.i64.wrap ((y:Int)+1)=(y:Int)+1:=qaf _ (by omega) (by omega);have x9:(0:Int)<=(y:Int)+1:=by omega
 have x10:(0:Int)<=(y:Int):=by omega
 have kb':tb.size<=1:=by omega
 have E1:Hid ((s.extract 0 y).size=y):=e1;have E2:Hid ((s.extract (y+1) s.size).size=s.size-(y+1)):=e2;have E3:Hid ((s.extract y s.size).size=s.size-y):=e3;clear e1 e2 e3 e4 kb;by_cases c1:x=0/\y<s.size
 ·obtain⟨rfl,c2⟩:=c1;have z2:decide ((y:Int)<(s.size:Int))=true:=(by simp;omega);have q2:(y:Int)+1<=(s.size:Int):=(by omega);refine⟨s.extract 0 y++s.extract (y+1) s.size,by rw[ByteArray.size_append,E1.out,E2.out];omega,λw h=>?_⟩;go_enter func60,ntmps60;go_wp2_with fail;refine(HT1.out w h).mono ?_;rintro e w1 ⟨rfl,hb1⟩;have h1:=h.below hb1;go_wp2_with fail;refine(HT2.out w1 h1).mono ?_;rintro e w2 ⟨rfl,hb2⟩;have h2:=h1.below hb2;have hB2:=hb1.trans (hb2.mono hb1.size);go_wp2_with fail;refine(HT3.out w2 h2).mono ?_;rintro e w3 ⟨rfl,hb3⟩;have hB3:=hB2.trans (hb3.mono hB2.size);clear hb1 hb2 hb3 hB2 h h1 h2 HT1 HT2 HT3;go_wp2_with fail;go_region_held3 (λ_=>True) (exact trivial) (fail);go_wp2_with fail;go_ret;exact⟨rfl,hB3.drew⟩
 by_cases c3:x<4/\y<s.size
 ·have z1:((x:Int) == 0)=false:=(by rw[beq_eq_false_iff_ne];omega);have z2:decide ((y:Int)<(s.size:Int))=true:=(by simp;omega);have z3:decide ((x:Int)<4)=true:=(by simp;omega);have q2:(y:Int)+1<=(s.size:Int):=(by omega);refine⟨s.extract 0 y++tb++s.extract (y+1) s.size,by rw[ByteArray.size_append,ByteArray.size_append,E1.out,E2.out];omega,λw h=>?_⟩;go_enter func60,ntmps60;go_wp2_with fail;refine(HT1.out w h).mono ?_;rintro e w1 ⟨rfl,hb1⟩;have h1:=h.below hb1;go_wp2_with fail;refine(HT2.out w1 h1).mono ?_;rintro e w2 ⟨rfl,hb2⟩;have h2:=h1.below hb2;have hB2:=hb1.trans (hb2.mono hb1.size);go_wp2_with fail;refine(HT3.out w2 h2).mono ?_;rintro e w3 ⟨rfl,hb3⟩;have hB3:=hB2.trans (hb3.mono hB2.size);clear hb1 hb2 hb3 hB2 h h1 h2 HT1 HT2 HT3;go_wp2_with fail;go_region_held3 (λ_=>True) (exact trivial) (first|(go_at_call 91;refine(HB.out _).mono ?_;rintro e w4 ⟨rfl,hb4⟩));go_wp2_with fail;go_ret;exact⟨rfl,hB3.drew.trans (hb4.mono hB3.size)⟩
 by_cases c4:x=4
 ·subst c4;have z2:(decide ((4:Int)<4) && decide ((y:Int)<(s.size:Int)))=false:=(by simp);refine⟨s.extract 0 y++tb++s.extract y s.size,by rw[ByteArray.size_append,ByteArray.size_append,E1.out,E3.out];omega,λw h=>?_⟩;go_enter func60,ntmps60;go_wp2_with fail;refine(HT1.out w h).mono ?_;rintro e w1 ⟨rfl,hb1⟩;have h1:=h.below hb1;go_wp2_with fail;refine(HT2.out w1 h1).mono ?_;rintro e w2 ⟨rfl,hb2⟩;have h2:=h1.below hb2;have hB2:=hb1.trans (hb2.mono hb1.size);go_wp2_with fail;refine(HT3.out w2 h2).mono ?_;rintro e w3 ⟨rfl,hb3⟩;have hB3:=hB2.trans (hb3.mono hB2.size);clear hb1 hb2 hb3 hB2 h h1 h2 HT1 HT2 HT3;go_wp2_with fail;go_region_held3 (λ_=>True) (exact trivial) (first|(go_at_call 91;refine(HB.out _).mono ?_;rintro e w4 ⟨rfl,hb4⟩));go_wp2_with fail;go_ret;exact⟨rfl,hB3.drew.trans (hb4.mono hB3.size)⟩
 have z4:((x:Int) == 4)=false:=by rw[beq_eq_false_iff_ne];omega
 by_cases c5:y<s.size
 ·have z1:((x:Int) == 0)=false:=(by rw[beq_eq_false_iff_ne];omega);have z2:decide ((y:Int)<(s.size:Int))=true:=(by simp;omega);have z3:decide ((x:Int)<4)=false:=(by simp;omega);refine⟨s.extract 0 y,by rw[E1.out];omega,λw h=>?_⟩;go_enter func60,ntmps60;go_wp2_with fail;refine(HT1.out w h).mono ?_;rintro e w1 ⟨rfl,hb1⟩;have h1:=h.below hb1;go_wp2_with fail;refine(HT2.out w1 h1).mono ?_;rintro e w2 ⟨rfl,hb2⟩;have h2:=h1.below hb2;have hB2:=hb1.trans (hb2.mono hb1.size);go_wp2_with fail;refine(HT3.out w2 h2).mono ?_;rintro e w3 ⟨rfl,hb3⟩;have hB3:=hB2.trans (hb3.mono hB2.size);clear hb1 hb2 hb3 hB2 h h1 h2 HT1 HT2 HT3;go_wp2_with fail;go_ret;exact⟨rfl,hB3⟩
 ·have z2:decide ((y:Int)<(s.size:Int))=false:=(by simp;omega);refine⟨s.extract 0 y,by rw[E1.out];omega,λw h=>?_⟩;by_cases c6:x=0
  ·subst c6;go_enter func60,ntmps60;go_wp2_with fail;refine(HT1.out w h).mono ?_;rintro e w1 ⟨rfl,hb1⟩;have h1:=h.below hb1;go_wp2_with fail;refine(HT2.out w1 h1).mono ?_;rintro e w2 ⟨rfl,hb2⟩;have h2:=h1.below hb2;have hB2:=hb1.trans (hb2.mono hb1.size);go_wp2_with fail;refine(HT3.out w2 h2).mono ?_;rintro e w3 ⟨rfl,hb3⟩;have hB3:=hB2.trans (hb3.mono hB2.size);clear hb1 hb2 hb3 hB2 h h1 h2 HT1 HT2 HT3;go_wp2_with fail;go_ret;exact⟨rfl,hB3⟩
  have z1:((x:Int) == 0)=false:=(by rw[beq_eq_false_iff_ne];omega);by_cases c7:x<4
  ·have z3:decide ((x:Int)<4)=true:=(by simp;omega);go_enter func60,ntmps60;go_wp2_with fail;refine(HT1.out w h).mono ?_;rintro e w1 ⟨rfl,hb1⟩;have h1:=h.below hb1;go_wp2_with fail;refine(HT2.out w1 h1).mono ?_;rintro e w2 ⟨rfl,hb2⟩;have h2:=h1.below hb2;have hB2:=hb1.trans (hb2.mono hb1.size);go_wp2_with fail;refine(HT3.out w2 h2).mono ?_;rintro e w3 ⟨rfl,hb3⟩;have hB3:=hB2.trans (hb3.mono hB2.size);clear hb1 hb2 hb3 hB2 h h1 h2 HT1 HT2 HT3;go_wp2_with fail;go_ret;exact⟨rfl,hB3⟩
  have z3:decide ((x:Int)<4)=false:=(by simp;omega);go_enter func60,ntmps60;go_wp2_with fail;refine(HT1.out w h).mono ?_;rintro e w1 ⟨rfl,hb1⟩;have h1:=h.below hb1;go_wp2_with fail;refine(HT2.out w1 h1).mono ?_;rintro e w2 ⟨rfl,hb2⟩;have h2:=h1.below hb2;have hB2:=hb1.trans (hb2.mono hb1.size);go_wp2_with fail;refine(HT3.out w2 h2).mono ?_;rintro e w3 ⟨rfl,hb3⟩;have hB3:=hB2.trans (hb3.mono hB2.size);clear hb1 hb2 hb3 hB2 h h1 h2 HT1 HT2 HT3;go_wp2_with fail;go_ret;exact⟨rfl,hB3⟩
theorem wless_p (p q:ByteArray)(w:World)(hp:p.size<=1048576)(hq:q.size<=1048576) : Calls prog 66 #[.string p,.string q] w λe w'=>e=.returned (.bool (Op.bytesLess p.data.toList q.data.toList))/\(∃m,w'=w.drewN m):=by
 have hpl:p.data.toList.length=p.size:=rfl;have hql:q.data.toList.length=q.size:=rfl;go_enter func66,ntmps66;go_wp2_with fail;go_loopw [5] (λt wr=>∃k:Nat,k<=p.size/\k<=q.size/\t=.int .i64 (k:Int)/\Hid (Op.bytesLess p.data.toList q.data.toList=Op.bytesLess (p.data.toList.drop k) (q.data.toList.drop k))/\∃m,wr=w.drewN m) (λt _=>p.size-(intOf t).toNat)
 case atStart=>exact⟨0,by omega,by omega,rfl,rfl,0,rfl⟩
 case round =>
  obtain⟨k,hk1,hk2,rfl,HL,hb⟩:=hrel;by_cases h1:k<p.size
  ·by_cases h2:k<q.size
   ·have z1:(0:Int)<=(k:Int):=(by omega);have z2:(k:Int)<(p.size:Int):=(by omega);have z3:(k:Int)<(q.size:Int):=(by omega);go_wp2_with fail;go_region;rw[bget p k h1,bget q k h2];have HE:=less_eq p.data.toList q.data.toList k h1 h2;have HN:=less_ne p.data.toList q.data.toList k h1 h2;obtain⟨x,hx⟩:=eX (p.data.toList.getD k 0);obtain⟨y,hy⟩:=eX (q.data.toList.getD k 0);rw[hx,hy] at HE HN;rw[hx,hy];have HXY:Hid (p.data.toList.getD k 0=x/\q.data.toList.getD k 0=y):=⟨hx,hy⟩;clear hx hy;by_cases hxy:x=y
    ·have c0:((x.toNat:Int) != (y.toNat:Int))=false:=(by rw[hxy];simp);have HE':Hid (Op.bytesLess p.data.toList q.data.toList=Op.bytesLess (p.data.toList.drop (k+1)) (q.data.toList.drop (k+1))):=HL.out.trans (HE hxy);clear HE HN hxy;go_wp2_with fail;go_roundw
     case rel=>exact⟨k+1,by omega,by omega,by go_num,HE',drew1 hb⟩
     case measure=>simp[intOf];omega
    ·have c0:((x.toNat:Int) != (y.toNat:Int))=true:=by
      rw[bne_iff_ne];exact λh=>hxy (UInt8.toNat_inj.1 (by omega))
     have HN':Hid (Op.bytesLess p.data.toList q.data.toList=decide (x.toNat<y.toNat)):=(HL.out.trans (HN hxy)).trans (by simp);clear HE HN hxy;go_wp2_with fail;go_region;rw[bget p k h1,bget q k h2,HXY.out.1,HXY.out.2];go_wp2;go_ret;exact⟨by rw[HN'.out];rfl,drew1 (drew1 hb)⟩
   ·have HN':Hid (Op.bytesLess p.data.toList q.data.toList=decide (p.size<q.size)):=(HL.out.trans (qcw p.data.toList q.data.toList k (.inr (by omega)) (by omega) (by omega))).trans (by simp);go_wp2;go_ret;exact⟨by rw[HN'.out];rfl,hb⟩
  ·have HN':Hid (Op.bytesLess p.data.toList q.data.toList=decide (p.size<q.size)):=(HL.out.trans (qcw p.data.toList q.data.toList k (.inl (by omega)) (by omega) (by omega))).trans (by simp);go_wp2;go_ret;exact⟨by rw[HN'.out];rfl,hb⟩
theorem qcJ (a b:Option Addr)(ps qs:List PairT)(c d:Nat)(w:World)(h:PArg a ps w)(h':PArg b qs w) : Calls prog 22 #[.slice a ps.length c,.slice b qs.length d] w λe w'=>e=.returned (.bool (decide (ps=qs)))/\Below w.heap.size w w':=by
 have hn:=h.le;have hm:=h'.le;obtain⟨R,hR⟩:=eX (decide (ps=qs));rw[hR];have HR:Hid (decide (ps=qs)=R):=hR;clear hR;obtain⟨N,hN⟩:=eX (ps.length);obtain⟨M,hM⟩:=eX (qs.length);rw[hN] at hn⊢;rw[hM] at hm⊢;by_cases hNM:N=M
 ·subst hNM;have hNl:Hid (ps.length=N):=hN;have hMl:Hid (qs.length=N):=hM;clear hN hM;go_enter func22,ntmps22;go_wp2_with fail;go_loopw [5] (λt wr=>∃k:Nat,k<=N/\t=.int .i64 (k:Int)/\Hid (ps.take k=qs.take k)/\Below w.heap.size w wr) (λt _=>N-(intOf t).toNat)
  case atStart=>exact⟨0,Nat.zero_le _,rfl,rfl,Below.refl _ _⟩
  case round =>
   obtain⟨k,hk,rfl,hsame,hbw⟩:=hrel;by_cases hlt:k<N
   ·have z1:decide ((k:Int)<(N:Int))=true:=(by simp;omega);have hx0:(0:Int)<=(k:Int):=Int.natCast_nonneg _;have hx1:(k:Int)<(N:Int):=(by omega);obtain⟨b1,off1,rfl,hbl1,hc⟩:=(h.below hbw).at_ (by rw[hNl.out];omega);obtain⟨b2,off2,rfl,hbl2,hd⟩:=(h'.below hbw).at_ (by rw[hMl.out];omega);obtain⟨hc1,hc2⟩:=hc k (by rw[hNl.out];exact hlt);obtain⟨hd1,hd2⟩:=hd k (by rw[hMl.out];exact hlt);have hkl:k<ps.length:=(by rw[hNl.out];exact hlt);have hkm:k<qs.length:=(by rw[hMl.out];exact hlt);have g1:=qaF ps k hkl;have g2:=qaF qs k hkm;have hstep:ps.getD k noPair=qs.getD k noPair->ps.take (k+1)=qs.take (k+1):=λe=>by
     rw[List.take_succ_eq_append_getElem hkl,List.take_succ_eq_append_getElem hkm,hsame.out,<-g1,<-g2,e]
    have hneq:ps.getD k noPair ≠ qs.getD k noPair->R=false:=λe=>by
     rw[<-HR.out];exact decide_eq_false λq=>e (by rw[q])
    clear g1 g2 hkl hkm hc hd;obtain⟨x,hx⟩:=eX (ps.getD k noPair);obtain⟨y,hy⟩:=eX (qs.getD k noPair);rw[hx] at hc1 hc2;rw[hy] at hd1 hd2;rw[hx,hy] at hstep hneq;clear hx hy;obtain⟨xk,xv⟩:=x;obtain⟨yk,yv⟩:=y
    dsimp only at hc1 hc2 hd1 hd2
    replace hstep:Hid _:=hstep
    replace hneq:Hid _:=hneq
    cases v1:(xk.toList == yk.toList) with
    | false =>
     have hRf:Hid (R=false):=hneq.out (λe=>by
      have:xk=yk:=congrArg Prod.fst e
      subst this
      rw[beq_self_eq_true] at v1
      cases v1)
     clear hstep hneq HR hsame;go_wp2_with fail;go_quiet (fail);go_wp2_with fail;go_ret;exact⟨by rw[hRf.out];rfl,qaD nq hbw⟩
    | true =>
     cases v2:(xv.toList == yv.toList) with
     | false =>
      have hRf:Hid (R=false):=hneq.out (λe=>by
       have:xv=yv:=congrArg Prod.snd e
       subst this
       rw[beq_self_eq_true] at v2
       cases v2)
      clear hstep hneq HR hsame;go_wp2_with fail;go_quiet (fail);go_wp2_with fail;go_ret;exact⟨by rw[hRf.out];rfl,qaD nq hbw⟩
     | true =>
      have e1:xk=yk:=ByteArray.ext (Array.toList_inj.1 (by rw[beq_iff_eq,ByteArray.toList_eq,ByteArray.toList_eq] at v1;exact v1));have e2:xv=yv:=ByteArray.ext (Array.toList_inj.1 (by rw[beq_iff_eq,ByteArray.toList_eq,ByteArray.toList_eq] at v2;exact v2));have hs':Hid (ps.take (k+1)=qs.take (k+1)):=hstep.out (by rw[e1,e2]);clear hstep hneq HR hsame e1 e2;go_wp2_with fail;go_quiet (fail);go_wp2_with fail;go_roundw
      case rel=>exact⟨k+1,hlt,by go_num,hs',qaD nq hbw⟩
      case measure=>simp[intOf];omega
   ·obtain rfl:k=N:=by omega
    have z1:decide ((k:Int)<(k:Int))=false:=(by simp);have hRt:Hid (R=true):=by
     show R=true;rw[<-HR.out,decide_eq_true_eq];have e:=hsame.out;rw[List.take_of_length_le (by rw[hNl.out];exact Nat.le_refl _),List.take_of_length_le (by rw[hMl.out];exact Nat.le_refl _)] at e;exact e
    clear hsame HR;go_wp2_with fail;go_ret;exact⟨by rw[hRt.out];rfl,hbw⟩
 ·have z0:((N:Int) != (M:Int))=true:=(by rw[bne_iff_ne];omega);have hRf:Hid (R=false):=by
   show R=false;rw[<-HR.out];exact decide_eq_false λe=>hNM (by rw[<-hN,<-hM,e])
  clear HR hN hM;go_enter func22,ntmps22;go_wp2_with fail;go_ret;exact⟨by rw[hRf.out];rfl,Below.refl _ _⟩
theorem wless_q (p q:ByteArray)(w:World)(hp:p.size<=1048576)(hq:q.size<=1048576):Calls prog 66 #[.string p,.string q] w λe w'=>e=.returned (.bool (lessB p q))/\(∃m,w'=w.drewN m):=by
 have:=wless_p p q w hp hq;rw[lessL] at this;exact this
def shR (lo hi:ByteArray):Option PT->List PairT
 | some t=>shP lo hi t
 | none=>[]
theorem qcI:SmallP []:=⟨Nat.zero_le _,λ_j=>⟨Nat.zero_le _,Nat.zero_le _⟩⟩
def VrG (A:List PairT) (ok:Bool) (w:World) (e:Ending) (w':World):Prop:=∃a c,e=.returned (.tuple #[.slice a A.length c,.bool ok])/\PArg a A w'/\Below w.heap.size w w'
theorem sver_any (n:Int)(root lo hi s:ByteArray)(w:World)(hs:s.size<=1048576)(hr:root.size<=1048576)(hlo:lo.size<=1048576)(hhi:hi.size<=1048576) : Calls prog 16 #[.int .i64 n,.string root,.string lo,.string hi,.string s] w (VrG (shR lo hi (accP n root lo hi s)) (accP n root lo hi s).isSome w):=by
 refine(sverify_any n root lo hi s w hs hr hlo hhi).mono ?_;cases hR:accP n root lo hi s with
 | none =>
  rintro e w' ⟨_,h2,hb⟩;obtain⟨a,he,ho⟩:=h2 rfl;exact⟨a,0,he,own2_parg (ps:=[]) ho qcI,hb⟩
 | some t =>
  rintro e w' ⟨h1,_,hb⟩;obtain⟨a,c,he,ho⟩:=h1 t rfl;exact⟨a,c,he,own2_parg ho (qck lo hi hR).1,hb⟩
theorem iver_any (n:Int)(root lo hi s:ByteArray)(w:World)(hs:s.size<=1048576)(hr:root.size<=1048576)(hK:KT w) : Calls prog 17 #[.int .i64 n,.string root,.string lo,.string hi,.string s] w (VrG (shR lo hi (accP n root lo hi s)) (accP n root lo hi s).isSome w):=by
 refine(iverify_any n root lo hi s w (by omega) hr hK).mono ?_;cases hR:accP n root lo hi s with
 | none =>
  rintro e w' ⟨_,h2,hb⟩;exact⟨none,0,h2 rfl,⟨qcI.1,qcI.2,λq=>by cases q⟩,hb⟩
 | some t =>
  rintro e w' ⟨h1,_,hb⟩;obtain⟨a,c,he,ho⟩:=h1 t rfl;exact⟨a,c,he,own2_parg ho (qck lo hi hR).1,hb⟩
theorem txt_list5 (e:ByteArray):(txt e).data.toList=78 :: e.data.toList:=by
 unfold txt;rw[ByteArray.data_append];simp
theorem txt_ne5 {a b:ByteArray}(h:a ≠ b):txt a ≠ txt b:=λe=>h (by
 have:=congrArg (λt:ByteArray=>t.data.toList) e
 simp only[txt_list5,List.cons.injEq,true_and] at this
 exact ByteArray.ext (Array.toList_inj.1 this))
theorem dig_txt5 (e:ByteArray)(n:Nat):(⟨((sha (txt e).data.toList).take n).toArray⟩:ByteArray)=digB e n:=by rw[txt_list5];rfl
theorem ex_cases (n:Int)(root lo hi s1 s2:ByteArray) : (exV (exR n lo hi (accP n root lo hi s1) (accP n root lo hi s2))=.tuple #[.string ⟨#[]⟩,.string ⟨#[]⟩,.bool false]/\((accP n root lo hi s1).isSome=false\/(accP n root lo hi s2).isSome=false\/shR lo hi (accP n root lo hi s1)=shR lo hi (accP n root lo hi s2))) ∨ ((accP n root lo hi s1).isSome=true/\(accP n root lo hi s2).isSome=true/\shR lo hi (accP n root lo hi s1) ≠ shR lo hi (accP n root lo hi s2)/\∃t1 t2 dg:ByteArray,exV (exR n lo hi (accP n root lo hi s1) (accP n root lo hi s2))=.tuple #[.string t1,.string t2,.bool true]/\t1 ≠ t2/\∀w, Calls prog 23 #[.string t1,.int .i64 n] w (λe w'=>e=.returned (.string dg)/\Below w.heap.size w w')/\Calls prog 23 #[.string t2,.int .i64 n] w (λe w'=>e=.returned (.string dg)/\Below w.heap.size w w')):=by
 cases h1:accP n root lo hi s1 with
 | none=>exact .inl ⟨rfl,.inl rfl⟩
 | some s =>
  cases h2:accP n root lo hi s2 with
  | none=>exact .inl ⟨rfl,.inr (.inl rfl)⟩
  | some t =>
   by_cases hd:shP lo hi s=shP lo hi t
   ·refine .inl ⟨?_,.inr (.inr hd)⟩;have hx:exR n lo hi (some s) (some t)=none:=if_pos hd;rw[hx];rfl
   ·refine .inr ⟨rfl,rfl,hd,?_⟩;obtain⟨a,b,he,hne,hdg,ha,hb⟩:=exR_ok h1 h2 hd;have hw0:1<=n/\n<=32:=by
     unfold accP at h1
     split at h1
     ·rename_i hw;unfold isW at hw;simp only[Bool.and_eq_true,decide_eq_true_eq] at hw;exact hw.1
     ·cases h1
    obtain⟨m,rfl⟩:∃m:Nat,n=(m:Int):=⟨n.toNat,by omega⟩;have hw:1<=m/\m<=32:=(by omega);rw[Int.toNat_natCast] at hdg;rw[he];refine⟨txt a,txt b,digB a m,rfl,txt_ne5 hne,λw=>⟨?_,?_⟩⟩
    ·have:=qda (txt a) m w (by unfold txt;rw[ByteArray.size_append];show 1+_<=_;omega) hw.1 hw.2;rw[dig_txt5] at this;exact this
    ·have:=qda (txt b) m w (by unfold txt;rw[ByteArray.size_append];show 1+_<=_;omega) hw.1 hw.2;rw[dig_txt5,<-hdg] at this;exact this
theorem pick_any (a:Option Addr)(xs:List Nat)(cap k:Nat)(hX:Code8 xs)(hk:k<=100)(w:World)(hB:BL a xs w) : Calls prog 34 #[.slice a xs.length cap,.int .i64 (k:Int)] w λe w'=>∃x:Nat,x<256/\e=.returned (.int .i64 (x:Int))/\Below w.heap.size w w':=by
 have hle:=hX.le;by_cases h0:xs.length=0
 ·rw[h0];clear hB hX;go_enter func34,ntmps34;go_wp2_with fail;go_ret;exact⟨k,by omega,rfl,Below.refl _ _⟩
 ·obtain⟨b,off,rfl,hbl,hc⟩:=hB.at_ (by omega);have hm:k % xs.length<xs.length:=Nat.mod_lt _ (by omega);have hcell:=hc _ hm;have hlt:=hX.lt (k % xs.length);generalize xs.getD (k % xs.length) 0=x at hcell hlt;generalize xs.length=L at *;have ym:(k:Int).tmod (L:Int)=((k % L:Nat):Int):=(by rw[Int.tmod_eq_emod_of_nonneg (by omega)];omega);obtain⟨j,hj⟩:=eX (k % L);rw[hj] at ym hcell hm;have z0:((L:Int) == 0)=false:=(by simp;omega);have z1:(0:Int)<=(j:Int):=Int.natCast_nonneg _;have z2:(j:Int)<(L:Int):=(by omega);have z3:¬ ((L:Int)=0):=(by omega);have z4:¬ (L=0):=h0;have hwx:wrap64 (x:Int)=(x:Int):=wr_in _ (by omega);clear hj hc hX hB;go_enter func34,ntmps34;go_wp2_with fail;go_ret;exact⟨x,hlt,by first|rfl|(rw[hwx];rfl),Below.refl _ _⟩
theorem key_emp {k:ByteArray}(h:okKey k=true):emp k=false:=by
 unfold okKey at h;rw[decide_eq_true_eq] at h;unfold emp;exact decide_eq_false (by omega)
def txtP:PT->List UInt8
 | .e=>[69]
 | .s h=>83 :: h.data.toList
 | .f k v l r=>70 :: (sized k.data.toList++sized v.data.toList)++(txtP l++txtP r)
def ptT (wd:Nat) (lo hi:ByteArray):ByteArray->ByteArray->Tr PairT->PT
 | _,_,.nil=>.e
 | over,under,.node l x r=>if canW over under lo hi=true then .f x.1 x.2 (ptT wd lo hi over x.1 l) (ptT wd lo hi x.1 under r) else .s (rootT wd (.node l x r))
theorem ptT_f {wd:Nat}{lo hi over under:ByteArray}{l r:Tr PairT}{x:PairT}(h:canW over under lo hi=true):ptT wd lo hi over under (.node l x r)=.f x.1 x.2 (ptT wd lo hi over x.1 l) (ptT wd lo hi x.1 under r):=if_pos h
theorem ptT_s {wd:Nat}{lo hi over under:ByteArray}{l r:Tr PairT}{x:PairT}(h:canW over under lo hi=false):ptT wd lo hi over under (.node l x r)=.s (rootT wd (.node l x r)):=if_neg (by rw[h];decide)
theorem root_emp (wd:Nat)(h1:1<=wd)(h2:wd<=32)(l:Tr PairT)(x:PairT)(r:Tr PairT):emp (rootT wd (.node l x r))=false:=by
 unfold emp;have:(rootT wd (.node l x r)).size=wd:=qaG _ _ h2;rw[this];exact decide_eq_false (by omega)
theorem prL_tree {fnd:ByteArray->FN}{wd:Nat}(h1:1<=wd)(h2:wd<=32)(lo hi:ByteArray):∀ (t:Tr PairT) (f:Nat) (over under:ByteArray),t.size<f->HasT fnd wd t->prL fnd lo hi f (rootT wd t) over under=txtP (ptT wd lo hi over under t)
 | t,0,_,_,h,_=>by omega
 | .nil,f+1,_,_,_,_=>prL_e rfl
 | .node l x r,f+1,over,under,hf,hh=>by
  obtain⟨s1,s2,s3⟩:=hh
  have he:=root_emp wd h1 h2 l x r
  simp only[Tr.size] at hf
  cases hc:canW over under lo hi with
  | false=>rw[prL_s he hc,ptT_s hc];rfl
  | true =>
   rw[prL_f he hc,ptT_f hc,s1]
   simp only
   rw[prL_tree h1 h2 lo hi l f over x.1 (by omega) s2,prL_tree h1 h2 lo hi r f x.1 under (by omega) s3]
   rfl
theorem ptT_hash (wd:Nat)(lo hi:ByteArray):∀ (t:Tr PairT) (over under:ByteArray),hashP wd (ptT wd lo hi over under t)=rootT wd t
 | .nil,_,_=>rfl
 | .node l x r,over,under=>by
  cases hc:canW over under lo hi with
  | false=>rw[ptT_s hc];rfl
  | true =>
   rw[ptT_f hc]
   show digB (encS x.1 x.2 (hashP wd _) (hashP wd _) wd) wd=_
   rw[ptT_hash wd lo hi l,ptT_hash wd lo hi r]
   rfl
def Btw (over under:ByteArray) (t:Tr PairT):Prop:=KeysUp (keys t.inord)/\∀p ∈ t.inord,lessB over p.1=true/\(emp under=true\/lessB p.1 under=true)
theorem Btw.sub {over under:ByteArray}{l r:Tr PairT}{x:PairT}(h:Btw over under (.node l x r)):Btw over x.1 l/\Btw x.1 under r/\lessB over x.1=true/\(emp under=true\/lessB x.1 under=true):=by
 have e:keys (Tr.node l x r).inord=keys l.inord++x.1 :: keys r.inord:=by simp[Tr.inord,keys]
 have hk:=h.1;rw[e] at hk;obtain⟨k1,⟨k4,k5⟩,k3⟩:=ku_app hk;have hx:=h.2 x (by simp[Tr.inord]);exact⟨⟨k1,λp hp=>⟨(h.2 p (by simp[Tr.inord,hp])).1,.inr (k3 _ (qcs hp) _ (List.mem_cons_self ..))⟩⟩,⟨k5,λp hp=>⟨k4 _ (qcs hp),(h.2 p (by simp[Tr.inord,hp])).2⟩⟩,hx.1,hx.2⟩
theorem ptT_sh (wd:Nat)(lo hi:ByteArray):∀ (t:Tr PairT) (over under:ByteArray),Btw over under t->shP lo hi (ptT wd lo hi over under t)=t.inord.filter (λp=>hasW lo hi p.1)
 | .nil,_,_,_=>rfl
 | .node l x r,over,under,h=>by
  obtain⟨hl,hr,_,_⟩:=h.sub
  cases hc:canW over under lo hi with
  | false =>
   rw[ptT_s hc]
   show []=_
   symm
   exact filter_no λp hp=>canW_no hc (h.2 p hp).1 (h.2 p hp).2
  | true =>
   rw[ptT_f hc]
   show shP lo hi _++_++shP lo hi _=(l.inord++x :: r.inord).filter _
   rw[ptT_sh wd lo hi l _ _ hl,ptT_sh wd lo hi r _ _ hr,List.filter_append,List.filter_cons,List.append_assoc]
   congr 1
   split <;> rfl
theorem bAt_at (P:List UInt8)(c:UInt8)(X:List UInt8):bAt (T (P++c :: X)) P.length=c.toNat:=by
 unfold bAt;rw[T_list,zL,List.getElem?_append_right (Nat.le_refl _),Nat.sub_self];rfl
theorem ptT_cnt (wd:Nat)(lo hi:ByteArray):∀ (t:Tr PairT) (over under:ByteArray),cP (ptT wd lo hi over under t)<=t.size
 | .nil,_,_=>Nat.le_refl _
 | .node l x r,over,under=>by
  cases hc:canW over under lo hi with
  | false=>rw[ptT_s hc];exact Nat.zero_le _
  | true =>
   rw[ptT_f hc,cP]
   have h1:=ptT_cnt wd lo hi l over x.1
   have h2:=ptT_cnt wd lo hi r x.1 under
   simp only[Tr.size]
   omega
theorem rd_tree (wd:Nat)(_h1:1<=wd)(h2:wd<=32)(lo hi:ByteArray):∀ (t:Tr PairT) (f:Nat) (over under par:ByteArray) (cnt:Nat) (P Q:List UInt8) (s:ByteArray),s=T (P++(txtP (ptT wd lo hi over under t)++Q))->t.size<f->cnt+t.size<=500->Btw over under t->t.heap abP->(∀p ∈ t.inord,okKey p.1=true/\okVal p.2=true/\(emp par=true\/hgW par p.1=true)) →
 rdP s lo hi wd f P.length over under par cnt=some (ptT wd lo hi over under t,P.length+(txtP (ptT wd lo hi over under t)).length,cnt+cP (ptT wd lo hi over under t))
 | t,0,_,_,_,_,_,_,_,_,h,_,_,_,_=>by omega
 | .nil,f+1,over,under,par,cnt,P,Q,s,hs,_,_,_,_,_=>by
  have hb:bAt s P.length=69:=by rw[hs];exact bAt_at P 69 Q
  have hz:P.length<s.size:=by rw[hs,T_size,List.length_append];show _<_+(List.length ([69]++Q));rw[List.length_append];simp;omega
  rw[rdP,if_pos hz,if_pos hb]
  rfl
 | .node l x r,f+1,over,under,par,cnt,P,Q,s,hs,hf,hc5,hB,hh,hok=>by
  simp only[Tr.size] at hf hc5
  cases hc:canW over under lo hi with
  | false =>
   rw[ptT_s hc] at hs⊢
   generalize hR:rootT wd (.node l x r)=R at hs⊢
   have hRs:R.size=wd:=by rw[<-hR];exact qaG _ _ h2
   have hRl:R.data.toList.length=wd:=hRs
   replace hs:s=T (P++(83 :: (R.data.toList++Q))):=hs
   have hb:bAt s P.length=83:=by rw[hs];exact bAt_at P 83 _
   have hsz:s.size=P.length+(wd+Q.length+1):=by rw[hs,T_size,List.length_append,List.length_cons,List.length_append,hRl]
   have hex:s.extract (P.length+1) (P.length+1+wd)=R:=by
    have hs2:s=T ((P++[83])++(R.data.toList++Q)):=by rw[hs];simp
    rw[hs2,T_extract,List.drop_append_of_le_length (by simp),List.drop_of_length_le (by simp),List.nil_append]
    rw[show P.length+1+wd-(P.length+1)=R.data.toList.length by omega,List.take_left,T_of]
   rw[rdP,if_pos (by omega),if_neg (by omega),if_pos hb,if_pos ⟨hc,by omega⟩,hex]
   show some (_,_,_)=some (_,P.length+(83 :: R.data.toList).length,cnt+0)
   rw[List.length_cons,hRl]
   simp only[Option.some.injEq,Prod.mk.injEq,true_and]
   omega
  | true =>
   obtain⟨hBl,hBr,ho,hu⟩:=hB.sub
   obtain⟨q1,q2,q3,q4⟩:=hh
   rw[ptT_f hc] at hs⊢
   obtain⟨k,v⟩:=x
   have hx:=hok (k,v) (by simp[Tr.inord])
   simp only at hx hBl hBr ho hu q1 q2 hs⊢
   have hcl:=ptT_cnt wd lo hi l over k
   have okl:∀p ∈ l.inord,okKey p.1=true/\okVal p.2=true/\(emp k=true\/hgW k p.1=true):=λp hp=>by
    have:=hok p (by simp[Tr.inord,hp])
    exact⟨this.1,this.2.1,.inr (q1 p hp)⟩
   have okr:∀p ∈ r.inord,okKey p.1=true/\okVal p.2=true/\(emp k=true\/hgW k p.1=true):=λp hp=>by
    have:=hok p (by simp[Tr.inord,hp])
    exact⟨this.1,this.2.1,.inr (q2 p hp)⟩
   have IL:=rd_tree wd _h1 h2 lo hi l f over k k (cnt+1) (P++(70 :: (sized k.data.toList++sized v.data.toList))) (txtP (ptT wd lo hi k under r)++Q) s (by rw[hs,txtP];simp) (by omega) (by omega) hBl q3 okl
   have IR:=rd_tree wd _h1 h2 lo hi r f k under k (cnt+1+cP (ptT wd lo hi over k l)) (P++(70 :: (sized k.data.toList++sized v.data.toList))++txtP (ptT wd lo hi over k l)) Q s (by rw[hs,txtP];simp) (by omega) (by omega) hBr q4 okr
   generalize ptT wd lo hi over k l=tl at *
   generalize ptT wd lo hi k under r=tr at *
   have hkl:k.data.toList.length=k.size:=rfl
   have hvl:v.data.toList.length=v.size:=rfl
   have hks:1<=k.size/\k.size<=256:=by have:=hx.1;unfold okKey at this;exact of_decide_eq_true this
   have hvs:v.size<=2000:=by have:=hx.2.1;unfold okVal at this;exact of_decide_eq_true this
   rw[txtP] at hs
   have s0:s=T (P++70 :: (sized k.data.toList++(sized v.data.toList++(txtP tl++(txtP tr++Q))))):=by rw[hs];simp
   have s1:s=T ((P++[70])++(sized k.data.toList++(sized v.data.toList++(txtP tl++(txtP tr++Q))))):=by rw[hs];simp
   have s2:s=T ((P++[70]++sized k.data.toList)++(sized v.data.toList++(txtP tl++(txtP tr++Q)))):=by rw[hs];simp
   have n1:(P++[(70:UInt8)]).length=P.length+1:=by simp
   have n2:(P++[(70:UInt8)]++sized k.data.toList).length=P.length+1+2+k.size:=by rw[List.length_append,n1,qaq,hkl];omega
   have hsz:s.size=P.length+1+2+k.size+2+v.size+(txtP tl).length+(txtP tr).length+Q.length:=by
    rw[s2,T_size,List.length_append,n2,List.length_append,qaq,hvl,List.length_append,List.length_append]
    omega
   have hb:bAt s P.length=70:=by rw[s0];exact bAt_at P 70 _
   have z1:szAt s (P.length+1)=k.size:=by rw[s1,<-n1];exact qcr _ _ _ (by omega)
   have e1:pieceE s (P.length+1)=P.length+1+2+k.size:=by unfold pieceE;rw[z1]
   have t1:pieceT s (P.length+1)=k:=by
    unfold pieceT
    rw[z1,s1,<-n1,<-hkl,qbR,T_of]
   have z2:szAt s (P.length+1+2+k.size)=v.size:=by rw[s2,<-n2];exact qcr _ _ _ (by omega)
   have e2:pieceE s (P.length+1+2+k.size)=P.length+1+2+k.size+2+v.size:=by unfold pieceE;rw[z2]
   have t2:pieceT s (P.length+1+2+k.size)=v:=by
    unfold pieceT
    rw[z2,s2,<-n2,<-hvl,qbR,T_of]
   have o1:pieceOk s (P.length+1):=⟨by omega,by rw[z1];omega⟩
   have o2:pieceOk s (P.length+1+2+k.size):=⟨by omega,by rw[z2];omega⟩
   have hoa:okAt over under par k v=true:=by
    unfold okAt insW parW
    simp only[Bool.and_eq_true,Bool.or_eq_true]
    exact⟨⟨hx.1,hx.2.1⟩,⟨ho,hu⟩,hx.2.2⟩
   have pl:(P++(70 :: (sized k.data.toList++sized v.data.toList))).length=P.length+1+2+k.size+2+v.size:=by
    rw[List.length_append,List.length_cons,List.length_append,qaq,qaq,hkl,hvl]
    omega
   rw[pl] at IL
   rw[List.length_append,pl] at IR
   rw[rdP,if_pos (by omega),if_neg (by omega),if_neg (by omega),if_pos ⟨hb,hc⟩,e1,t1,t2,e2,if_pos ⟨by omega,o1,o2,hoa⟩,IL]
   simp only
   rw[IR]
   simp only[Option.some.injEq,Prod.mk.injEq,true_and]
   rw[txtP,cP]
   refine⟨?_,by omega⟩
   rw[List.length_append,List.length_cons,List.length_append,List.length_append,qaq,qaq,hkl,hvl]
   omega
theorem acc_tree (wd:Nat)(h1:1<=wd)(h2:wd<=32)(lo hi:ByteArray)(t:Tr PairT)(h5:t.size<=500)(hB:Btw ⟨#[]⟩ ⟨#[]⟩ t)(hh:t.heap abP)(hok:∀p ∈ t.inord,okKey p.1=true/\okVal p.2=true) : accP (wd:Int) (rootT wd t) lo hi (T (txtP (ptT wd lo hi ⟨#[]⟩ ⟨#[]⟩ t)))=some (ptT wd lo hi ⟨#[]⟩ ⟨#[]⟩ t):=by
 have hr:=rd_tree wd h1 h2 lo hi t 501 ⟨#[]⟩ ⟨#[]⟩ ⟨#[]⟩ 0 [] [] (T (txtP (ptT wd lo hi ⟨#[]⟩ ⟨#[]⟩ t))) (by simp) (by omega) (by omega) hB hh (λp hp=>⟨(hok p hp).1,(hok p hp).2,.inl rfl⟩);unfold accP;have hw:(isW (wd:Int) && hashOk (rootT wd t).size (wd:Int))=true:=by
  have:=qax wd h2 t;unfold isW hashOk;simp only[Bool.and_eq_true,Bool.or_eq_true,decide_eq_true_eq];omega
 rw[if_pos hw,Int.toNat_natCast];rw[List.length_nil] at hr;rw[hr];unfold accQ;simp only;rw[if_pos ⟨by rw[T_size];omega,ptT_hash wd lo hi t ⟨#[]⟩ ⟨#[]⟩⟩]
theorem txtP_pos:∀t:PT,0<(txtP t).length
 | .e=>by simp[txtP]
 | .s h=>by simp[txtP]
 | .f k v l r=>by simp[txtP]
end Go.Proofs.YtibjhkpgaaapaaaGreatDoor
