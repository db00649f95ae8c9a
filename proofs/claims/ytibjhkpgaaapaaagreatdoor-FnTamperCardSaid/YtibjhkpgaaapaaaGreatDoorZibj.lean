import Derived.Test.YtibjhkpgaaapaaaGreatDoorZiag
import Derived.Test.YtibjhkpgaaapaaaGreatDoorZiah
import Derived.Test.YtibjhkpgaaapaaaGreatDoorZiaf
import Derived.Test.YtibjhkpgaaapaaaGreatDoorZiaw
import Derived.Test.YtibjhkpgaaapaaaGreatDoorZibi
set_option maxRecDepth 100000
set_option maxHeartbeats 1000000
namespace Go.Proofs.YtibjhkpgaaapaaaGreatDoor
open Go.RowKit Go.Proofs.Sha Tryz
structure BL (a:Option Addr) (xs:List Nat) (w:World):Prop where
 at_:0<xs.length->∃b off:Nat,a=some ⟨b,off,none⟩/\b<w.heap.size/\∀j,j<xs.length->w.cell? ⟨b,off+j,none⟩=some (.int .u8 ((xs.getD j 0:Nat):Int))
theorem BL.below {a:Option Addr}{xs:List Nat}{w w':World}(h:BL a xs w)(hb:Below w.heap.size w w'):BL a xs w':=by
 refine⟨λhn=>?_⟩;obtain⟨b,off,ha,hlt,hc⟩:=h.at_ hn;exact⟨b,off,ha,Nat.lt_of_lt_of_le hlt hb.size,λj hj=>(hb.cell hlt).trans (hc j hj)⟩
structure Code8 (xs:List Nat):Prop where
 le:xs.length<=1048576
 lt:∀j,xs.getD j 0<256
theorem i64_xor_nat (a b:Nat)(ha:a<4294967296)(hb:b<4294967296):bits .xor .i64 (a:Int) (b:Int)=((a ^^^ b:Nat):Int):=by
 have hx:a ^^^ b<2 ^ 32:=Nat.xor_lt_two_pow (by omega) (by omega);show IntKind.i64.wrap ((BitVec.ofInt 64 (a:Int) ^^^ BitVec.ofInt 64 (b:Int)).toNat:Int)=_;rw[BitVec.toNat_xor,ofInt_u64 a (by omega),ofInt_u64 b (by omega)];exact qaf _ (by omega) (by omega)
theorem qaP (a:Option Addr)(xs:List Nat)(cap:Nat)(p m:Nat)(hX:Code8 xs)(hp:p<=100000)(hm1:1<=m)(hm:m<=100000) : ∃x:Nat,x<m/\∀w,BL a xs w->Calls prog 58 #[.slice a xs.length cap,.int .i64 (p:Int),.int .i64 (m:Int)] w λe w'=>e=.returned (.tuple #[.int .i64 (x:Int),.int .i64 ((p+1:Nat):Int)])/\Below w.heap.size w w':=by
 have z0:decide ((m:Int)<1)=false:=by simp;omega
 have hn:=hX.le;have y1:IntKind.i64.wrap ((p:Int)+1)=((p+1:Nat):Int):=by rw[qaf _ (by omega) (by omega)];omega
 obtain⟨n,hnn⟩:=eX (xs.length);rw[hnn] at hn⊢;by_cases h0:n=0
 ·subst h0;refine⟨0,hm1,λw h=>?_⟩;go_enter func58,ntmps58;go_wp2_with fail;go_ret2;exact⟨rfl,Below.refl _ _⟩
 ·have z1:((n:Int) == 0)=false:=(by rw[beq_eq_false_iff_ne];omega);by_cases h1:p<n/\m<=256
  ·have z2:decide ((p:Int)<(n:Int))=true:=(by simp;omega);have z3:decide ((m:Int)<=256)=true:=(by simp;omega);obtain⟨x,hx⟩:=eX (xs.getD p 0);have hxl:x<256:=(by rw[<-hx];exact hX.lt p);refine⟨x % m,Nat.mod_lt _ (by omega),λw h=>?_⟩;obtain⟨b,off,rfl,hlt,hc⟩:=h.at_ (by omega);have hcx:=hc p (by omega);rw[hx] at hcx;clear hc;go_enter func58,ntmps58;go_wp2_with fail;go_ret2;exact⟨rfl,Below.refl _ _⟩
  ·obtain⟨i1,hi1⟩:∃i,p % n=i:=⟨_,rfl⟩;obtain⟨i2,hi2⟩:∃i,(p*7+3) % n=i:=⟨_,rfl⟩;have l1:i1<n:=(by rw[<-hi1];exact Nat.mod_lt _ (by omega));have l2:i2<n:=(by rw[<-hi2];exact Nat.mod_lt _ (by omega));obtain⟨x,hx'⟩:∃x,xs.getD i1 0=x:=⟨_,rfl⟩;obtain⟨y,hy'⟩:∃x,xs.getD i2 0=x:=⟨_,rfl⟩;have hx:x<256:=(by rw[<-hx'];exact hX.lt i1);have hy:y<256:=(by rw[<-hy'];exact hX.lt i2);obtain⟨d,hd⟩:=eX (p / n);have hdp:d<=p:=(by rw[<-hd];exact Nat.div_le_self _ _);have u1:(p:Int) % (n:Int)=(i1:Int):=(by rw[<-hi1];rfl);have u2:((p:Int)*7+3) % (n:Int)=(i2:Int):=(by rw[<-hi2];rfl);have u3:(p:Int) / (n:Int)=(d:Int):=(by rw[<-hd];rfl);have z2:(decide ((p:Int)<(n:Int)) && decide ((m:Int)<=256))=false:=by
    rw[Bool.and_eq_false_iff];by_cases g:p<n
    ·exact .inr (by simp;omega)
    ·exact .inl (by simp;omega)
   clear hi1 hi2 hd;obtain⟨Y,HY⟩:∃Y:Nat,Hid ((bits .xor .i64 ((x:Int)*131+(y:Int)*1117+(p:Int)*29+(d:Int)*53) (((x:Int)*131+(y:Int)*1117+(p:Int)*29+(d:Int)*53) / 64))=(Y:Int)) :=
    ⟨_,i64_xor_nat (x*131+y*1117+p*29+d*53) ((x*131+y*1117+p*29+d*53) / 64) (by omega) (by omega)⟩
   have HR:Hid ((bits .xor .i64 ((x:Int)*131+(y:Int)*1117+(p:Int)*29+(d:Int)*53) (((x:Int)*131+(y:Int)*1117+(p:Int)*29+(d:Int)*53) / 64)).tmod (m:Int)=((Y % m:Nat):Int)):=by
    show _=_;rw[HY.out];rfl
   refine⟨Y % m,Nat.mod_lt _ (by omega),λw h=>?_⟩;obtain⟨b,off,rfl,hlt,hc⟩:=h.at_ (by omega);have hcx:=hc i1 (by omega);have hcy:=hc i2 (by omega);rw[hx'] at hcx;rw[hy'] at hcy;clear hc;by_cases g:p<n
   ·have z3:decide ((p:Int)<(n:Int))=true:=(by simp;omega);have z4:decide ((m:Int)<=256)=false:=(by simp;omega);go_enter func58,ntmps58;go_wp2_with fail;go_ret2;exact⟨by rw[HR.out];rfl,Below.refl _ _⟩
   ·have z3:decide ((p:Int)<(n:Int))=false:=(by simp;omega);go_enter func58,ntmps58;go_wp2_with fail;go_ret2;exact⟨by rw[HR.out];rfl,Below.refl _ _⟩
theorem width_det (a:Option Addr)(xs:List Nat)(cap:Nat)(p:Nat)(hX:Code8 xs)(hp:p<=100000) : ∃x:Nat,(1<=x/\x<=32)/\∀w,BL a xs w->Calls prog 73 #[.slice a xs.length cap,.int .i64 (p:Int)] w λe w'=>e=.returned (.tuple #[.int .i64 (x:Int),.int .i64 ((p+1:Nat):Int)])/\Below w.heap.size w w':=by
 obtain⟨x,hx,HT⟩:=qaP a xs cap p 10 hX hp (by omega) (by omega)
 replace HT:Hid _:=HT
 by_cases h3:x<3
 ·have z1:decide ((x:Int)<3)=true:=(by simp;omega);refine⟨1,by omega,λw h=>?_⟩;go_enter func73,ntmps73;go_wp2_with fail;refine(HT.out w h).mono ?_;rintro e w1 ⟨rfl,hb⟩;go_wp2_with fail;go_ret2;exact⟨rfl,hb⟩
 have z1:decide ((x:Int)<3)=false:=by simp;omega
 by_cases h5:x<5
 ·have z2:decide ((x:Int)<5)=true:=(by simp;omega);refine⟨2,by omega,λw h=>?_⟩;go_enter func73,ntmps73;go_wp2_with fail;refine(HT.out w h).mono ?_;rintro e w1 ⟨rfl,hb⟩;go_wp2_with fail;go_ret2;exact⟨rfl,hb⟩
 have z2:decide ((x:Int)<5)=false:=by simp;omega
 by_cases h7:x<7
 ·have z3:decide ((x:Int)<7)=true:=(by simp;omega);refine⟨32,by omega,λw h=>?_⟩;go_enter func73,ntmps73;go_wp2_with fail;refine(HT.out w h).mono ?_;rintro e w1 ⟨rfl,hb⟩;go_wp2_with fail;go_ret2;exact⟨rfl,hb⟩
 have z3:decide ((x:Int)<7)=false:=by simp;omega
 refine⟨x,by omega,λw h=>?_⟩;go_enter func73,ntmps73;go_wp2_with fail;refine(HT.out w h).mono ?_;rintro e w1 ⟨rfl,hb⟩;go_wp2_with fail;go_ret2;exact⟨rfl,hb⟩
def four (n:Nat):List UInt8:=[UInt8.ofNat (n % 256),UInt8.ofNat (n / 256 % 256),UInt8.ofNat (n / 65536 % 256),UInt8.ofNat (n / 16777216 % 256)]
theorem four_any (n:Nat)(hn:n<=1048576)(w:World) : Calls prog 185 #[.int .i64 (n:Int)] w λe w'=>∃t:ByteArray,e=.returned (.string t)/\t.size<=4/\Hid (t=T (four n))/\Below w.heap.size w w':=by
 go_enter func185,ntmps185;go_wp2_with fail;refine(qdC _ (by omega) (by omega) _).mono ?_;rintro e w1 ⟨t1,rfl,hz1,HT1,hb1⟩;go_wp2_with fail;refine(qdC _ (by omega) (by omega) _).mono ?_;rintro e w2 ⟨t2,rfl,hz2,HT2,hb2⟩;go_wp2_with fail;refine(qdC _ (by omega) (by omega) _).mono ?_;rintro e w3 ⟨t3,rfl,hz3,HT3,hb3⟩;go_wp2_with fail;refine(qdC _ (by omega) (by omega) _).mono ?_;rintro e w4 ⟨t4,rfl,hz4,HT4,hb4⟩;have hf:¬ (9223372036854775807<t1.size+t2.size+t3.size+t4.size):=by omega
 go_wp2;go_ret;refine⟨t1++t2++t3++t4,rfl,by simp only[ByteArray.size_append];omega,?_,((hb1.trans (hb2.mono hb1.size)).trans (hb3.mono (Nat.le_trans hb1.size hb2.size))).trans (hb4.mono (Nat.le_trans (Nat.le_trans hb1.size hb2.size) hb3.size))⟩;show t1++t2++t3++t4=T (four n);rw[HT1.out,HT2.out,HT3.out,HT4.out,qch,qch,qch,qch,T_append,T_append,T_append];have e1:((n:Int) % 256).toNat=n % 256:=by omega
 have e2:((n:Int) / 256 % 256).toNat=n / 256 % 256:=by omega
 have e3:((n:Int) / 65536 % 256).toNat=n / 65536 % 256:=by omega
 have e4:((n:Int) / 16777216 % 256).toNat=n / 16777216 % 256:=by omega
 rw[e1,e2,e3,e4];rfl
def reps (n:Nat) (c:UInt8):ByteArray:=T (List.replicate n c)
theorem qaS (n:Nat)(c:UInt8):(reps n c).size=n:=by unfold reps;rw[T_size,List.length_replicate]
theorem reps_add (n m:Nat)(c:UInt8):reps n c++reps m c=reps (n+m) c:=by unfold reps;rw[T_append,List.replicate_append_replicate]
theorem long_any (c:UInt8)(n:Nat):∀ (_hn:n<=1048576) (w:World), Calls prog 134 #[.int .i64 (n:Int),.string ⟨#[c]⟩] w λe w'=>∃t:ByteArray,e=.returned (.string t)/\t.size=n/\Hid (t=reps n c)/\Below w.heap.size w w':=by
 induction n using Nat.strongRecOn with
 | ind n ih =>
 intro hn w;have hU:Hid ((⟨#[c]⟩:ByteArray)=reps 1 c/\(⟨#[c]⟩:ByteArray).size=1):=⟨rfl,rfl⟩;by_cases h0:0<n
 ·have z0:decide ((0:Int)<(n:Int))=true:=(by simp;omega);have hu:(⟨#[c]⟩:ByteArray).size=1:=rfl;obtain⟨u,hu'⟩:∃u:ByteArray,⟨#[c]⟩=u:=⟨_,rfl⟩;rw[hu'] at hU hu ih⊢;clear hu';go_enter func134,ntmps134;go_wp2_with fail;go_loopw [5] (λt wr=>∃ (m:Nat) (x:ByteArray),1<=m/\m<=n/\t=.string x/\x.size=m/\Hid (x=reps m c)/\wr=w) (λt _=>n-(match t with|.string x=>x.size|_=>0))
  case atStart=>exact⟨1,u,by omega,by omega,rfl,hu,hU.out.1,rfl⟩
  case round =>
   obtain⟨m,x,hm1,hm2,rfl,hx,HX,rfl⟩:=hrel;by_cases h1:2*m<=n
   ·have z1:decide ((x.size:Int)*2<=(n:Int))=true:=(by simp;omega);go_wp2_with fail;refine⟨⟨m+m,x++x,by omega,by omega,rfl,by rw[ByteArray.size_append,hx],?_,trivial⟩,?_⟩
    ·show x++x=_;rw[HX.out,reps_add]
    ·show n-(x++x).size<n-x.size;rw[ByteArray.size_append,hx];omega
   ·have z1:decide ((x.size:Int)*2<=(n:Int))=false:=(by simp;omega);by_cases h2:m<n
    ·have z2:decide ((x.size:Int)<(n:Int))=true:=(by simp;omega);have z3:IntKind.i64.wrap ((n:Int)-(m:Int))=((n-m:Nat):Int):=(by rw[qaf _ (by omega) (by omega)];omega);go_wp2_with fail;refine(ih (n-m) (by omega) (by omega) _).mono ?_;rintro e w1 ⟨t,rfl,ht,HT,hb⟩;have z4:¬ (9223372036854775807<x.size+t.size):=(by omega);go_wp2;go_ret;refine⟨x++t,rfl,by rw[ByteArray.size_append];omega,?_,hb⟩;show x++t=_;rw[HX.out,HT.out,reps_add];congr 1;omega
    ·have z2:decide ((x.size:Int)<(n:Int))=false:=(by simp;omega);go_wp2;go_ret;exact⟨x,rfl,by omega,by show x=_;rw[HX.out];congr 1;omega,Below.refl _ _⟩
 ·have hn0:n=0:=(by omega);subst hn0;clear ih;go_enter func134,ntmps134;go_wp2_with fail;go_loopw [5] (λt wr=>t=.string ⟨#[]⟩/\wr=w) (λ_ _=>0)
  case atStart=>exact⟨rfl,rfl⟩
  case round =>
   obtain⟨rfl,rfl⟩:=hrel;go_wp2;go_ret;exact⟨⟨#[]⟩,rfl,rfl,rfl,Below.refl _ _⟩
def part63 (s:List UInt8) (a:Nat):List UInt8:=(s.drop a).take 63++List.replicate (63-(s.length-a)) 0
theorem qbS (s:List UInt8)(a:Nat):(part63 s a).length=63:=by
 unfold part63;rw[List.length_append,List.length_take,List.length_drop,List.length_replicate];omega
def markedTo (s f m:List UInt8):Nat->List UInt8
 | 0=>[]
 | q+1=>markedTo s f m q++part63 s (63*q)++(if q=0 then f else m)
theorem markedTo_length (s f m:List UInt8)(hf:f.length<=1)(hm:m.length<=1)(q:Nat):(markedTo s f m q).length<=64*q:=by
 induction q with
 | zero=>exact Nat.le_refl _
 | succ q ih =>
  rw[markedTo,List.length_append,List.length_append,qbS]
  split <;> omega
def marked (s f m:List UInt8):List UInt8:=markedTo s f m ((s.length+62) / 63)
theorem full_part (s:ByteArray)(a:Nat)(h:a+63<=s.size):s.extract a (a+63)=T (part63 s.data.toList a):=by
 conv=>lhs;rw[<-T_of s,T_extract]
 have e:63-(s.data.toList.length-a)=0:=by show 63-(s.size-a)=0;omega
 unfold part63;rw[e,List.replicate_zero,List.append_nil,Nat.add_sub_cancel_left]
theorem last_part (s:ByteArray)(a n:Nat)(h:s.size<a+63)(ha:a<=s.size)(hn:n=a+63-s.size):s.extract a s.size++reps n 0=T (part63 s.data.toList a):=by
 conv=>lhs;rw[<-T_of s,T_extract]
 unfold part63 reps;rw[T_append];have e:63-(s.data.toList.length-a)=n:=by show 63-(s.size-a)=n;omega
 rw[e,List.take_of_length_le (by rw[List.length_drop,T_size];exact Nat.le_refl _),List.take_of_length_le (by rw[List.length_drop];show s.size-a<=63;omega)]
theorem qbO {s f m x p y:ByteArray}{q a:Nat}(ha:63*q=a)(hx:x=T (markedTo s.data.toList f.data.toList m.data.toList q))(hp:p=T (part63 s.data.toList a))(hy:y=if q=0 then f else m) : x++p++y=T (markedTo s.data.toList f.data.toList m.data.toList (q+1)):=by
 rw[hx,hp,markedTo,<-T_append,<-T_append,ha,hy];congr 1
 split
 ·exact(T_of f).symm
 ·exact(T_of m).symm
theorem marked_any (s f m:ByteArray)(w:World)(hs:s.size<=1000000)(hf:f.size<=1)(hm:m.size<=1) : Calls prog 184 #[.string s,.string f,.string m] w λe w'=>∃t:ByteArray,e=.returned (.string t)/\Hid (t=T (marked s.data.toList f.data.toList m.data.toList))/\Below w.heap.size w w':=by
 have HL:=markedTo_length s.data.toList f.data.toList m.data.toList hf hm;go_enter func184,ntmps184;go_wp2_with fail;go_loopw [7,8] (λt7 t8 wr=>∃ (q:Nat) (x:ByteArray),q<=(s.size+62) / 63/\t7=.string x/\t8=.int .i64 ((63*q:Nat):Int)/\x.size<=64*q/\Hid (x=T (markedTo s.data.toList f.data.toList m.data.toList q))/\Below w.heap.size w wr) (λ_ t8 _=>s.size+63-(intOf t8).toNat)
 case atStart=>exact⟨0,⟨#[]⟩,by omega,rfl,rfl,Nat.le_refl _,rfl,Below.refl _ _⟩
 case round =>
  obtain⟨q,x,hq,rfl,rfl,hx,HX,hb⟩:=hrel;obtain⟨a,ha⟩:=eX (63*q);rw[ha];by_cases h1:a<s.size
  ·have z1:decide ((a:Int)<(s.size:Int))=true:=(by simp;omega);have z2:IntKind.i64.wrap ((a:Int)+63)=(a:Int)+63:=qaf _ (by omega) (by omega);have z3:(0:Int)<=(a:Int):=(by omega);have z4:(a:Int)<=(s.size:Int):=(by omega);by_cases h2:a+63<=s.size
   ·have y1:decide ((a:Int)+63<=(s.size:Int))=true:=(by simp;omega);have y2:(a:Int)<=(a:Int)+63:=(by omega);have y3:(a:Int)+63<=(s.size:Int):=(by omega);by_cases h3:q=0
    ·have x1:((a:Int) == 0)=true:=(by rw[beq_iff_eq];omega);go_wp2_with fail;have HE:=qbO (y:=f) ha HX.out (full_part s a h2) (by rw[if_pos h3]);refine⟨⟨q+1,_,by omega,rfl,congrArg (Value.int .i64) (by omega),?_,HE,hb⟩,?_⟩
     ·rw[HE];exact HL (q+1)
     ·show s.size+63-((a:Int)+63).toNat<s.size+63-((a:Int)).toNat;omega
    ·have x1:((a:Int) == 0)=false:=(by rw[beq_eq_false_iff_ne];omega);go_wp2_with fail;have HE:=qbO (y:=m) ha HX.out (full_part s a h2) (by rw[if_neg h3]);refine⟨⟨q+1,_,by omega,rfl,congrArg (Value.int .i64) (by omega),?_,HE,hb⟩,?_⟩
     ·rw[HE];exact HL (q+1)
     ·show s.size+63-((a:Int)+63).toNat<s.size+63-((a:Int)).toNat;omega
   ·have y1:decide ((a:Int)+63<=(s.size:Int))=false:=(by simp;omega);have y2:IntKind.i64.wrap ((a:Int)+63-(s.size:Int))=((a+63-s.size:Nat):Int):=(by rw[qaf _ (by omega) (by omega)];omega);go_wp2_with fail;go_region_held3 (λ_=>True) (exact trivial)
     (first|(go_at_call 134;refine(long_any 0 (a+63-s.size) (by omega) _).mono ?_;rintro e wA ⟨t,rfl,zt,HT,hbA⟩;have fB:¬ (9223372036854775807<s.size-a+t.size):=(by omega);clear zt))
    have hP:s.extract a s.size++t=T (part63 s.data.toList a):=(by rw[HT.out];exact last_part s a _ (by omega) (by omega) rfl);have hz:(s.extract a s.size++t).size=63:=(by rw[hP,T_size,qbS]);generalize s.extract a s.size++t=p at hP hz⊢;have HP:Hid (p=T (part63 s.data.toList a)):=hP;have hz':p.size<=63:=(by omega);have hbB:Below w.heap.size w wA:=hb.drew.trans (hbA.mono hb.size);clear hP hz hbA HT;have v1:¬ (9223372036854775807<x.size+p.size):=(by omega);have v2:¬ (9223372036854775807<x.size+p.size+f.size):=(by omega);have v3:¬ (9223372036854775807<x.size+p.size+m.size):=(by omega);by_cases h3:q=0
    ·have x1:((a:Int) == 0)=true:=(by rw[beq_iff_eq];omega);go_wp2_with fail;have HE:=qbO (y:=f) ha HX.out HP.out (by rw[if_pos h3]);refine⟨⟨q+1,_,by omega,rfl,congrArg (Value.int .i64) (by omega),?_,HE,hbB⟩,?_⟩
     ·rw[HE];exact HL (q+1)
     ·show s.size+63-((a:Int)+63).toNat<s.size+63-((a:Int)).toNat;omega
    ·have x1:((a:Int) == 0)=false:=(by rw[beq_eq_false_iff_ne];omega);go_wp2_with fail;have HE:=qbO (y:=m) ha HX.out HP.out (by rw[if_neg h3]);refine⟨⟨q+1,_,by omega,rfl,congrArg (Value.int .i64) (by omega),?_,HE,hbB⟩,?_⟩
     ·rw[HE];exact HL (q+1)
     ·show s.size+63-((a:Int)+63).toNat<s.size+63-((a:Int)).toNat;omega
  ·have z1:decide ((a:Int)<(s.size:Int))=false:=(by simp;omega);go_wp2;go_ret;refine⟨x,rfl,?_,hb⟩;show x=_;rw[HX.out,marked];congr 2;show q=(s.size+62) / 63;omega
def commitRec (v:Int) (root:ByteArray):ByteArray:=if 1<=v/\v<=1000000/\root.size<=32 then T (marked (four v.toNat++[UInt8.ofNat root.size]++root.data.toList) [67] []) else ⟨#[]⟩
theorem commitRec_any (v:Int)(root:ByteArray)(w:World)(hs:root.size<=1048576) : Calls prog 167 #[.int .i64 v,.string root] w λe w'=>∃t,e=.returned (.string t)/\Hid (t=commitRec v root)/\Below w.heap.size w w':=by
 by_cases h:1<=v/\v<=1000000/\root.size<=32
 ·obtain⟨n,rfl⟩:=Int.eq_ofNat_of_zero_le (show 0<=v by omega);have z1:decide ((n:Int)<1)=false:=(by simp;omega);have z2:decide ((1000000:Int)<(n:Int))=false:=(by simp;omega);have z3:decide ((32:Int)<(root.size:Int))=false:=(by simp;omega);go_enter func167,ntmps167;go_wp2_with fail;refine(four_any n (by omega) _).mono ?_;rintro e w1 ⟨t,rfl,ht,HT,hb⟩;go_wp2_with fail;refine(qdC _ (by omega) (by omega) _).mono ?_;rintro e w2 ⟨t2,rfl,ht2,HT2,hb2⟩;have z4:¬ (9223372036854775807<t.size+t2.size):=(by omega);have z5:¬ (9223372036854775807<t.size+t2.size+root.size):=(by omega);go_wp2_with fail;refine(marked_any _ ⟨#[67]⟩ ⟨#[]⟩ _ (by rw[ByteArray.size_append,ByteArray.size_append];omega) (Nat.le_refl _) (Nat.zero_le _)).mono ?_;rintro e w3 ⟨x,rfl,HX,hb3⟩;go_wp2;go_ret;refine⟨x,rfl,?_,(hb.trans (hb2.mono hb.size)).trans (hb3.mono (Nat.le_trans hb.size hb2.size))⟩;show x=_;rw[HX.out,HT.out,HT2.out,qch,commitRec,if_pos h]
  conv=>lhs;rw[<-T_of root,T_append,T_append]
  rw[T_of,Int.toNat_natCast,Int.toNat_natCast];rfl
 ·have HR:Hid (commitRec v root=⟨#[]⟩):=(by show commitRec v root=_;rw[commitRec,if_neg h]);by_cases h1:v<1
  ·have z1:decide (v<1)=true:=(by simpa using h1);go_enter func167,ntmps167;go_wp2;go_ret;exact⟨_,rfl,HR.out.symm,Below.refl _ _⟩
  by_cases h2:1000000<v
  ·have z1:decide (v<1)=false:=(by simpa using h1);have z2:decide (1000000<v)=true:=(by simpa using h2);go_enter func167,ntmps167;go_wp2;go_ret;exact⟨_,rfl,HR.out.symm,Below.refl _ _⟩
  ·have z1:decide (v<1)=false:=(by simpa using h1);have z2:decide (1000000<v)=false:=(by simpa using h2);have z3:decide ((32:Int)<(root.size:Int))=true:=(by simp;omega);go_enter func167,ntmps167;go_wp2;go_ret;exact⟨_,rfl,HR.out.symm,Below.refl _ _⟩
theorem qdB (v:Int)(root:ByteArray):(commitRec v root).size<=64:=by
 unfold commitRec
 split
 ·rename_i h;rw[T_size];have hl:(four v.toNat++[UInt8.ofNat root.size]++root.data.toList).length=5+root.size:=(by rw[List.length_append,List.length_append];rfl);unfold marked;rw[show ((four v.toNat++[UInt8.ofNat root.size]++root.data.toList).length+62) / 63=1 by omega,markedTo,markedTo,List.nil_append,if_pos rfl,List.length_append,qbS];exact Nat.le_refl _
 ·exact Nat.zero_le _
theorem long_d (c:UInt8)(m:Int)(n:Nat)(hm:m=(n:Int))(h1:n<=1048576)(w:World) : Calls prog 134 #[.int .i64 m,.string ⟨#[c]⟩] w λe w'=>e=.returned (.string (reps n c))/\Below w.heap.size w w':=by
 subst hm;exact(long_any c n h1 w).mono (by rintro e w' ⟨t,rfl,hz,HT,hb⟩;exact⟨by rw[HT.out],hb⟩)
theorem byte_d (m:Int)(n:Nat)(hm:m=(n:Int))(h1:n<=1048576)(w:World) : Calls prog 91 #[.int .i64 m] w λe w'=>e=.returned (.string (byteS n))/\Below w.heap.size w w':=by
 subst hm;exact byte_any n h1 w
theorem commit_d (v:Int)(root:ByteArray)(hs:root.size<=1048576)(w:World) :
 Calls prog 167 #[.int .i64 v,.string root] w λe w'=>e=.returned (.string (commitRec v root))/\Below w.heap.size w w' :=
 (commitRec_any v root w hs).mono (by rintro e w' ⟨t,rfl,HT,hb⟩;exact⟨by rw[HT.out],hb⟩)
theorem key_det (a:Option Addr)(xs:List Nat)(cap:Nat)(p:Nat)(hX:Code8 xs)(hp:p<=100000) : ∃t:ByteArray,t.size<=70/\∀w,BL a xs w->Calls prog 135 #[.slice a xs.length cap,.int .i64 (p:Int)] w λe w'=>e=.returned (.tuple #[.string t,.int .i64 ((p+1:Nat):Int)])/\Below w.heap.size w w':=by
 obtain⟨x,hx,HT⟩:=qaP a xs cap p 24 hX hp (by omega) (by omega)
 replace HT:Hid _:=HT
 by_cases h1:x<20
 ·have z1:decide ((x:Int)<20)=true:=(by simp;omega);have y1:IntKind.i64.wrap ((x:Int)+1)=(x:Int)+1:=qaf _ (by omega) (by omega);have y2:(x:Int)<=(x:Int)+1:=(by omega);have y3:(x:Int)+1<=20:=(by omega);refine⟨(⟨#[97,98,99,100,101,102,103,104,105,106,107,108,109,110,111,112,113,114,115,116]⟩:ByteArray).extract x (x+1),by rw[ByteArray.size_extract];omega,λw h=>?_⟩;go_enter func135,ntmps135;go_wp2_with fail;refine(HT.out w h).mono ?_;rintro e w1 ⟨rfl,hb⟩;go_wp2_with fail;go_ret2;exact⟨rfl,hb⟩
 have z1:decide ((x:Int)<20)=false:=by simp;omega
 by_cases h2:x=20
 ·subst h2;refine⟨⟨#[97,98]⟩,by decide,λw h=>?_⟩;go_enter func135,ntmps135;go_wp2_with fail;refine(HT.out w h).mono ?_;rintro e w1 ⟨rfl,hb⟩;go_wp2_with fail;go_ret2;exact⟨rfl,hb⟩
 have z2:((x:Int) == 20)=false:=by rw[beq_eq_false_iff_ne];omega
 by_cases h3:x=21
 ·subst h3;refine⟨⟨#[98,0]⟩,by decide,λw h=>?_⟩;go_enter func135,ntmps135;go_wp2_with fail;refine(HT.out w h).mono ?_;rintro e w1 ⟨rfl,hb⟩;go_wp2_with fail;go_ret2;exact⟨rfl,hb⟩
 have z3:((x:Int) == 21)=false:=by rw[beq_eq_false_iff_ne];omega
 by_cases h4:x=22
 ·subst h4;refine⟨⟨#[255,0,107]⟩,by decide,λw h=>?_⟩;go_enter func135,ntmps135;go_wp2_with fail;refine(HT.out w h).mono ?_;rintro e w1 ⟨rfl,hb⟩;go_wp2_with fail;go_ret2;exact⟨rfl,hb⟩
 have z4:((x:Int) == 22)=false:=by rw[beq_eq_false_iff_ne];omega
 refine⟨reps 70 107,by rw[qaS];omega,λw h=>?_⟩;go_enter func135,ntmps135;go_wp2_with fail;refine(HT.out w h).mono ?_;rintro e w1 ⟨rfl,hb⟩;go_wp2_with fail;refine(long_d _ 70 70 rfl (by omega) _).mono ?_;rintro e w2 ⟨rfl,hb2⟩;go_wp2_with fail;go_ret2;exact⟨rfl,hb.trans (hb2.mono hb.size)⟩
theorem val_det (a:Option Addr)(xs:List Nat)(cap:Nat)(p:Nat)(hX:Code8 xs)(hp:p<=90000) : ∃t:ByteArray,t.size<=300/\∀w,BL a xs w->Calls prog 136 #[.slice a xs.length cap,.int .i64 (p:Int)] w λe w'=>e=.returned (.tuple #[.string t,.int .i64 ((p+2:Nat):Int)])/\Below w.heap.size w w':=by
 obtain⟨x,hx,HT⟩:=qaP a xs cap p 16 hX (by omega) (by omega) (by omega);obtain⟨y,hy,HT2⟩:=qaP a xs cap (p+1) 120 hX (by omega) (by omega) (by omega)
 replace HT:Hid _:=HT
 replace HT2:Hid _:=HT2
 obtain⟨p1,hp1⟩:=eX (p+1);obtain⟨p2,hp2⟩:=eX (p+2);rw[show p+1+1=p2 by omega] at HT2;rw[hp1] at HT HT2;rw[hp2];clear hp1 hp2;by_cases h1:x<2
 ·have z1:decide ((x:Int)<2)=true:=(by simp;omega);refine⟨⟨#[]⟩,by decide,λw h=>?_⟩;go_enter func136,ntmps136;go_wp2_with fail;refine(HT.out w h).mono ?_;rintro e w1 ⟨rfl,hb1⟩;go_wp2_with fail;refine(HT2.out _ (h.below hb1)).mono ?_;rintro e w2 ⟨rfl,hb2⟩;have hb:Below w.heap.size w w2:=hb1.trans (hb2.mono hb1.size);go_wp2_with fail;go_ret2;exact⟨rfl,hb⟩
 have z1:decide ((x:Int)<2)=false:=by simp;omega
 by_cases h2:x=14
 ·subst h2;refine⟨reps (y*2) 118,by rw[qaS];omega,λw h=>?_⟩;go_enter func136,ntmps136;go_wp2_with fail;refine(HT.out w h).mono ?_;rintro e w1 ⟨rfl,hb1⟩;go_wp2_with fail;refine(HT2.out _ (h.below hb1)).mono ?_;rintro e w2 ⟨rfl,hb2⟩;have hb:Below w.heap.size w w2:=hb1.trans (hb2.mono hb1.size);go_wp2_with fail;refine(long_d _ _ (y*2) (by omega) (by omega) _).mono ?_;rintro e w3 ⟨rfl,hb3⟩;go_wp2_with fail;go_ret2;exact⟨rfl,hb.trans (hb3.mono hb.size)⟩
 have z2:((x:Int) == 14)=false:=by rw[beq_eq_false_iff_ne];omega
 by_cases h3:x=15
 ·subst h3;obtain⟨t3,ht3⟩:∃t,reps (y % 63) 0=t:=⟨_,rfl⟩;obtain⟨t4,ht4⟩:∃t,commitRec ((y % 4+1:Nat):Int) ⟨#[]⟩=t:=⟨_,rfl⟩;obtain⟨t6,ht6⟩:∃t,commitRec ((y % 3+1:Nat):Int) (reps 1 114)=t:=⟨_,rfl⟩;have k3:t3.size<=63:=(by rw[<-ht3,qaS];omega);have k4:t4.size<=64:=(by rw[<-ht4];exact qdB _ _);have k6:t6.size<=64:=(by rw[<-ht6];exact qdB _ _);have f1:¬ (9223372036854775807<t3.size+t4.size):=(by omega);have f2:¬ (9223372036854775807<t3.size+t4.size+t6.size):=(by omega);have H3:Hid (∀w m,m=((y % 63:Nat):Int)->Calls prog 134 #[.int .i64 m,.string ⟨#[0]⟩] w λe w'=>e=.returned (.string t3)/\Below w.heap.size w w'):=λw m hm=>by rw[<-ht3];exact long_d 0 m (y % 63) hm (by omega) w
  have H4:Hid (∀w m,m=((y % 4+1:Nat):Int)->Calls prog 167 #[.int .i64 m,.string ⟨#[]⟩] w λe w'=>e=.returned (.string t4)/\Below w.heap.size w w'):=λw m hm=>by rw[<-ht4,hm];exact commit_d _ _ (by decide) w
  have H6:Hid (∀w m,m=((y % 3+1:Nat):Int)->Calls prog 167 #[.int .i64 m,.string (reps 1 114)] w λe w'=>e=.returned (.string t6)/\Below w.heap.size w w'):=λw m hm=>by rw[<-ht6,hm];exact commit_d _ _ (by rw[qaS];omega) w
  clear ht3 ht4 ht6;refine⟨t3++t4++t6,by rw[ByteArray.size_append,ByteArray.size_append];omega,λw h=>?_⟩;go_enter func136,ntmps136;go_wp2_with fail;refine(HT.out w h).mono ?_;rintro e w1 ⟨rfl,hb1⟩;go_wp2_with fail;refine(HT2.out _ (h.below hb1)).mono ?_;rintro e w2 ⟨rfl,hb2⟩;have hb:Below w.heap.size w w2:=hb1.trans (hb2.mono hb1.size);go_wp2_with fail;refine(H3.out _ _ (by omega)).mono ?_;rintro e w3 ⟨rfl,hb3⟩;have hB3:=hb.trans (hb3.mono hb.size);go_wp2_with fail;refine(H4.out _ _ (by omega)).mono ?_;rintro e w4 ⟨rfl,hb4⟩;have hB4:=hB3.trans (hb4.mono hB3.size);go_wp2_with fail;refine(long_d _ _ 1 (by omega) (by omega) _).mono ?_;rintro e w5 ⟨rfl,hb5⟩;have hB5:=hB4.trans (hb5.mono hB4.size);go_wp2_with fail;refine(H6.out _ _ (by omega)).mono ?_;rintro e w6 ⟨rfl,hb6⟩;have hB6:=hB5.trans (hb6.mono hB5.size);clear hb hb3 hb4 hb5 hb6 hB3 hB4 hB5;go_wp2_with fail;go_ret2;exact⟨rfl,hB6⟩
 have z3:((x:Int) == 15)=false:=by rw[beq_eq_false_iff_ne];omega
 refine⟨⟨#[118]⟩++byteS (48+y % 10)++byteS (48+y / 10),by rw[ByteArray.size_append,ByteArray.size_append];show 1+1+1<=300;omega,λw h=>?_⟩;obtain⟨t3,ht3⟩:∃t,byteS (48+y % 10)=t:=⟨_,rfl⟩;obtain⟨t4,ht4⟩:∃t,byteS (48+y / 10)=t:=⟨_,rfl⟩;have k3:t3.size=1:=by rw[<-ht3];rfl
 have k4:t4.size=1:=by rw[<-ht4];rfl
 have H3:Hid (∀w m,m=((48+y % 10:Nat):Int)->Calls prog 91 #[.int .i64 m] w λe w'=>e=.returned (.string t3)/\Below w.heap.size w w'):=λw m hm=>by rw[<-ht3];exact byte_d m _ hm (by omega) w
 have H4:Hid (∀w m,m=((48+y / 10:Nat):Int)->Calls prog 91 #[.int .i64 m] w λe w'=>e=.returned (.string t4)/\Below w.heap.size w w'):=λw m hm=>by rw[<-ht4];exact byte_d m _ hm (by omega) w
 rw[ht3,ht4];clear ht3 ht4;have f1:¬ (9223372036854775807<1+t3.size):=by omega
 have f2:¬ (9223372036854775807<1+t3.size+t4.size):=by omega
 go_enter func136,ntmps136;go_wp2_with fail;refine(HT.out w h).mono ?_;rintro e w1 ⟨rfl,hb1⟩;go_wp2_with fail;refine(HT2.out _ (h.below hb1)).mono ?_;rintro e w2 ⟨rfl,hb2⟩;have hb:Below w.heap.size w w2:=hb1.trans (hb2.mono hb1.size);go_wp2_with fail;refine(H3.out _ _ (by omega)).mono ?_;rintro e w3 ⟨rfl,hb3⟩;have hB3:=hb.trans (hb3.mono hb.size);go_wp2_with fail;refine(H4.out _ _ (by omega)).mono ?_;rintro e w4 ⟨rfl,hb4⟩;have hB4:=hB3.trans (hb4.mono hB3.size);go_wp2_with fail;go_ret2;exact⟨rfl,hB4⟩
theorem kv_det (a:Option Addr)(xs:List Nat)(cap:Nat)(hX:Code8 xs):∃kf vf:Nat->ByteArray,∀p:Nat,p<=80000->(kf p).size<=70/\(vf p).size<=300/\(∀w,BL a xs w->Calls prog 135 #[.slice a xs.length cap,.int .i64 (p:Int)] w λe w'=>e=.returned (.tuple #[.string (kf p),.int .i64 ((p+1:Nat):Int)])/\Below w.heap.size w w')/\∀w,BL a xs w->Calls prog 136 #[.slice a xs.length cap,.int .i64 (p:Int)] w λe w'=>e=.returned (.tuple #[.string (vf p),.int .i64 ((p+2:Nat):Int)])/\Below w.heap.size w w':=by
 have h:∀p:Nat,∃kv:ByteArray × ByteArray,p<=80000->kv.1.size<=70/\kv.2.size<=300/\(∀w,BL a xs w->Calls prog 135 #[.slice a xs.length cap,.int .i64 (p:Int)] w λe w'=>e=.returned (.tuple #[.string kv.1,.int .i64 ((p+1:Nat):Int)])/\Below w.heap.size w w')/\∀w,BL a xs w->Calls prog 136 #[.slice a xs.length cap,.int .i64 (p:Int)] w λe w'=>e=.returned (.tuple #[.string kv.2,.int .i64 ((p+2:Nat):Int)])/\Below w.heap.size w w':=λp=>by
  by_cases hp:p<=80000
  ·obtain⟨k,hk,HK⟩:=key_det a xs cap p hX (by omega);obtain⟨v,hv,HV⟩:=val_det a xs cap p hX (by omega);exact⟨(k,v),λ_=>⟨hk,hv,HK,HV⟩⟩
  ·exact⟨(⟨#[]⟩,⟨#[]⟩),λq=>absurd q hp⟩
 obtain⟨f,hf⟩:=Classical.axiomOfChoice h;exact⟨λp=>(f p).1,λp=>(f p).2,hf⟩
def mapD (kf vf:Nat->ByteArray) (p:Nat):Nat->List PairT
 | 0=>[]
 | i+1=>wth (mapD kf vf p i) (kf (p+3*i)) (vf (p+3*i+1))
structure SmP (ps:List PairT) (n:Nat):Prop where
 len:ps.length<=n
 up:KeysUp (keys ps)
 sz:∀q ∈ ps,q.1.size<=70/\q.2.size<=300
theorem SmP.small {ps:List PairT}{n:Nat}(h:SmP ps n)(hn:n<=100000):SmallP ps:=qbg (by have:=h.len;omega) (λq hq=>by have:=h.sz q hq;omega)
theorem SmP.wth {ps:List PairT}{n:Nat}(h:SmP ps n){k v:ByteArray}(hk:k.size<=70)(hv:v.size<=300):SmP (wth ps k v) (n+1) :=
 ⟨by have:=wthLen ps k v;have:=h.len;omega,ku_wth h.up k v,λq hq=>by
  rcases wth_mem hq with e|e
  ·rw[e];exact⟨hk,hv⟩
  ·exact h.sz q e⟩
theorem map1_det (a:Option Addr)(xs:List Nat)(cap p n:Nat)(hX:Code8 xs)(hp:p<=70000)(hn:n<=100) : ∃ps:List PairT,(SmP ps n/\(0<n->0<ps.length))/\∀w,BL a xs w->Calls prog 117 #[.slice a xs.length cap,.int .i64 (p:Int),.int .i64 (n:Int)] w λe w'=>∃a' c',e=.returned (.tuple #[.slice a' ps.length c',.int .i64 ((p+3*n:Nat):Int)])/\OwnP w ps a' ps.length c' w':=by
 obtain⟨kf,vf,hkv⟩:=kv_det a xs cap hX;have hsm:∀i,i<=n->SmP (mapD kf vf p i) i:=by
  intro i
  induction i with
  | zero=>intro _;exact⟨Nat.le_refl _,trivial,λq hq=>by cases hq⟩
  | succ i ih =>
   intro hi;exact(ih (by omega)).wth (hkv _ (by omega)).1 (hkv _ (by omega)).2.1
 refine⟨mapD kf vf p n,⟨hsm n (Nat.le_refl _),λh0=>?_⟩,λw hB=>?_⟩
 ·obtain⟨i,rfl⟩:∃i,n=i+1:=⟨n-1,by omega⟩;have hm:kf (p+3*i) ∈ keys (mapD kf vf p (i+1)):=mem_wth.2 (.inl rfl);have h1:=List.length_pos_of_mem hm;unfold keys at h1
  rwa [List.length_map] at h1
 have HKV:Hid (∀i w',i<=n->Below w.heap.size w w'->Calls prog 135 #[.slice a xs.length cap,.int .i64 ((p+3*i:Nat):Int)] w' (λe w''=>e=.returned (.tuple #[.string (kf (p+3*i)),.int .i64 ((p+3*i+1:Nat):Int)])/\Below w'.heap.size w' w'')/\Calls prog 136 #[.slice a xs.length cap,.int .i64 ((p+3*i+1:Nat):Int)] w' (λe w''=>e=.returned (.tuple #[.string (vf (p+3*i+1)),.int .i64 ((p+3*i+1+2:Nat):Int)])/\Below w'.heap.size w' w'')):=λi w' hi hb=>⟨(hkv (p+3*i) (by omega)).2.2.1 w' (hB.below hb),(hkv (p+3*i+1) (by omega)).2.2.2 w' (hB.below hb)⟩;have HW:Hid (∀i a3 c3 w',i<n->PArg a3 (mapD kf vf p i) w'->Calls prog 86 #[.slice a3 (mapD kf vf p i).length c3,.string (kf (p+3*i)),.string (vf (p+3*i+1))] w' (PairsAt (mapD kf vf p (i+1)) w')):=λi a3 c3 w' hi hP=>with_any a3 _ c3 _ _ w' hP (by have:=(hkv (p+3*i) (by omega)).1;omega) (by have:=(hsm i (by omega)).len;omega);have hO:OwnP w [] (some ⟨w.heap.size,0,none⟩) 0 0 (w.alloc (.cells #[] 81)):=OwnP.nil w;have HP:Hid (∀i a3 m c3 W,i<=n->OwnP w (mapD kf vf p i) a3 m c3 W->PArg a3 (mapD kf vf p i) W):=λi a3 m c3 W hi h=>qau h ((hsm i hi).small (by omega));clear hB hkv hsm;obtain⟨L,hL⟩:=eX (xs.length);rw[hL] at HKV⊢;clear hL;go_enter func117,ntmps117;go_wp2_with fail;generalize w.alloc (.cells #[] 81)=W0 at hO⊢;obtain⟨g0,hg0⟩:∃g,w.heap.size=g:=⟨_,rfl⟩;have hO':OwnP w [] (some ⟨g0,0,none⟩) 0 0 W0:=by rw[<-hg0];exact hO
 try rw[hg0]
 clear hO hg0;go_loopw [1,8,9] (λt1 t8 t9 wr=>∃ (i:Nat) (a3:Option Addr) (c3:Nat),i<=n/\t9=.int .i64 (i:Int)/\t1=.int .i64 ((p+3*i:Nat):Int)/\t8=.slice a3 (mapD kf vf p i).length c3/\OwnP w (mapD kf vf p i) a3 (mapD kf vf p i).length c3 wr) (λ_ _ t9 _=>n-(intOf t9).toNat)
 case atStart=>exact⟨0,some ⟨g0,0,none⟩,0,Nat.zero_le _,rfl,rfl,rfl,hO'⟩
 case round =>
  clear hO';obtain⟨i,a3,c3,hi,rfl,rfl,rfl,hT⟩:=hrel;by_cases hlt:i<n
  ·have z1:decide ((i:Int)<(n:Int))=true:=(by simp;omega);have hP:=HP.out i a3 _ c3 wr hi hT;have HW':Hid (∀w',PArg a3 (mapD kf vf p i) w'->Calls prog 86 #[.slice a3 (mapD kf vf p i).length c3,.string (kf (p+3*i)),.string (vf (p+3*i+1))] w' (PairsAt (mapD kf vf p (i+1)) w')):=λw' q=>HW.out i a3 c3 w' hlt q;unfold PairsAt at HW';have HKV':Hid (∀w',Below w.heap.size w w'->Calls prog 135 #[.slice a L cap,.int .i64 ((p+3*i:Nat):Int)] w' (λe w''=>e=.returned (.tuple #[.string (kf (p+3*i)),.int .i64 ((p+3*i+1:Nat):Int)])/\Below w'.heap.size w' w'')/\Calls prog 136 #[.slice a L cap,.int .i64 ((p+3*i+1:Nat):Int)] w' (λe w''=>e=.returned (.tuple #[.string (vf (p+3*i+1)),.int .i64 ((p+3*i+1+2:Nat):Int)])/\Below w'.heap.size w' w'')):=λw' hb=>HKV.out i w' hi hb;have hbw:=hT.bel;have hnx:Hid (p+3*i+1+2=p+3*(i+1)):=(by show _=_;omega);obtain⟨X,hX'⟩:∃X,mapD kf vf p i=X:=⟨_,rfl⟩;obtain⟨Y,hY⟩:=eX (mapD kf vf p (i+1));have hYH:Hid (mapD kf vf p (i+1)=Y):=hY;rw[hX'] at HW' hP;rw[hX'];rw[hY] at HW';generalize kf (p+3*i)=ky at HKV' HW';generalize vf (p+3*i+1)=vl at HKV' HW';obtain⟨q0,hq0⟩:∃q,p+3*i=q:=⟨_,rfl⟩;rw[hq0] at HKV' hnx⊢;clear hT hX' hY hq0;go_wp2_with (first|(go_at_call 135;refine(HKV'.out _ hbw).1.mono ?_;rintro e w1 ⟨rfl,hb1⟩;have hbw1:=hbw.trans (hb1.mono hbw.size))|(go_at_call 136;refine(HKV'.out _ hbw1).2.mono ?_;rintro e w2 ⟨rfl,hb2⟩;have hbw2:=hbw1.trans (hb2.mono hbw1.size))|(go_at_call 86;refine(HW'.out _ ((hP.below hb1).below hb2)).mono ?_;rintro e w3 ⟨a4,c4,rfl,hT4⟩;have hT4':=hT4.up hbw2));go_roundw
   case rel=>exact⟨i+1,a4,c4,hlt,by go_num,by rw[<-hnx.out];rfl,by rw[hYH.out],by rw[hYH.out];exact hT4'⟩
   case measure=>simp[intOf];omega
  ·obtain rfl:i=n:=by omega
   have z1:decide ((i:Int)<(i:Int))=false:=(by simp);go_wp2_with fail;go_ret2;exact⟨a3,c3,rfl,hT⟩
theorem map_det (a:Option Addr)(xs:List Nat)(cap p n:Nat)(hX:Code8 xs)(hp:p<=70000)(hn:n<=100) : ∃ps:List PairT,SmP ps n/\∀w,BL a xs w->Calls prog 117 #[.slice a xs.length cap,.int .i64 (p:Int),.int .i64 (n:Int)] w λe w'=>∃a' c',e=.returned (.tuple #[.slice a' ps.length c',.int .i64 ((p+3*n:Nat):Int)])/\OwnP w ps a' ps.length c' w':=by
 obtain⟨ps,⟨h1,_⟩,H⟩:=map1_det a xs cap p n hX hp hn;exact⟨ps,h1,H⟩
theorem take3_det (a:Option Addr)(xs:List Nat)(cap m:Nat)(hX:Code8 xs)(h1:1<=m)(h2:m<=100000):∃af:Nat->Nat,∀p:Nat,p<=80000->af p<m/\∀w,BL a xs w->Calls prog 58 #[.slice a xs.length cap,.int .i64 (p:Int),.int .i64 (m:Int)] w λe w'=>e=.returned (.tuple #[.int .i64 (af p:Int),.int .i64 ((p+1:Nat):Int)])/\Below w.heap.size w w':=by
 have h:∀p:Nat,∃x:Nat,p<=80000->x<m/\∀w,BL a xs w->Calls prog 58 #[.slice a xs.length cap,.int .i64 (p:Int),.int .i64 (m:Int)] w λe w'=>e=.returned (.tuple #[.int .i64 (x:Int),.int .i64 ((p+1:Nat):Int)])/\Below w.heap.size w w':=λp=>by
  by_cases hp:p<=80000
  ·obtain⟨x,hx,HT⟩:=qaP a xs cap p m hX (by omega) h1 h2;exact⟨x,λ_=>⟨hx,HT⟩⟩
  ·exact⟨0,λq=>absurd q hp⟩
 exact Classical.axiomOfChoice h
def nearD (af:Nat->Nat) (kf vf:Nat->ByteArray) (p:Nat) (ps:List PairT):Nat->List PairT
 | 0=>ps
 | i+1=>if af (p+1+4*i)=0 then wout (nearD af kf vf p ps i) (kf (p+2+4*i)) else wth (nearD af kf vf p ps i) (kf (p+2+4*i)) (vf (p+3+4*i))
def PGot (qs ps:List PairT) (z:Nat) (a3:Option Addr) (w:World) (e:Ending) (w':World):Prop:=∃a' c',e=.returned (.tuple #[.slice a' qs.length c',.int .i64 (z:Int)])/\PArg a' qs w'/\qs.length<=c'/\(∀b off,a'=some ⟨b,off,none⟩->w.heap.size<=b\/(a'=a3/\qs=ps))/\Below w.heap.size w w'
theorem OwnP.ge {w W:World}{xs:List PairT}{a:Option Addr}{m c:Nat}(h:OwnP w xs a m c W):∀b off,a=some ⟨b,off,none⟩->w.heap.size<=b:=λb off e=>by
 subst e;exact(qaI h.own (g:=b) rfl).1
theorem count_any (a:Option Addr)(L cap per lo hi:Nat)(w:World)(hp:1<=per)(hL:L<=1048576)(hlo:lo<=1000)(hhi:hi<=1000):Calls prog 118 #[.slice a L cap,.int .i64 (per:Int),.int .i64 (lo:Int),.int .i64 (hi:Int)] w λe w'=>e=.returned (.int .i64 ((if hi<lo+L / per then hi else lo+L / per:Nat):Int))/\w'=w:=by
 have hq:(L:Int).tdiv (per:Int)=((L / per:Nat):Int):=by rw[<-Int.ofNat_tdiv]
 have hle:L / per<=L:=Nat.div_le_self L per;have hne:¬ ((per:Int)=0):=by omega
 have z0:((per:Int) == 0)=false:=by simp;omega
 obtain⟨d,hd⟩:=eX (L / per);rw[hd] at hq hle⊢;have w1:wrap64 ((lo:Int)+(d:Int))=(lo:Int)+(d:Int):=wr_in64 _ (by omega);by_cases h:hi<lo+d
 ·rw[if_pos h];have z:decide ((hi:Int)<(lo:Int)+(d:Int))=true:=(by rw[decide_eq_true_eq];omega);go_enter func118,ntmps118;go_wp2_with fail;go_ret;exact⟨rfl,rfl⟩
 ·rw[if_neg h];have z:decide ((hi:Int)<(lo:Int)+(d:Int))=false:=(by rw[decide_eq_false_iff_not];omega);go_enter func118,ntmps118;go_wp2_with fail;go_ret;exact⟨by first|rfl|(congr 2;omega),rfl⟩
end Go.Proofs.YtibjhkpgaaapaaaGreatDoor
