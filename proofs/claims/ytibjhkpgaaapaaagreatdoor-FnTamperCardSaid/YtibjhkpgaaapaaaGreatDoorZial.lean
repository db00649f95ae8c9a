import Derived.Test.YtibjhkpgaaapaaaGreatDoorZiak
import Derived.Test.YtibjhkpgaaapaaaGreatDoorZiag
import Derived.WalkSpells
import Derived.WalkLawsBesides
import Derived.Deep.RegionHeld3
import Derived.Test.YtibjhkpgaaapaaaGreatDoorZiab
set_option maxRecDepth 100000
set_option maxHeartbeats 1000000
namespace Go.Proofs.YtibjhkpgaaapaaaGreatDoor
open Go.RowKit Go.Proofs.Sha Tryz
theorem equal_any (a b:Option Addr)(ps qs:List PairT)(c d:Nat)(w:World)(h:PArg a ps w)(h':PArg b qs w) : Calls prog 42 #[.slice a ps.length c,.slice b qs.length d] w λe w'=>e=.returned (.bool (decide (ps=qs)))/\Below w.heap.size w w':=by
 have hn:=h.le;have hm:=h'.le;obtain⟨R,hR⟩:=eX (decide (ps=qs));rw[hR];have HR:Hid (decide (ps=qs)=R):=hR;clear hR;obtain⟨N,hN⟩:=eX (ps.length);obtain⟨M,hM⟩:=eX (qs.length);rw[hN] at hn⊢;rw[hM] at hm⊢;by_cases hNM:N=M
 ·subst hNM;have hNl:Hid (ps.length=N):=hN;have hMl:Hid (qs.length=N):=hM;clear hN hM;go_enter func42,ntmps42;go_wp2_with fail;go_loopw [13] (λt wr=>∃k:Nat,k<=N/\t=.int .i64 (k:Int)/\Hid (ps.take k=qs.take k)/\Below w.heap.size w wr) (λt _=>N-(intOf t).toNat)
  case atStart=>exact⟨0,Nat.zero_le _,rfl,rfl,Below.refl _ _⟩
  case round =>
   obtain⟨k,hk,rfl,hsame,hbw⟩:=hrel;by_cases hlt:k<N
   ·have z1:decide ((k:Int)<(N:Int))=true:=(by simp;omega);have hx0:(0:Int)<=(k:Int):=Int.natCast_nonneg _;have hx1:(k:Int)<(N:Int):=(by omega);obtain⟨b1,off1,rfl,hbl1,hc⟩:=(h.below hbw).at_ (by rw[hNl.out];omega);obtain⟨b2,off2,rfl,hbl2,hd⟩:=(h'.below hbw).at_ (by rw[hMl.out];omega);obtain⟨hc1,hc2⟩:=hc k (by rw[hNl.out];exact hlt);obtain⟨hd1,hd2⟩:=hd k (by rw[hMl.out];exact hlt);have hkl:k<ps.length:=(by rw[hNl.out];exact hlt);have hkm:k<qs.length:=(by rw[hMl.out];exact hlt);have g1:=qaF ps k hkl;have g2:=qaF qs k hkm;have hstep:ps.getD k noPair=qs.getD k noPair->ps.take (k+1)=qs.take (k+1):=λe=>by
     rw[List.take_succ_eq_append_getElem hkl,List.take_succ_eq_append_getElem hkm,hsame.out,<-g1,<-g2,e]
    have hneq:ps.getD k noPair ≠ qs.getD k noPair->R=false:=λe=>by
     rw[<-HR.out];exact decide_eq_false λq=>e (by rw[q])
    clear g1 g2 hkl hkm hc hd;obtain⟨x,hx⟩:=eX (ps.getD k noPair);obtain⟨y,hy⟩:=eX (qs.getD k noPair);rw[hx] at hc1 hc2;rw[hy] at hd1 hd2;rw[hx,hy] at hstep hneq;clear hx hy;obtain⟨xk,xv⟩:=x;obtain⟨yk,yv⟩:=y
    dsimp only at hc1 hc2 hd1 hd2
    replace hstep:Hid _:=hstep
    replace hneq:Hid _:=hneq
    cases v1:(xk.toList == yk.toList) with
    | false =>
     have hRf:Hid (R=false):=hneq.out (λe=>by
      have:xk=yk:=congrArg Prod.fst e
      subst this
      rw[beq_self_eq_true] at v1
      cases v1)
     clear hstep hneq HR hsame;go_wp2_with fail;go_region_held3 (λW=>W.cell? ⟨b1,off1+k*2,none⟩=some (.string xk)/\W.cell? ⟨b1,off1+k*2+1,none⟩=some (.string xv)/\W.cell? ⟨b2,off2+k*2,none⟩=some (.string yk)/\W.cell? ⟨b2,off2+k*2+1,none⟩=some (.string yv)) (exact⟨hc1,hc2,hd1,hd2⟩) (fail);go_wp2_with fail;go_ret;exact⟨by rw[hRf.out];rfl,hbw.drew⟩
    | true =>
     cases v2:(xv.toList == yv.toList) with
     | false =>
      have hRf:Hid (R=false):=hneq.out (λe=>by
       have:xv=yv:=congrArg Prod.snd e
       subst this
       rw[beq_self_eq_true] at v2
       cases v2)
      clear hstep hneq HR hsame;go_wp2_with fail;go_region_held3 (λW=>W.cell? ⟨b1,off1+k*2,none⟩=some (.string xk)/\W.cell? ⟨b1,off1+k*2+1,none⟩=some (.string xv)/\W.cell? ⟨b2,off2+k*2,none⟩=some (.string yk)/\W.cell? ⟨b2,off2+k*2+1,none⟩=some (.string yv)) (exact⟨hc1,hc2,hd1,hd2⟩) (fail);go_wp2_with fail;go_ret;exact⟨by rw[hRf.out];rfl,hbw.drew⟩
     | true =>
      have e1:xk=yk:=ByteArray.ext (Array.toList_inj.1 (by rw[beq_iff_eq,ByteArray.toList_eq,ByteArray.toList_eq] at v1;exact v1));have e2:xv=yv:=ByteArray.ext (Array.toList_inj.1 (by rw[beq_iff_eq,ByteArray.toList_eq,ByteArray.toList_eq] at v2;exact v2));have hs':Hid (ps.take (k+1)=qs.take (k+1)):=hstep.out (by rw[e1,e2]);clear hstep hneq HR hsame e1 e2;go_wp2_with fail;go_region_held3 (λW=>W.cell? ⟨b1,off1+k*2,none⟩=some (.string xk)/\W.cell? ⟨b1,off1+k*2+1,none⟩=some (.string xv)/\W.cell? ⟨b2,off2+k*2,none⟩=some (.string yk)/\W.cell? ⟨b2,off2+k*2+1,none⟩=some (.string yv)) (exact⟨hc1,hc2,hd1,hd2⟩) (fail);go_wp2_with fail;go_roundw
      case rel=>exact⟨k+1,hlt,by go_num,hs',hbw.drew⟩
      case measure=>simp[intOf];omega
   ·obtain rfl:k=N:=by omega
    have z1:decide ((k:Int)<(k:Int))=false:=(by simp);have hRt:Hid (R=true):=by
     show R=true;rw[<-HR.out,decide_eq_true_eq];have e:=hsame.out;rw[List.take_of_length_le (by rw[hNl.out];exact Nat.le_refl _),List.take_of_length_le (by rw[hMl.out];exact Nat.le_refl _)] at e;exact e
    clear hsame HR;go_wp2_with fail;go_ret;exact⟨by rw[hRt.out];rfl,hbw⟩
 ·have z0:((N:Int) != (M:Int))=true:=(by rw[bne_iff_ne];omega);have hRf:Hid (R=false):=by
   show R=false;rw[<-HR.out];exact decide_eq_false λe=>hNM (by rw[<-hN,<-hM,e])
  clear HR hN hM;go_enter func42,ntmps42;go_wp2_with fail;go_ret;exact⟨by rw[hRf.out];rfl,Below.refl _ _⟩
def txt (e:ByteArray):ByteArray:=⟨#[78]⟩++e
theorem qcu (e:ByteArray)(w:World)(he:e.size<=1048576):Calls prog 104 #[.string e] w λy w'=>y=.returned (.string (txt e))/\w'=w:=by
 have z:¬ (9223372036854775807<(⟨#[78]⟩:ByteArray).size+e.size):=by show ¬ _<1+e.size;omega
 have z':¬ (9223372036854775807<1+e.size):=by omega
 unfold txt;go_enter func104,ntmps104;go_wp2_with fail;go_ret;exact⟨rfl,rfl⟩
def Rd (r:Nat) (s:ByteArray) (a:Nat) (f:Bool) (w:World):Prop:=w.heap[r]?=some (.cells #[.string s,.int .i64 (a:Int),.bool f] 138)
structure Mv (r:Nat) (w w':World):Prop where
 os:w'.os=w.os
 tape:w'.tape=w.tape
 output:w'.output=w.output
 size:w.heap.size<=w'.heap.size
 block:∀k,k<w.heap.size->k ≠ r->w'.heap[k]?=w.heap[k]?
theorem Mv.refl (r:Nat)(w:World):Mv r w w:=⟨rfl,rfl,rfl,Nat.le_refl _,λ_ _ _=>rfl⟩
theorem Mv.trans {r:Nat}{a b c:World}(h:Mv r a b)(k:Mv r b c):Mv r a c :=
 ⟨k.os.trans h.os,k.tape.trans h.tape,k.output.trans h.output,Nat.le_trans h.size k.size,λi hi hr=>(k.block i (Nat.lt_of_lt_of_le hi h.size) hr).trans (h.block i hi hr)⟩
theorem Mv.of_below {w w':World}(r:Nat)(h:Below w.heap.size w w'):Mv r w w':=⟨h.os,h.tape,h.output,h.size,λk hk _=>h.block k hk⟩
theorem Mv.to_below {r B:Nat}{w w':World}(h:Mv r w w')(hB:B<=w.heap.size)(hr:B<=r):Below B w w':=⟨h.os,h.tape,h.output,h.size,λk hk=>h.block k (Nat.lt_of_lt_of_le hk hB) (by omega)⟩
theorem Mv.alloc {r:Nat}{a w:World}(h:Mv r a w)(o:Obj):Mv r a (w.alloc o):=h.trans (Mv.of_below r ((Below.refl _ _).alloc (Nat.le_refl _) _))
theorem Mv.drew {r:Nat}{a w:World}(h:Mv r a w):Mv r a w.drew:=⟨h.os,h.tape,h.output,h.size,h.block⟩
theorem Mv.setCell {r:Nat}{a w:World}(h:Mv r a w)(i:Nat)(v:Value):Mv r a (w.setCell ⟨r,i,none⟩ v) :=
 ⟨h.os,h.tape,h.output,by rw[show (w.setCell ⟨r,i,none⟩ v).heap.size=w.heap.size by simp[World.setCell]];exact h.size,λk hk hr=>(heap_setCell_other w ⟨r,i,none⟩ k v hr).trans (h.block k hk hr)⟩
theorem Mv.cells {r k:Nat}{w w':World}{o:Obj}(h:Mv r w w')(hk:w.heap[k]?=some o)(hr:k ≠ r):w'.heap[k]?=some o :=
 (h.block k (zG hk).1 hr).trans hk
theorem Rd.lt {r:Nat}{s:ByteArray}{a:Nat}{f:Bool}{w:World}(h:Rd r s a f w):r<w.heap.size:=(zG h).1
theorem Rd.below {r:Nat}{s:ByteArray}{a:Nat}{f:Bool}{w w':World}(h:Rd r s a f w)(hb:Below w.heap.size w w'):Rd r s a f w':=qab hb h
theorem Rd.alloc {r:Nat}{s:ByteArray}{a:Nat}{f:Bool}{w:World}(h:Rd r s a f w)(o:Obj):Rd r s a f (w.alloc o):=h.below ((Below.refl _ _).alloc (Nat.le_refl _) _)
theorem Rd.drew {r:Nat}{s:ByteArray}{a:Nat}{f:Bool}{w:World}(h:Rd r s a f w):Rd r s a f w.drew:=h
theorem Rd.setF {r:Nat}{s:ByteArray}{a:Nat}{f:Bool}{w:World}(h:Rd r s a f w)(g:Bool):Rd r s a g (w.setCell ⟨r,2,none⟩ (.bool g)):=heap_setCell_same w r 2 _ 138 _ h
theorem Rd.setA {r:Nat}{s:ByteArray}{a:Nat}{f:Bool}{w:World}(h:Rd r s a f w)(b:Nat):Rd r s b f (w.setCell ⟨r,1,none⟩ (.int .i64 (b:Int))):=heap_setCell_same w r 1 _ 138 _ h
theorem qac {w:World}{k j:Nat}{cs:Array Value}{t:TypeId}(h:w.heap[k]?=some (.cells cs t)):w.frozen? ⟨k,j,none⟩=false:=by rw[World.frozen?,h];rfl
theorem qdJ (r:Nat)(s:ByteArray)(a:Nat)(f:Bool)(w:World)(h:Rd r s a f w) : Calls prog 228 #[.pointer (some ⟨r,0,none⟩)] w λe w'=>e=.returned (.tuple #[])/\Rd r s a true w'/\Mv r w w':=by
 have c2:w.cell? ⟨r,2,none⟩=some (.bool f):=ZC h 2;have f2:w.frozen? ⟨r,2,none⟩=false:=qac h;go_enter func228,ntmps228;go_wp2;go_end0;exact⟨rfl,h.setF true,(Mv.refl r w).setCell 2 _⟩
def NX (s:ByteArray) (a:Nat) (f:Bool) (n:Nat) (t:ByteArray) (a':Nat) (f':Bool):Prop :=
 (f=false/\a+n<=s.size/\t=s.extract a (a+n)/\a'=a+n/\f'=false)\/((f=true\/¬ a+n<=s.size)/\t=⟨#[]⟩/\a'=a/\f'=true)
theorem next_any (r:Nat)(s:ByteArray)(a:Nat)(f:Bool)(n:Nat)(w:World)(h:Rd r s a f w)(ha:a<=s.size)(hs:s.size<=1300000)(hn:n<=4294967296) : Calls prog 235 #[.pointer (some ⟨r,0,none⟩),.int .i64 (n:Int)] w λe w'=>∃t a' f',e=.returned (.string t)/\Hid (NX s a f n t a' f')/\a'<=s.size/\t.size<=s.size/\Rd r s a' f' w'/\Mv r w w':=by
 have c0:w.cell? ⟨r,0,none⟩=some (.string s):=ZC h 0;have c1:w.cell? ⟨r,1,none⟩=some (.int .i64 (a:Int)):=ZC h 1;have c2:w.cell? ⟨r,2,none⟩=some (.bool f):=ZC h 2;have f1:w.frozen? ⟨r,1,none⟩=false:=qac h;cases f
 ·by_cases h1:a+n<=s.size
  ·have z1:decide ((s.size:Int)-(a:Int)<(n:Int))=false:=(by simp;omega);have z2:IntKind.i64.wrap ((s.size:Int)-(a:Int))=(s.size:Int)-(a:Int):=qaf _ (by omega) (by omega);go_enter func235,ntmps235;go_wp2_with fail;go_region_held3 (λW=>W.cell? ⟨r,0,none⟩=some (.string s)/\W.cell? ⟨r,1,none⟩=some (.int .i64 (a:Int))/\W.cell? ⟨r,2,none⟩=some (.bool false)) (exact⟨c0,c1,c2⟩) (fail);go_wp2_with fail;have z3:IntKind.i64.wrap ((a:Int)+(n:Int))=(a:Int)+(n:Int):=qaf _ (by omega) (by omega);have y1:(0:Int)<=(a:Int):=(by omega);have y2:(a:Int)<=(a:Int)+(n:Int):=(by omega);have y3:(a:Int)+(n:Int)<=(s.size:Int):=(by omega);go_region_held3 (λW=>W.cell? ⟨r,0,none⟩=some (.string s)/\W.cell? ⟨r,1,none⟩=some (.int .i64 (a:Int))) (exact⟨c0,c1⟩) (fail);go_wp2;go_ret;have e1:((a:Int)+(n:Int)).toNat=a+n:=(by omega);have e2:((a:Int)+(n:Int))=((a+n:Nat):Int):=(by omega);rw[e1,e2];refine⟨_,a+n,false,rfl,.inl ⟨rfl,h1,rfl,rfl,rfl⟩,h1,?_,h.setA (a+n),((Mv.refl r w).setCell 1 _).drew.drew⟩;rw[ByteArray.size_extract];omega
  ·have z1:decide ((s.size:Int)-(a:Int)<(n:Int))=true:=(by simp;omega);have z2:IntKind.i64.wrap ((s.size:Int)-(a:Int))=(s.size:Int)-(a:Int):=qaf _ (by omega) (by omega);go_enter func235,ntmps235;go_wp2_with fail;go_region_held3 (λW=>W.cell? ⟨r,0,none⟩=some (.string s)/\W.cell? ⟨r,1,none⟩=some (.int .i64 (a:Int))/\W.cell? ⟨r,2,none⟩=some (.bool false)) (exact⟨c0,c1,c2⟩) (fail);go_wp2_with (first|(go_at_call 228;refine(qdJ r s a false _ h.drew).mono ?_;rintro e w2 ⟨rfl,hr2,hm2⟩));go_ret;exact⟨_,_,_,rfl,.inr ⟨.inr h1,rfl,rfl,rfl⟩,ha,Nat.zero_le _,hr2,(Mv.refl r w).drew.trans hm2⟩
 ·go_enter func235,ntmps235;go_wp2_with fail;go_region;go_wp2_with (first|(go_at_call 228;refine(qdJ r s a true _ h.drew).mono ?_;rintro e w2 ⟨rfl,hr2,hm2⟩));go_ret;exact⟨_,_,_,rfl,.inr ⟨.inl rfl,rfl,rfl,rfl⟩,ha,Nat.zero_le _,hr2,(Mv.refl r w).drew.trans hm2⟩
theorem i64_or_nat (a b:Nat)(ha:a<4294967296)(hb:b<4294967296):bits .or .i64 (a:Int) (b:Int)=((a ||| b:Nat):Int):=by
 have hx:a ||| b<2 ^ 32:=Nat.or_lt_two_pow (by omega) (by omega)
 show IntKind.i64.wrap ((BitVec.ofInt 64 (a:Int) ||| BitVec.ofInt 64 (b:Int)).toNat:Int)=_;rw[BitVec.toNat_or,ofInt_u64 a (by omega),ofInt_u64 b (by omega)];exact qaf _ (by omega) (by omega)
theorem i64_and_nat (a b:Nat)(ha:a<4294967296)(hb:b<4294967296):bits .and .i64 (a:Int) (b:Int)=((a &&& b:Nat):Int):=by
 have hx:a &&& b<2 ^ 32:=Nat.and_lt_two_pow _ (by omega);show IntKind.i64.wrap ((BitVec.ofInt 64 (a:Int) &&& BitVec.ofInt 64 (b:Int)).toNat:Int)=_;rw[BitVec.toNat_and,ofInt_u64 a (by omega),ofInt_u64 b (by omega)];exact qaf _ (by omega) (by omega)
def valTo (z:Nat) (low:Bool) (b:Nat->Nat):Nat->Nat
 | 0=>0
 | i+1=>valTo z low b i ||| b i*2 ^ (8*(if low then i else z-1-i))
theorem piece_lt (m k:Nat)(hm:m<256)(hk:k<=24):m*2 ^ k<4294967296:=by
 have h1:2 ^ k<=2 ^ 24:=Nat.pow_le_pow_right (by omega) hk;have h2:m*2 ^ k<=255*2 ^ 24:=Nat.mul_le_mul (by omega) h1;have h3:255*2 ^ 24<4294967296:=by decide
 omega
theorem valTo_lt (z:Nat)(low:Bool)(b:Nat->Nat)(hb:∀i,b i<256)(hz:z<=4):∀i,i<=z->valTo z low b i<4294967296
 | 0,_=>by rw[valTo];omega
 | i+1,hi=>by
  rw[valTo]
  have h1:=valTo_lt z low b hb hz i (by omega)
  have h2:=piece_lt (b i) (8*(if low then i else z-1-i)) (hb i) (by split <;> omega)
  have:=Nat.or_lt_two_pow (n:=32) (x:=valTo z low b i) (y:=b i*2 ^ (8*(if low then i else z-1-i))) (by omega) (by omega)
  omega
def byteAt (t:ByteArray) (i:Nat):Nat:=(t.data.toList.getD i 0).toNat
theorem byteAt_lt (t:ByteArray)(i:Nat):byteAt t i<256:=UInt8.toNat_lt _
theorem ntake (z:Nat)(low:Bool)(r:Nat)(s:ByteArray)(a:Nat)(f:Bool)(w:World)(h:Rd r s a f w)(ha:a<=s.size)(hs:s.size<=1300000)(hz:0<z)(hz4:z<=4) : Calls prog 233 #[.agg #[.int .i64 (z:Int),.bool low],.pointer (some ⟨r,0,none⟩)] w λe w'=>∃ (v:Nat) (t:ByteArray) (a':Nat) (f':Bool),e=.returned (.int .i64 (v:Int))/\Hid (NX s a f z t a' f')/\Hid (v=valTo z low (byteAt t) t.size)/\a'<=s.size/\v<4294967296/\Rd r s a' f' w'/\Mv r w w':=by
 have hlt:=h.lt;have HN:Hid (∀w',Rd r s a f w'->Calls prog 235 #[.pointer (some ⟨r,0,none⟩),.int .i64 (z:Int)] w' λe w''=>∃t a' f',e=.returned (.string t)/\Hid (NX s a f z t a' f')/\a'<=s.size/\t.size<=s.size/\Rd r s a' f' w''/\Mv r w' w''):=λw' h'=>next_any r s a f z w' h' ha hs (by omega);go_enter func233,ntmps233;go_wp2_with (first|(go_at_call 235;refine(HN.out _ (h.alloc _)).mono ?_;rintro e w1 ⟨t,a',f',rfl,HX,ha',ht,hr1,hm1⟩)|(refine qbU _ rfl (.tmp 11) 9 41 5 rfl t rfl Tryz.underlying9 Tryz.underlying41 Tryz.underlying5 ?_;intro g cap w2 hrow hb2));have hn1:=hm1.cells (heap_alloc_new w (.cells #[.int .i64 (z:Int),.bool low] 208)) (by omega);have hn2:=qab hb2 hn1;have hr2:=hr1.below hb2;have hm2:Mv r w w2:=(((Mv.refl r w).alloc _).trans hm1).trans (Mv.of_below r hb2);have htz:t.size<=z:=by
  rcases HX.out with ⟨_,h2,h3,_⟩|⟨_,h3,_⟩
  ·rw[h3,ByteArray.size_extract];omega
  ·rw[h3];exact Nat.zero_le _
 have HB:=byteAt_lt t;have HVL:Hid (∀i,i<=z->valTo z low (byteAt t) i<4294967296):=λi hi=>valTo_lt z low (byteAt t) HB hz4 i hi;have HRow:Hid (∀W,Below w2.heap.size w2 W->∀i,i<t.size->W.cell? ⟨g,i,none⟩=some (.int .u8 (byteAt t i:Int))):=by
  intro W hW i hi;rw[(hrow.below hW).cell i hi,List.getElem?_map,List.getElem?_eq_getElem (by exact hi)];unfold byteAt;rw[zL,List.getElem?_eq_getElem (by exact hi)];rfl
 clear hb2 hrow hn1 hm1 hr1 HN;go_loopw [5,14] (λt5 t14 wr=>∃i v:Nat,i<=t.size/\t5=.int .i64 (v:Int)/\t14=.int .i64 (i:Int)/\Hid (v=valTo z low (byteAt t) i)/\Below w2.heap.size w2 wr) (λ_ t14 _=>t.size-(intOf t14).toNat)
 case atStart=>exact⟨0,0,Nat.zero_le _,rfl,rfl,rfl,Below.refl _ _⟩
 case round =>
  obtain⟨i,v,hi,rfl,rfl,HV,hb⟩:=hrel;by_cases h1:i<t.size
  ·have z1:decide ((i:Int)<(t.size:Int))=true:=(by simp;omega);have y1:(0:Int)<=(i:Int):=(by omega);have y2:(i:Int)<(t.size:Int):=(by omega);have cb:=HRow.out wr hb i h1;have hn:=qab hb hn2;have c0:wr.cell? ⟨w.heap.size,0,none⟩=some (.int .i64 (z:Int)):=ZC hn 0;have c1:wr.cell? ⟨w.heap.size,1,none⟩=some (.bool low):=ZC hn 1;obtain⟨k,hk,hk24,hkb⟩:∃k:Nat,sh z low i=(k:Int)/\k<=24/\k=8*(if low then i else z-1-i):=by
    unfold sh;cases low
    ·exact⟨8*(z-1-i),by simp only[Bool.false_eq_true,if_false];omega,by omega,rfl⟩
    ·exact⟨8*i,by simp only[if_true];omega,by omega,rfl⟩
   have HC:Hid (∀w',Calls prog 232 #[.agg #[.int .i64 (z:Int),.bool low],.int .i64 (i:Int)] w' λe w''=>e=.returned (.int .i64 (k:Int))/\Below w'.heap.size w' w''):=λw'=>by rw[<-hk];exact shift_any _ _ _ w' (by omega) (by omega) (by omega) (by omega)
   have k0:(0:Int)<=(k:Int):=(by omega);obtain⟨m,hm⟩:=eX (byteAt t i);have hm256:m<256:=(by rw[<-hm];exact HB i);obtain⟨q,hq⟩:=eX (m*2 ^ k);have hq32:q<4294967296:=(by rw[<-hq];exact piece_lt m k hm256 hk24);have hv32:v<4294967296:=(by rw[HV.out];exact HVL.out i (by omega));have hw:IntKind.i64.wrap ((m:Int)*2 ^ k)=(q:Int):=by
    rw[<-hq,qaf]
    ·rw[Int.natCast_mul,Int.natCast_pow];rfl
    ·have:(0:Int)<=(m:Int)*2 ^ k:=Int.mul_nonneg (by omega) (Int.pow_nonneg (by omega));omega
    ·have e:(m:Int)*2 ^ k=(q:Int):=(by rw[<-hq,Int.natCast_mul,Int.natCast_pow];rfl);omega
   obtain⟨v',hv'⟩:∃v',v ||| q=v':=⟨_,rfl⟩
   have hor:bits .or .i64 (v:Int) (q:Int)=(v':Int):=(by rw[<-hv'];exact i64_or_nat v q hv32 hq32);have HV':Hid (v'=valTo z low (byteAt t) (i+1)):=(by show _=_;rw[valTo,<-HV.out,hm,<-hkb,hq,hv']);rw[hm] at cb;clear hv' hq hkb hk hm;go_wp2_with (first|(go_at_call 232;refine(HC.out _).mono ?_;rintro e w3 ⟨rfl,hb3⟩));refine⟨⟨i+1,v',by omega,rfl,congrArg (Value.int .i64) (by omega),HV',hb.trans (hb3.mono hb.size)⟩,?_⟩;show t.size-((i:Int)+1).toNat<t.size-((i:Int)).toNat;omega
  ·have e:i=t.size:=(by omega);have z1:decide ((i:Int)<(t.size:Int))=false:=(by simp;omega);go_wp2_with fail;go_ret;have hv32:v<4294967296:=(by rw[HV.out];exact HVL.out i (by omega));subst e;exact⟨v,t,a',f',rfl,HX,HV,ha',hv32,hr2.below hb,hm2.trans (Mv.of_below r hb)⟩
theorem NX.fault {s:ByteArray}{a:Nat}{f:Bool}{n:Nat}{t:ByteArray}{a':Nat}(h:NX s a f n t a' true):t=⟨#[]⟩:=by
 rcases h with ⟨_,_,_,_,h⟩|⟨_,h,_⟩
 ·cases h
 ·exact h
theorem rint (z:Nat)(low:Bool)(r:Nat)(s:ByteArray)(a:Nat)(f:Bool)(w:World)(h:Rd r s a f w)(ha:a<=s.size)(hs:s.size<=1300000)(hz:0<z)(hz4:z<=4) : Calls prog 168 #[.pointer (some ⟨r,0,none⟩),.iface 208 (.agg #[.int .i64 (z:Int),.bool low])] w λe w'=>∃ (v:Nat) (t:ByteArray) (a':Nat) (f':Bool),e=.returned (.int .i64 (v:Int))/\Hid (NX s a f z t a' f')/\Hid (v=valTo z low (byteAt t) t.size)/\a'<=s.size/\v<4294967296/\Rd r s a' f' w'/\Mv r w w':=by
 have hmt : ∀ w : World, (method 427 208 (.agg #[.int .i64 (z : Int), .bool low]) "loop.example/s03048/impl.take").run prog w = .ok (233, .agg #[.int .i64 (z : Int), .bool low]) w := fun _ => by kernel_rfl
 have HC:=ntake z low r s a f w h ha hs hz hz4;have HCh:Hid (Calls prog 233 #[.agg #[.int .i64 (z:Int),.bool low],.pointer (some ⟨r,0,none⟩)] w λe w'=>∃ (v:Nat) (t:ByteArray) (a':Nat) (f':Bool),e=.returned (.int .i64 (v:Int))/\Hid (NX s a f z t a' f')/\Hid (v=valTo z low (byteAt t) t.size)/\a'<=s.size/\v<4294967296/\Rd r s a' f' w'/\Mv r w w'):=HC;clear HC;go_enter func168,ntmps168;go_wp2_with (first|(go_at_call 233;refine HCh.out.mono ?_;rintro e w1 ⟨v,t,a',f',rfl,HX,HV,ha',hv,hr1,hm1⟩;have c2:w1.cell? ⟨r,2,none⟩=some (.bool f'):=ZC hr1 2))
 ·rename_i hf;go_ret;subst hf;have e:=NX.fault HX.out;exact⟨0,t,a',true,rfl,HX,by show 0=valTo z low (byteAt t) t.size;rw[e];rfl,ha',by omega,hr1,hm1⟩
 ·go_ret;exact⟨v,t,a',f',rfl,HX,HV,ha',hv,hr1,hm1⟩
theorem clone_any (t:ByteArray)(w:World)(ht:t.size<=1300000) : Calls prog 163 #[.string t] w λe w'=>e=.returned (.string t)/\Below w.heap.size w w':=by
 have HC:Hid (Calls prog 181 #[.string t] w λe w'=>e=.returned (.string t)/\Below w.heap.size w w'):=Tryz.stringslite_Clone t w (by omega);go_enter func163,ntmps163;go_wp2_with (first|(go_at_call 181;refine HC.out.mono ?_;rintro e w1 ⟨rfl,hb1⟩));go_ret;exact⟨rfl,hb1⟩
theorem ptake (n:Nat)(r:Nat)(s:ByteArray)(a:Nat)(f:Bool)(w:World)(h:Rd r s a f w)(ha:a<=s.size)(hs:s.size<=1300000)(hn:n<=4294967296) : Calls prog 240 #[.agg #[.int .i64 (n:Int)],.pointer (some ⟨r,0,none⟩)] w λe w'=>∃ (t:ByteArray) (a':Nat) (f':Bool),e=.returned (.string t)/\Hid (NX s a f n t a' f')/\a'<=s.size/\t.size<=s.size/\Rd r s a' f' w'/\Mv r w w':=by
 have HN:Hid (∀w',Rd r s a f w'->Calls prog 235 #[.pointer (some ⟨r,0,none⟩),.int .i64 (n:Int)] w' λe w''=>∃t a' f',e=.returned (.string t)/\Hid (NX s a f n t a' f')/\a'<=s.size/\t.size<=s.size/\Rd r s a' f' w''/\Mv r w' w''):=λw' h'=>next_any r s a f n w' h' ha hs hn;go_enter func240,ntmps240;go_wp2_with (first|(go_at_call 235;refine(HN.out _ (h.alloc _)).mono ?_;rintro e w1 ⟨t,a',f',rfl,HX,ha',ht,hr1,hm1⟩)|(go_at_call 163;refine(clone_any t _ (by omega)).mono ?_;rintro e w2 ⟨rfl,hb2⟩));go_ret;exact⟨t,a',f',rfl,HX,ha',ht,hr1.below hb2,(((Mv.refl r w).alloc _).trans hm1).trans (Mv.of_below r hb2)⟩
theorem rplain (n:Nat)(r:Nat)(s:ByteArray)(a:Nat)(f:Bool)(w:World)(h:Rd r s a f w)(ha:a<=s.size)(hs:s.size<=1300000)(hn:n<=4294967296) : Calls prog 169 #[.pointer (some ⟨r,0,none⟩),.iface 214 (.agg #[.int .i64 (n:Int)])] w λe w'=>∃ (t:ByteArray) (a':Nat) (f':Bool),e=.returned (.string t)/\Hid (NX s a f n t a' f')/\a'<=s.size/\t.size<=s.size/\Rd r s a' f' w'/\Mv r w w':=by
 have hmt : ∀ w : World, (method 427 214 (.agg #[.int .i64 (n : Int)]) "loop.example/s03048/impl.take").run prog w = .ok (240, .agg #[.int .i64 (n : Int)]) w := fun _ => by kernel_rfl
 have HCh:Hid (Calls prog 240 #[.agg #[.int .i64 (n:Int)],.pointer (some ⟨r,0,none⟩)] w λe w'=>∃ (t:ByteArray) (a':Nat) (f':Bool),e=.returned (.string t)/\Hid (NX s a f n t a' f')/\a'<=s.size/\t.size<=s.size/\Rd r s a' f' w'/\Mv r w w'):=ptake n r s a f w h ha hs hn;go_enter func169,ntmps169;go_wp2_with (first|(go_at_call 240;refine HCh.out.mono ?_;rintro e w1 ⟨t,a',f',rfl,HX,ha',ht,hr1,hm1⟩;have c2:w1.cell? ⟨r,2,none⟩=some (.bool f'):=ZC hr1 2))
 ·rename_i hf;go_ret;subst hf;exact⟨⟨#[]⟩,a',true,rfl,by rw[<-NX.fault HX.out];exact HX,ha',Nat.zero_le _,hr1,hm1⟩
 ·go_ret;exact⟨t,a',f',rfl,HX,ha',ht,hr1,hm1⟩
def SX (z:Nat) (low:Bool) (s:ByteArray) (a:Nat) (f:Bool) (t:ByteArray) (a':Nat) (f':Bool):Prop :=
 ∃ (t1:ByteArray) (a1:Nat) (f1:Bool),NX s a f z t1 a1 f1/\NX s a1 f1 (valTo z low (byteAt t1) t1.size) t a' f'
theorem stake (z:Nat)(low:Bool)(r:Nat)(s:ByteArray)(a:Nat)(f:Bool)(w:World)(h:Rd r s a f w)(ha:a<=s.size)(hs:s.size<=1300000)(hz:0<z)(hz4:z<=4) : Calls prog 244 #[.agg #[.int .i64 (z:Int),.bool low],.pointer (some ⟨r,0,none⟩)] w λe w'=>∃ (t:ByteArray) (a':Nat) (f':Bool),e=.returned (.string t)/\Hid (SX z low s a f t a' f')/\a'<=s.size/\t.size<=s.size/\Rd r s a' f' w'/\Mv r w w':=by
 have HI:Hid (∀w',Rd r s a f w'->Calls prog 168 #[.pointer (some ⟨r,0,none⟩),.iface 208 (.agg #[.int .i64 (z:Int),.bool low])] w' λe w''=>∃ (v:Nat) (t:ByteArray) (a':Nat) (f':Bool),e=.returned (.int .i64 (v:Int))/\Hid (NX s a f z t a' f')/\Hid (v=valTo z low (byteAt t) t.size)/\a'<=s.size/\v<4294967296/\Rd r s a' f' w''/\Mv r w' w''):=λw' h'=>rint z low r s a f w' h' ha hs hz hz4;go_enter func244,ntmps244;go_wp2_with (first|(go_at_call 168;refine(HI.out _ (h.alloc _)).mono ?_;rintro e w1 ⟨v,t1,a1,f1,rfl,HX,HV,ha1,hv,hr1,hm1⟩)|(go_at_call 169;refine(rplain v r s a1 f1 _ hr1 ha1 hs (by omega)).mono ?_;rintro e w2 ⟨t,a',f',rfl,HY,ha',ht,hr2,hm2⟩));go_ret;refine⟨t,a',f',rfl,⟨t1,a1,f1,HX.out,?_⟩,ha',ht,hr2,(((Mv.refl r w).alloc _).trans hm1).trans hm2⟩;rw[<-HV.out];exact HY.out
theorem rsized (z:Nat)(low:Bool)(r:Nat)(s:ByteArray)(a:Nat)(f:Bool)(w:World)(h:Rd r s a f w)(ha:a<=s.size)(hs:s.size<=1300000)(hz:0<z)(hz4:z<=4) : Calls prog 169 #[.pointer (some ⟨r,0,none⟩),.iface 261 (.agg #[.int .i64 (z:Int),.bool low])] w λe w'=>∃ (t:ByteArray) (a':Nat) (f':Bool),e=.returned (.string t)/\Hid (SX z low s a f t a' f')/\a'<=s.size/\t.size<=s.size/\Rd r s a' f' w'/\Mv r w w':=by
 have hmt : ∀ w : World, (method 427 261 (.agg #[.int .i64 (z : Int), .bool low]) "loop.example/s03048/impl.take").run prog w = .ok (244, .agg #[.int .i64 (z : Int), .bool low]) w := fun _ => by kernel_rfl
 have HCh:Hid (Calls prog 244 #[.agg #[.int .i64 (z:Int),.bool low],.pointer (some ⟨r,0,none⟩)] w λe w'=>∃ (t:ByteArray) (a':Nat) (f':Bool),e=.returned (.string t)/\Hid (SX z low s a f t a' f')/\a'<=s.size/\t.size<=s.size/\Rd r s a' f' w'/\Mv r w w'):=stake z low r s a f w h ha hs hz hz4;go_enter func169,ntmps169;go_wp2_with (first|(go_at_call 244;refine HCh.out.mono ?_;rintro e w1 ⟨t,a',f',rfl,HX,ha',ht,hr1,hm1⟩;have c2:w1.cell? ⟨r,2,none⟩=some (.bool f'):=ZC hr1 2))
 ·rename_i hf;go_ret;subst hf;obtain⟨t1,a1,f1,h1,h2⟩:=HX.out;exact⟨⟨#[]⟩,a',true,rfl,⟨t1,a1,f1,h1,by rw[<-NX.fault h2];exact h2⟩,ha',Nat.zero_le _,hr1,hm1⟩
 ·go_ret;exact⟨t,a',f',rfl,HX,ha',ht,hr1,hm1⟩
end Go.Proofs.YtibjhkpgaaapaaaGreatDoor
