import Derived.Test.YtibjhkpgaaapaaaGreatDoorZiae
import Derived.ChangeKeysEq
import Derived.Test.YtibjhkpgaaapaaaGreatDoorZiac
import Derived.Deep.QuietTactic
import Derived.BigQuiet
import Derived.Test.YtibjhkpgaaapaaaGreatDoorZiad
import Derived.Shelf.Strings.BuilderF
import Derived.Shelf.Strings.BuilderK
import Derived.Shelf.Strconv.Clone
import Derived.Test.YtibjhkpgaaapaaaGreatDoorProg
set_option maxRecDepth 100000
set_option maxHeartbeats 800000
namespace Go.Proofs.YtibjhkpgaaapaaaGreatDoor
open Go.RowKit Go.Proofs.Sha Tryz
theorem fed_new (w:World):Fed (w.alloc (.cells newCells.toArray 289)) w.heap.size [] (List.replicate 64 0) 0:=⟨hsh_new w,rfl⟩
theorem hash_any (s:ByteArray)(w:World)(hs:s.size<=1048576)(hK:∀j,j<64->w.cell? ⟨0,j,none⟩=some (.int .u32 ((kTab.getD j 0).toNat:Int))) : Calls prog 183 #[.string s] w λe w'=>e=.returned (.agg ((sha s.data.toList).map B).toArray)/\Below w.heap.size w w':=by
 have hl0:0<w.heap.size:=World.block_lt_of_cell? w _ (hK 0 (by omega));have HK:Hid (∀w':World,Below w.heap.size w w'->∀j,j<64->w'.cell? ⟨0,j,none⟩=some (.int .u32 ((kTab.getD j 0).toNat:Int))):=λw' hb j hj=>(hb.cell (by exact hl0)).trans (hK j hj);clear hK;have hsl:s.data.toList.length=s.size:=rfl;go_enter func183,ntmps183;go_wp2_with (refine qam _ rfl (some 2) rfl 247 247 rfl (zeros8.map B) alloc32 ?_;intro g2 w2 hr2 hb2);have hr2':Row w2 w.heap.size g2 32 32 (zeros8.map B):=hr2;have hge:=hr2.ge;have hlt:=hr2.lt;have hs2:=hb2.size;clear hr2;refine(new_any w2).mono ?_;rintro e w3 ⟨rfl,hw3⟩;have F3:Fed w3 w2.heap.size [] (List.replicate 64 0) 0:=by rw[hw3];exact fed_new w2
 have hb3:Below w2.heap.size w2 w3:=by rw[hw3];exact(Below.refl _ _).alloc (Nat.le_refl _) _
 clear hw3;obtain⟨b,hb⟩:=eX (w2.heap.size);rw[hb] at F3;rw[hb];have hs3:=hb3.size;have hbw3:Below w.heap.size w w3:=hb2.trans (hb3.mono hs2);have hR3:Row w3 w.heap.size g2 32 32 (zeros8.map B):=hr2'.below hb3;have hb0:b ≠ 0:=by omega
 have hgb:g2<b:=by omega
 have hwb:w.heap.size<=b:=by omega
 clear hr2' hb3 hb2;go_wp2_with fail;refine(feed_any b [] (List.replicate 64 0) s w3 F3 (by simp;omega) hb0 (HK.out w3 hbw3)).mono ?_;rintro e w4 ⟨rfl,⟨k4,F4⟩,hg4⟩;have hs4:=hg4.size;have hbw4:Below w.heap.size w w4:=hbw3.trans (qah hg4 hwb (by omega));have hR4:Row w4 w.heap.size g2 32 32 (zeros8.map B):=hR3.kept hg4 (by simp;omega);rw[List.nil_append,List.length_nil,Nat.zero_add] at F4;clear F3 hg4 hR3 hbw3;have hfs:=fin_sha s.data.toList k4 F4.H.kl F4.tk;have H4:=F4.H;rw[hsl] at H4 hfs;clear F4;go_wp2_with fail;refine(finish_any b _ k4 _ s.size w4 H4 (by omega) (by omega) hb0 (HK.out w4 hbw4)).mono ?_;rintro e w5 ⟨rfl,hg5⟩;rw[hfs];clear hfs H4;have hbw5:Below w.heap.size w w5:=hbw4.trans (qah hg5 hwb (by omega));have hR5:Row w5 w.heap.size g2 32 32 (zeros8.map B):=hR4.kept hg5 (by simp;omega);have hln:((sha s.data.toList).map B).length=32:=by rw[List.length_map];unfold sha;rw[qar]
 have h1c:∀v ∈ (sha s.data.toList).map B,v.oneCell'=true:=by
  intro v hv;obtain⟨x,_,rfl⟩:=List.mem_map.1 hv;rfl
 obtain⟨L,hL⟩:=eX ((sha s.data.toList).map B);rw[hL] at hln h1c;rw[hL];have HL:Hid ((sha s.data.toList).map B=L):=hL;clear hL;go_wp2_with (refine qan _ rfl rfl 247 (.tmp 2) (.tmp 9) rfl w.heap.size g2 32 (zeros8.map B) L rfl rfl hR5 hln size32 h1c ?_;intro w8 hR8 hg8);refine qdv _ (p:=2) (ty:=247) rfl w.heap.size g2 32 32 L 5 rfl hR8 Tryz.underlying247 size32 rfl ?_;refine⟨?_,?_⟩
 ·rw[HL.out]
 ·exact hbw5.trans (qah hg8 hge (by have:=hbw5.size;omega))
end Go.Proofs.YtibjhkpgaaapaaaGreatDoor
namespace Go.Proofs.Sha
open Go Go.RowKit
section
variable {P:Program} (w:World)
theorem eqItems_b (dp:Nat)(X Y:List UInt8)(e:TypeId)(he:P.underlying e=some (.int .u8))(hc:P.cellsOf e=1)(n:Nat)(hX:X.length=n)(hY:Y.length=n):∀is:List Nat,(∀i ∈ is,i<n) →
 ∃r:Bool,(Op.eqItems (dp+1) e (P.cellsOf e) (X.map B).toArray (Y.map B).toArray is).run P w=.ok r w/\(r=true ↔ ∀i ∈ is,X.getD i 0=Y.getD i 0)
 | [],_=>⟨true,by simp[Op.eqItems],by simp⟩
 | i :: is,h=>by
  obtain⟨r,hr,hiff⟩:=eqItems_b dp X Y e he hc n hX hY is (λj hj=>h j (List.mem_cons_of_mem _ hj))
  have hi:i<n:=h i (List.mem_cons_self ..)
  have hagg:(isAgg e).run P w=.ok false w:=by
   unfold isAgg
   rw[Sem.run_bind,run_underlying he w];rfl
  have hpart:∀L:List UInt8,L.length=n->(part e (L.map B).toArray (i*P.cellsOf e)).run P w=.ok (.int .u8 ((L.getD i 0).toNat:Int)) w:=λL hL=>by
   unfold part
   rw[Sem.run_bind,hagg,hc,Nat.mul_one]
   have:(L.map B).toArray[i]?=some (.int .u8 ((L.getD i 0).toNat:Int)):=by
    rw[List.getElem?_toArray,List.getElem?_map,zL,List.getElem?_eq_getElem (by omega)];rfl
   rw[this];rfl
  have heq:∀a b:Int,(Op.equalIn (dp+1) e (.int .u8 a) (.int .u8 b)).run P w=.ok (a == b) w:=λa b=>by
   simp[Op.equalIn,run_underlying he]
  have hne:∀a b:UInt8,((a.toNat:Int) == (b.toNat:Int))=decide (a=b):=λa b=>by
   rw[Bool.eq_iff_iff]
   simp only[beq_iff_eq,decide_eq_true_eq]
   exact⟨λh=>UInt8.toNat_inj.1 (by omega),λh=>by rw[h]⟩
  rw[Op.eqItems]
  simp only[Sem.run_bind,hpart X hX,hpart Y hY,heq,hne,Result.andThen_ok]
  by_cases hxy:X.getD i 0=Y.getD i 0
  ·refine⟨r,by rw[decide_eq_true hxy];simpa using hr,?_⟩
   rw[hiff]
   exact⟨λg j hj=>by rcases List.mem_cons.1 hj with rfl|hj;exact hxy;exact g j hj,λg j hj=>g j (List.mem_cons_of_mem _ hj)⟩
  ·refine⟨false,by rw[decide_eq_false hxy];simp,?_⟩
   exact⟨λh=>(by cases h),λg=>absurd (g i (List.mem_cons_self ..)) hxy⟩
theorem run_eql_b (X Y:List UInt8)(t e:TypeId)(n:Nat)(i:TypeInfo)(hu:P.underlying t=some (.array n e))(he:P.underlying e=some (.int .u8))(hi:P.info? e=some i)(hc:P.cellsOf e=1)(hX:X.length=n)(hY:Y.length=n) : (binOp .eql t (.agg (X.map B).toArray) (.agg (Y.map B).toArray)).run P w=.ok (.bool (decide (X=Y))) w:=by
 obtain⟨r,hr,hiff⟩:=eqItems_b w 9998 X Y e he hc n hX hY (List.range n) (λj hj=>List.mem_range.1 hj);rw[run_eql_struct,run_equalIn_array w 9999 _ _ hu hi,hr];have:r=decide (X=Y):=by
  rw[Bool.eq_iff_iff,hiff,decide_eq_true_eq];constructor
  ·intro g;apply List.ext_getElem (by omega);intro j h1 h2;have:=g j (List.mem_range.2 (by omega))
   simpa[List.getD_eq_getElem?_getD,List.getElem?_eq_getElem h1,List.getElem?_eq_getElem h2] using this
  ·intro e j _;rw[e]
 rw[this];rfl
end
theorem less_eq (p q:List UInt8)(i:Nat)(h1:i<p.length)(h2:i<q.length)(he:p.getD i 0=q.getD i 0):Op.bytesLess (p.drop i) (q.drop i)=Op.bytesLess (p.drop (i+1)) (q.drop (i+1)):=by
 rw[List.drop_eq_getElem_cons h1,List.drop_eq_getElem_cons h2,Op.bytesLess];have e1:p[i]=q[i]:=by simpa[List.getD_eq_getElem?_getD,List.getElem?_eq_getElem h1,List.getElem?_eq_getElem h2] using he
 rw[e1];simp
theorem less_ne (p q:List UInt8)(i:Nat)(h1:i<p.length)(h2:i<q.length)(he:p.getD i 0 ≠ q.getD i 0):Op.bytesLess (p.drop i) (q.drop i)=decide (((p.getD i 0).toNat:Int)<((q.getD i 0).toNat:Int)):=by
 rw[List.drop_eq_getElem_cons h1,List.drop_eq_getElem_cons h2,Op.bytesLess];have e1:p.getD i 0=p[i]:=by simp[List.getD_eq_getElem?_getD,List.getElem?_eq_getElem h1]
 have e2:q.getD i 0=q[i]:=by simp[List.getD_eq_getElem?_getD,List.getElem?_eq_getElem h2]
 rw[e1,e2] at he;rw[e1,e2];have e3:(p[i] == q[i])=false:=by rw[beq_eq_false_iff_ne];exact he
 rw[e3,Bool.false_and,Bool.or_false];rw[Bool.eq_iff_iff];simp[UInt8.lt_iff_toNat_lt]
theorem qcw (p q:List UInt8)(i:Nat)(h:p.length<=i\/q.length<=i)(hi:i<=p.length)(hj:i<=q.length):Op.bytesLess (p.drop i) (q.drop i)=decide ((p.length:Int)<(q.length:Int)):=by
 rcases Nat.lt_or_ge i q.length with hq|hq
 ·have:p.drop i=[]:=List.drop_of_length_le (by omega);rw[this,List.drop_eq_getElem_cons hq,Op.bytesLess];symm;simp;omega
 ·have:q.drop i=[]:=List.drop_of_length_le hq;rw[this,Op.bytesLess];symm;simp;omega
end Go.Proofs.Sha
namespace Go.Proofs.YtibjhkpgaaapaaaGreatDoor
open Go.RowKit Go.Proofs.Sha Tryz
theorem bget (p:ByteArray)(k:Nat)(h:k<p.size):p[k]=p.data.toList.getD k 0:=by
 rw[zL,List.getElem?_eq_getElem (by exact h)];rfl
theorem less_any (p q:ByteArray)(w:World)(hp:p.size<=1048576)(hq:q.size<=1048576) : Calls prog 85 #[.string p,.string q] w λe w'=>e=.returned (.bool (Op.bytesLess p.data.toList q.data.toList))/\Below w.heap.size w w':=by
 have hpl:p.data.toList.length=p.size:=rfl;have hql:q.data.toList.length=q.size:=rfl;go_enter func85,ntmps85;go_wp2_with fail;go_loopw [5] (λt wr=>∃k:Nat,k<=p.size/\k<=q.size/\t=.int .i64 (k:Int)/\Hid (Op.bytesLess p.data.toList q.data.toList=Op.bytesLess (p.data.toList.drop k) (q.data.toList.drop k))/\Below w.heap.size w wr) (λt _=>p.size-(intOf t).toNat)
 case atStart=>exact⟨0,by omega,by omega,rfl,rfl,Below.refl _ _⟩
 case round =>
  obtain⟨k,hk1,hk2,rfl,HL,hb⟩:=hrel;by_cases h1:k<p.size
  ·by_cases h2:k<q.size
   ·have z1:(0:Int)<=(k:Int):=(by omega);have z2:(k:Int)<(p.size:Int):=(by omega);have z3:(k:Int)<(q.size:Int):=(by omega);go_wp2_with fail;go_region;rw[bget p k h1,bget q k h2];have HE:=less_eq p.data.toList q.data.toList k h1 h2;have HN:=less_ne p.data.toList q.data.toList k h1 h2;obtain⟨x,hx⟩:=eX (p.data.toList.getD k 0);obtain⟨y,hy⟩:=eX (q.data.toList.getD k 0);rw[hx,hy] at HE HN;rw[hx,hy];have HXY:Hid (p.data.toList.getD k 0=x/\q.data.toList.getD k 0=y):=⟨hx,hy⟩;clear hx hy;by_cases hxy:x=y
    ·have c0:((x.toNat:Int) != (y.toNat:Int))=false:=(by rw[hxy];simp);have HE':Hid (Op.bytesLess p.data.toList q.data.toList=Op.bytesLess (p.data.toList.drop (k+1)) (q.data.toList.drop (k+1))):=HL.out.trans (HE hxy);clear HE HN hxy;go_wp2_with fail;go_roundw
     case rel=>exact⟨k+1,by omega,by omega,by go_num,HE',hb.drew⟩
     case measure=>simp[intOf];omega
    ·have c0:((x.toNat:Int) != (y.toNat:Int))=true:=by
      rw[bne_iff_ne];exact λh=>hxy (UInt8.toNat_inj.1 (by omega))
     have HN':Hid (Op.bytesLess p.data.toList q.data.toList=decide (x.toNat<y.toNat)):=(HL.out.trans (HN hxy)).trans (by simp);clear HE HN hxy;go_wp2_with fail;go_region;rw[bget p k h1,bget q k h2,HXY.out.1,HXY.out.2];go_wp2;go_ret;exact⟨by rw[HN'.out];rfl,hb.drew.drew⟩
   ·have HN':Hid (Op.bytesLess p.data.toList q.data.toList=decide (p.size<q.size)):=(HL.out.trans (qcw p.data.toList q.data.toList k (.inr (by omega)) (by omega) (by omega))).trans (by simp);go_wp2;go_ret;exact⟨by rw[HN'.out];rfl,hb⟩
  ·have HN':Hid (Op.bytesLess p.data.toList q.data.toList=decide (p.size<q.size)):=(HL.out.trans (qcw p.data.toList q.data.toList k (.inl (by omega)) (by omega) (by omega))).trans (by simp);go_wp2;go_ret;exact⟨by rw[HN'.out];rfl,hb⟩
end Go.Proofs.YtibjhkpgaaapaaaGreatDoor
namespace Go.Proofs.Sha
open Go Go.RowKit
section
variable {P:Program} (w:World)
theorem qaO {ops:Array Oper}{rest:List Oper}{o:Oper}{a:Act}{Q:Exit->Act->World->Prop}(hgd:o.guard=none)(dst:Option Tmp)(hdst:o.dst=dst)(ty:TypeId)(x:Operand)(ho:o.op=.box ty x)(xs:List Value)(hx:a.eval x=.agg xs.toArray)(h:∀g w',Row w' w.heap.size g xs.length xs.length xs->Below w.heap.size w w'->wpList P ops Q rest (a.put dst (.pointer (some ⟨g,0,none⟩))) w'):wpList P ops Q (o :: rest) a w:=by
 refine Go.Great.wpList_runTo hgd dst hdst (.pointer (some ⟨w.heap.size,0,none⟩)) (w.alloc (.cells xs.toArray ty)) ?_ (h _ _ ?_ ((Below.refl _ _).alloc (Nat.le_refl _) _))
 ·unfold execOp;simp only[ho,hx];rfl
 ·have:=Row.of_block (base:=w.heap.size) (Nat.le_refl _) (heap_alloc_new w (.cells xs.toArray ty)) xs.length (by simp) (.inl rfl)
  simpa using this
theorem wpList_build_to {ops:Array Oper}{rest:List Oper}{o:Oper}{a:Act}{Q:Exit->Act->World->Prop}(hgd:o.guard=none)(t:TypeId)(parts:Array (Nat × Operand))(ho:o.op=.build t parts)(cells:Array Value)(hb:P.built t (parts.toList.map λ(i,x)=>(i,a.eval x))=some cells)(h:wpList P ops Q rest (a.put o.dst (.agg cells)) w):wpList P ops Q (o :: rest) a w:=by
 rw[<-Array.toList_map] at hb;refine Go.Great.wpList_runTo hgd o.dst rfl (.agg cells) w ?_ h;unfold execOp;simp only[ho,Sem.run_bind,run_build w t _ cells hb,Result.andThen_ok,Sem.run_pure]
theorem ret_any {fn:Func}{R:Ending->World->Prop}{a:Act}{p:Tmp}{ty:TypeId}{d:TypeDesc}(hres:fn.results=#[.cell p ty])(base g n cap:Nat)(xs:List Value)(ht:a.tmps.getD p undef=.pointer (some ⟨g,0,none⟩))(hr:Row w base g n cap xs)(hu:P.underlying ty=some d)(hd:d.isRow=true)(hi:(P.info? ty).map (·.size)=some n)(hdef:a.defers=[])(hR:R (.returned (.agg xs.toArray)) w):bodyPost P fn R .ret a w:=by
 refine bodyPost_ret (v:=.agg xs.toArray) ?_ hdef hR;rw[qbf w hres a.tmps _ ht];exact run_loadVar_mid w g 0 ty xs _ hr.range hu hd (by rw[hi,hr.len])
theorem Row.prefix {w:World}{base g n cap:Nat}{xs ys:List Value}(h:Row w base g n cap (xs++ys)):w.rangeAt g 0 xs:=λj v hv=>by
 refine h.range j v ?_;rw[List.getElem?_append_left (List.getElem?_eq_some_iff.1 hv).1,hv]
end
end Go.Proofs.Sha
namespace Go.Proofs.Sha
open Go Go.RowKit
section
variable {P:Program} (w:World)
theorem qdF {ops:Array Oper}{rest:List Oper}{o:Oper}{a:Act}{Q:Exit->Act->World->Prop}(hgd:o.guard=none)(t t':TypeId)(x y:Operand)(ho:o.op=.binOp .eql t x y t')(X Y:List UInt8)(n:Nat)(e:TypeId)(i:TypeInfo)(hx:a.eval x=.agg (X.map B).toArray)(hy:a.eval y=.agg (Y.map B).toArray)(hu:P.underlying t=some (.array n e))(he:P.underlying e=some (.int .u8))(hi:P.info? e=some i)(hc:P.cellsOf e=1)(hX:X.length=n)(hY:Y.length=n)(hguard:(eqGuard .eql t x y (.agg (X.map B).toArray) (.agg (Y.map B).toArray)).run P w=.ok () w)(h:wpList P ops Q rest (a.put o.dst (.bool (decide (X=Y)))) w):wpList P ops Q (o :: rest) a w:=by
 refine Go.Great.wpList_runTo hgd o.dst rfl (.bool (decide (X=Y))) w ?_ h;unfold execOp;simp only[ho,hx,hy,Sem.run_bind,hguard,run_eql_b w X Y t e n i hu he hi hc hX hY,Result.andThen_ok,Sem.run_pure]
end
end Go.Proofs.Sha
namespace Go.Proofs.YtibjhkpgaaapaaaGreatDoor
open Go.RowKit Go.Proofs.Sha
theorem cells5:Tryz.prog.cellsOf 5=1:=by kernel_rfl
theorem guard28 (x y:Operand)(X Y:Array Value)(w:World):(eqGuard .eql 247 x y (.agg X) (.agg Y)).run Tryz.prog w=.ok () w:=by kernel_rfl
theorem greater_any (X Y:List UInt8)(hX:X.length=32)(hY:Y.length=32)(w:World) : Calls Tryz.prog 182 #[.agg (X.map B).toArray,.agg (Y.map B).toArray] w λe w'=>e=.returned (.bool (Op.bytesLess Y X))/\Below w.heap.size w w':=by
 obtain⟨LX,hLX⟩:∃L,X.map B=L:=⟨_,rfl⟩;obtain⟨LY,hLY⟩:∃L,Y.map B=L:=⟨_,rfl⟩;have HLX:Hid (X.map B=LX):=hLX;have HLY:Hid (Y.map B=LY):=hLY;have l1:LX.length=32:=by rw[<-hLX,List.length_map,hX]
 have l2:LY.length=32:=by rw[<-hLY,List.length_map,hY]
 rw[hLX,hLY];have HL12:Hid (LX.length=32/\LY.length=32):=⟨l1,l2⟩;clear hLX hLY l1 l2;go_enter Tryz.func182,Tryz.ntmps182;go_wp2_with (first|(refine qaO _ rfl (some 2) rfl 247 (.tmp 0) rfl LX rfl ?_;intro g2 w2 hr2 hb2)|(refine qaO _ rfl (some 3) rfl 247 (.tmp 1) rfl LY rfl ?_;intro g3 w3 hr3 hb3));have hR2:Row w3 w.heap.size g2 32 32 (X.map B):=by rw[HLX.out];have:=hr2.below hb3;rw[HL12.out.1] at this;exact this
 have hR3:Row w3 w2.heap.size g3 32 32 (Y.map B):=by rw[HLY.out];have:=hr3;rw[HL12.out.2] at this;exact this
 have hs2:=hb2.size;have hbw:Below w.heap.size w w3:=hb2.trans (hb3.mono hs2);have hl2:=hR2.lt;have hl3:=hR3.lt;have HC:Hid (∀j,j<32->w3.cell? ⟨g2,j,none⟩=some (.int .u8 ((X.getD j 0).toNat:Int))/\w3.cell? ⟨g3,j,none⟩=some (.int .u8 ((Y.getD j 0).toNat:Int))):=λj hj=>⟨row_b hR2 j hj,row_b hR3 j hj⟩;clear hR2 hR3 hr2 hr3 hb2 hb3;go_loopw [6] (λt wr=>∃k:Nat,k<=32/\t=.int .i64 (k:Int)/\Hid (Op.bytesLess Y X=Op.bytesLess (Y.drop k) (X.drop k))/\Below w3.heap.size w3 wr) (λt _=>32-(intOf t).toNat)
 case atStart=>exact⟨0,by omega,rfl,rfl,Below.refl _ _⟩
 case round =>
  obtain⟨k,hk,rfl,HL,hb⟩:=hrel;by_cases hlt:k<32
  ·have c2:=(hb.cell (p:=⟨g2,k,none⟩) hl2).trans (HC.out k hlt).1;have c3:=(hb.cell (p:=⟨g3,k,none⟩) hl3).trans (HC.out k hlt).2;have HE:=less_eq Y X k (by omega) (by omega);have HN:=less_ne Y X k (by omega) (by omega);obtain⟨x,hx⟩:=eX (X.getD k 0);obtain⟨y,hy⟩:=eX (Y.getD k 0);rw[hx] at c2 HE HN;rw[hy] at c3 HE HN;clear hx hy;have z0:(0:Int)<=(k:Int):=(by omega);have z1:(k:Int)<32:=(by omega);by_cases hxy:y=x
   ·have c0:((x.toNat:Int) != (y.toNat:Int))=false:=(by rw[hxy];simp);have HE':Hid (Op.bytesLess Y X=Op.bytesLess (Y.drop (k+1)) (X.drop (k+1))):=HL.out.trans (HE hxy);clear HE HN hxy;go_wp2_with fail;go_region_held3 (λw'=>w'.cell? ⟨g2,k,none⟩=some (.int .u8 (x.toNat:Int))/\w'.cell? ⟨g3,k,none⟩=some (.int .u8 (y.toNat:Int))) (exact⟨c2,c3⟩) (fail);go_wp2_with fail;go_roundw
    case rel=>exact⟨k+1,by omega,by go_num,HE',hb.drew⟩
    case measure=>simp[intOf];omega
   ·have c0:((x.toNat:Int) != (y.toNat:Int))=true:=by
     rw[bne_iff_ne];exact λh=>hxy (UInt8.toNat_inj.1 (by omega))
    have HN':Hid (Op.bytesLess Y X=decide (y.toNat<x.toNat)):=(HL.out.trans (HN hxy)).trans (by simp);clear HE HN hxy;go_wp2_with fail;go_region_held3 (λw'=>w'.cell? ⟨g2,k,none⟩=some (.int .u8 (x.toNat:Int))/\w'.cell? ⟨g3,k,none⟩=some (.int .u8 (y.toNat:Int))) (exact⟨c2,c3⟩) (fail);go_wp2_with fail;go_region_held3 (λw'=>w'.cell? ⟨g2,k,none⟩=some (.int .u8 (x.toNat:Int))/\w'.cell? ⟨g3,k,none⟩=some (.int .u8 (y.toNat:Int))) (exact⟨c2,c3⟩) (fail);go_wp2;go_ret;exact⟨by rw[HN'.out];rfl,hbw.trans ((hb.mono (hbw.size)).drew.drew)⟩
  ·obtain rfl:k=32:=by omega
   have HN':Hid (Op.bytesLess Y X=false):=by
    show Op.bytesLess Y X=false;rw[HL.out,List.drop_of_length_le (by omega),List.drop_of_length_le (by omega)];rfl
   go_wp2;go_ret;exact⟨by rw[HN'.out];rfl,hbw.trans (hb.mono (hbw.size))⟩
end Go.Proofs.YtibjhkpgaaapaaaGreatDoor
namespace Go.Proofs.YtibjhkpgaaapaaaGreatDoor
open Go.RowKit Go.Proofs.Sha Tryz
theorem size33:(prog.info? 249).map (·.size)=some 33:=by kernel_rfl
theorem info5':(prog.info? 5).map (λi=>(i.zero,i.size,i.bytes))=some (some (.int .u8 0),1,1):=by kernel_rfl
def zerosR:List Value:=(List.replicate 32 (0:UInt8)).map B++[Value.string ⟨#[]⟩]
theorem allocR (w:World):(Instr.alloc 249 true (.tuple #[])).run prog w=.ok (.pointer (some ⟨w.heap.size,0,none⟩)) (w.alloc (.cells zerosR.toArray 249)):=by kernel_rfl
theorem built32 (x0 x1 x2 x3 x4 x5 x6 x7 x8 x9 x10 x11 x12 x13 x14 x15 x16 x17 x18 x19 x20 x21 x22 x23 x24 x25 x26 x27 x28 x29 x30 x31:UInt8)(s:ByteArray):prog.built 249 [(0,.agg ([x0,x1,x2,x3,x4,x5,x6,x7,x8,x9,x10,x11,x12,x13,x14,x15,x16,x17,x18,x19,x20,x21,x22,x23,x24,x25,x26,x27,x28,x29,x30,x31].map B).toArray),(1,.string s)]=some (([x0,x1,x2,x3,x4,x5,x6,x7,x8,x9,x10,x11,x12,x13,x14,x15,x16,x17,x18,x19,x20,x21,x22,x23,x24,x25,x26,x27,x28,x29,x30,x31].map B++[Value.string s]).toArray):=by kernel_rfl
theorem built_rank (X:List UInt8)(h:X.length=32)(s:ByteArray):prog.built 249 [(0,.agg (X.map B).toArray),(1,.string s)]=some ((X.map B++[Value.string s]).toArray):=by
 match X,h with
 | [x0,x1,x2,x3,x4,x5,x6,x7,x8,x9,x10,x11,x12,x13,x14,x15,x16,x17,x18,x19,x20,x21,x22,x23,x24,x25,x26,x27,x28,x29,x30,x31],_=>exact built32 x0 x1 x2 x3 x4 x5 x6 x7 x8 x9 x10 x11 x12 x13 x14 x15 x16 x17 x18 x19 x20 x21 x22 x23 x24 x25 x26 x27 x28 x29 x30 x31 s
theorem rank_any (s:ByteArray)(w:World)(hs:s.size<=1048576)(hK:∀j,j<64->w.cell? ⟨0,j,none⟩=some (.int .u32 ((kTab.getD j 0).toNat:Int))) : Calls prog 166 #[Value.string s] w λe w'=>e=.returned (.agg ((sha s.data.toList).map B++[Value.string s]).toArray)/\Below w.heap.size w w':=by
 have hl0:0<w.heap.size:=World.block_lt_of_cell? w _ (hK 0 (by omega));have HH:Hid (∀w':World,Below w.heap.size w w'->Calls prog 183 #[Value.string s] w' λe w''=>e=.returned (.agg ((sha s.data.toList).map B).toArray)/\Below w'.heap.size w' w''):=λw' hb=>hash_any s w' hs (λj hj=>(hb.cell (by exact hl0)).trans (hK j hj));clear hK;have hln:(sha s.data.toList).length=32:=by unfold sha;rw[qar]
 obtain⟨M,hM⟩:=eX (sha s.data.toList);have HM:Hid (sha s.data.toList=M):=hM;rw[hM] at HH hln;clear hM;have h1c:∀v ∈ M.map B++[Value.string s],v.oneCell'=true:=by
  intro v hv;rcases List.mem_append.1 hv with hv|hv
  ·obtain⟨x,_,rfl⟩:=List.mem_map.1 hv;rfl
  ·rw[List.mem_singleton] at hv;subst hv;rfl
 have hl33:(M.map B++[Value.string s]).length=33:=by rw[List.length_append,List.length_map,hln];rfl
 have HB:=built_rank M hln s;obtain⟨L,hL⟩:=eX (M.map B++[Value.string s]);have HL:Hid (M.map B++[Value.string s]=L):=hL;rw[hL] at h1c hl33 HB;obtain⟨C,hC⟩:=eX ((M.map B).toArray);rw[hC] at HB HH;have HB':Hid (prog.built 249 [(0,.agg C),(1,.string s)]=some L.toArray):=HB;clear hL hC HB;go_enter func166,ntmps166;go_wp2_with (first|(refine qam _ rfl (some 2) rfl 249 249 rfl zerosR allocR ?_;intro g2 w2 hr2 hb2)|(go_at_call 183;refine(HH.out _ hb2).mono ?_;rintro e w3 ⟨rfl,hb3⟩)|(refine wpList_build_to _ rfl 249 #[(0,.tmp 4),(1,.tmp 5)] rfl L.toArray HB'.out ?_)|(refine qan _ rfl rfl 249 (.tmp 2) (.tmp 6) rfl w.heap.size g2 33 zerosR L rfl rfl (hr2.below hb3) hl33 size33 h1c ?_;intro w5 hR5 hg5));refine ret_any _ (p:=2) (ty:=249) rfl w.heap.size g2 33 33 L rfl hR5 Tryz.underlying249 rfl size33 rfl ?_;refine⟨?_,?_⟩
 ·rw[HM.out,HL.out]
 ·exact(hb2.trans (hb3.mono hb2.size)).trans (qah hg5 (by have:=hr2.ge;omega) (by have:=hb2.size;have:=hb3.size;omega))
def rk (X Y a b:List UInt8):Bool:=if X=Y then Op.bytesLess a b else Op.bytesLess Y X
theorem qcZ {w:World}{base g n cap:Nat}{xs:List Value}{v:Value}{m:Nat}(h:Row w base g n cap (xs++[v]))(hm:xs.length=m):w.cell? ⟨g,m,none⟩=some v:=by
 subst hm;have hn:=h.len;rw[List.length_append] at hn;rw[h.cell _ (by simp at hn;omega),List.getElem?_append_right (Nat.le_refl _),Nat.sub_self];rfl
theorem above_any (X Y:List UInt8)(hX:X.length=32)(hY:Y.length=32)(a b:ByteArray)(w:World) : Calls prog 164 #[.agg (X.map B++[Value.string a]).toArray,.agg (Y.map B++[Value.string b]).toArray] w λe w'=>e=.returned (.bool (rk X Y a.data.toList b.data.toList))/\Below w.heap.size w w':=by
 obtain⟨i0,hi0,hz0,hz1,hz2⟩:=info_parts info5';obtain⟨LX,hLX⟩:∃L,X.map B++[Value.string a]=L:=⟨_,rfl⟩;obtain⟨LY,hLY⟩:∃L,Y.map B++[Value.string b]=L:=⟨_,rfl⟩;have HLX:Hid (X.map B++[Value.string a]=LX):=hLX;have HLY:Hid (Y.map B++[Value.string b]=LY):=hLY;have l1:LX.length=33:=by rw[<-hLX,List.length_append,List.length_map,hX];rfl
 have l2:LY.length=33:=by rw[<-hLY,List.length_append,List.length_map,hY];rfl
 rw[hLX,hLY];have HL12:Hid (LX.length=33/\LY.length=33):=⟨l1,l2⟩;clear hLX hLY l1 l2;have hsz:(prog.info? 247).map (·.size)=some (X.map B).length:=by rw[size32,List.length_map,hX]
 have hsz2:(prog.info? 247).map (·.size)=some (Y.map B).length:=by rw[size32,List.length_map,hY]
 have HSZ:Hid ((prog.info? 247).map (·.size)=some (X.map B).length/\(prog.info? 247).map (·.size)=some (Y.map B).length):=⟨hsz,hsz2⟩;clear hsz hsz2;by_cases hXY:X=Y
 ·have HD:Hid (decide (X=Y)=true):=decide_eq_true hXY;have HR:Hid (rk X Y a.data.toList b.data.toList=Op.bytesLess a.data.toList b.data.toList):=if_pos hXY;clear hXY;go_enter func164,ntmps164;go_wp2_with (first|(refine qaO _ rfl (some 2) rfl 249 (.tmp 0) rfl LX rfl ?_;intro g2 w2 hr2 hb2)|(refine qaO _ rfl (some 3) rfl 249 (.tmp 1) rfl LY rfl ?_;intro g3 w3 hr3 hb3;have hR2:Row w3 w.heap.size g2 33 33 (X.map B++[Value.string a]):=(by rw[HLX.out];have:=hr2.below hb3;rw[HL12.out.1] at this;exact this);have hR3:Row w3 w2.heap.size g3 33 33 (Y.map B++[Value.string b]):=(by rw[HLY.out];have:=hr3;rw[HL12.out.2] at this;exact this);have cA:w3.cell? ⟨g2,32,none⟩=some (.string a):=qcZ hR2 (by rw[List.length_map,hX]);have cB:w3.cell? ⟨g3,32,none⟩=some (.string b):=qcZ hR3 (by rw[List.length_map,hY]))|(refine wpList_load_mid rfl 247 (.tmp 5) rfl g2 0 rfl (X.map B) _ (Row.prefix hR2) Tryz.underlying247 rfl HSZ.out.1 ?_)|(refine wpList_load_mid rfl 247 (.tmp 7) rfl g3 0 rfl (Y.map B) _ (Row.prefix hR3) Tryz.underlying247 rfl HSZ.out.2 ?_)|(refine qdF _ rfl 247 247 (.tmp 6) (.tmp 8) rfl X Y 32 5 i0 rfl rfl Tryz.underlying247 Tryz.underlying5 hi0 cells5 hX hY (guard28 _ _ _ _ _) ?_;rw[HD.out])|(refine wpList_load_mid rfl 247 (.tmp 15) rfl g2 0 rfl (X.map B) _ (Row.prefix hR2) Tryz.underlying247 rfl HSZ.out.1 ?_)|(refine wpList_load_mid rfl 247 (.tmp 17) rfl g3 0 rfl (Y.map B) _ (Row.prefix hR3) Tryz.underlying247 rfl HSZ.out.2 ?_)|fail);go_ret;exact⟨by rw[HR.out,<-ByteArray.toList_eq,<-ByteArray.toList_eq];rfl,hb2.trans (hb3.mono hb2.size)⟩
 ·have HD:Hid (decide (X=Y)=false):=decide_eq_false hXY;have HR:Hid (rk X Y a.data.toList b.data.toList=Op.bytesLess Y X):=if_neg hXY;clear hXY;go_enter func164,ntmps164;go_wp2_with (first|(refine qaO _ rfl (some 2) rfl 249 (.tmp 0) rfl LX rfl ?_;intro g2 w2 hr2 hb2)|(refine qaO _ rfl (some 3) rfl 249 (.tmp 1) rfl LY rfl ?_;intro g3 w3 hr3 hb3;have hR2:Row w3 w.heap.size g2 33 33 (X.map B++[Value.string a]):=(by rw[HLX.out];have:=hr2.below hb3;rw[HL12.out.1] at this;exact this);have hR3:Row w3 w2.heap.size g3 33 33 (Y.map B++[Value.string b]):=(by rw[HLY.out];have:=hr3;rw[HL12.out.2] at this;exact this);have cA:w3.cell? ⟨g2,32,none⟩=some (.string a):=qcZ hR2 (by rw[List.length_map,hX]);have cB:w3.cell? ⟨g3,32,none⟩=some (.string b):=qcZ hR3 (by rw[List.length_map,hY]))|(refine wpList_load_mid rfl 247 (.tmp 5) rfl g2 0 rfl (X.map B) _ (Row.prefix hR2) Tryz.underlying247 rfl HSZ.out.1 ?_)|(refine wpList_load_mid rfl 247 (.tmp 7) rfl g3 0 rfl (Y.map B) _ (Row.prefix hR3) Tryz.underlying247 rfl HSZ.out.2 ?_)|(refine qdF _ rfl 247 247 (.tmp 6) (.tmp 8) rfl X Y 32 5 i0 rfl rfl Tryz.underlying247 Tryz.underlying5 hi0 cells5 hX hY (guard28 _ _ _ _ _) ?_;rw[HD.out])|(refine wpList_load_mid rfl 247 (.tmp 15) rfl g2 0 rfl (X.map B) _ (Row.prefix hR2) Tryz.underlying247 rfl HSZ.out.1 ?_)|(refine wpList_load_mid rfl 247 (.tmp 17) rfl g3 0 rfl (Y.map B) _ (Row.prefix hR3) Tryz.underlying247 rfl HSZ.out.2 ?_)|fail);refine(greater_any X Y hX hY _).mono ?_;rintro e w4 ⟨rfl,hb4⟩;go_wp2;go_ret;exact⟨by rw[HR.out];rfl,(hb2.trans (hb3.mono hb2.size)).trans (hb4.mono (by have:=hb2.size;have:=hb3.size;omega))⟩
theorem sha_len (l:List UInt8):(sha l).length=32:=by unfold sha;rw[qar]
theorem extract_take (M:List UInt8)(n:Nat):(⟨M.toArray⟩:ByteArray).extract 0 n=⟨(M.take n).toArray⟩:=by
 apply ByteArray.ext;rw[ByteArray.data_extract];apply Array.ext';rw[Array.toList_extract,List.extract_eq_take_drop];simp
theorem qda (s:ByteArray)(k:Nat)(w:World)(hs:s.size<=1048576)(h1:1<=k)(h2:k<=32) : Calls prog 23 #[.string s,.int .i64 (k:Int)] w λe w'=>e=.returned (.string ⟨((sha s.data.toList).take k).toArray⟩)/\Below w.heap.size w w':=by
 have hl:=sha_len s.data.toList;have hx:=extract_take (sha s.data.toList) k;have hsp:=qcM s w hs;obtain⟨X,hX⟩:∃X:ByteArray,X=⟨(sha s.data.toList).toArray⟩:=⟨_,rfl⟩;have hXs:X.size=32:=by rw[hX];exact hl
 rw[<-hX] at hx hsp;have HX:Hid (X.extract 0 k=⟨((sha s.data.toList).take k).toArray⟩):=hx;clear hX hx hl;have q1:(1:Int)<=(k:Int):=by omega
 have q2:(k:Int)<=32:=by omega
 go_enter func23,ntmps23;go_wp2_with (first|(go_at_call 64;refine hsp.mono ?_;rintro e w' ⟨rfl,hb⟩)|go_in);go_ret;rw[<-HX.out];exact⟨rfl,hb⟩
end Go.Proofs.YtibjhkpgaaapaaaGreatDoor
namespace Go.Proofs
open Go.Shelf
def Tryz.lays169_ren:Go.Shelf.Ren:=⟨fun|169=>114|n=>n,fun|70=>163|9=>9|0=>0|72=>165|37=>41|127=>233|3=>3|5=>5|n=>n,fun|n=>n⟩
theorem Tryz.lays169:Go.Proofs.Lays.n169 Tryz.prog Tryz.lays169_ren:={
 mixed:=by kernel_rfl
 f169:=Tryz.func114.trans (congrArg some (by kernel_rfl))
 t0:=Tryz.underlying0
 a0:=Tryz.isAgg0
 z0:=Tryz.sizeOf0
 v0:=Tryz.zeroValue0
 t3:=Tryz.underlying3
 a3:=Tryz.isAgg3
 z3:=Tryz.sizeOf3
 v3:=Tryz.zeroValue3
 t9:=Tryz.underlying9
 a9:=Tryz.isAgg9
 z9:=Tryz.sizeOf9
 v9:=Tryz.zeroValue9
 t37:=Tryz.underlying41
 a37:=Tryz.isAgg41
 z37:=Tryz.sizeOf41
 v37:=Tryz.zeroValue41
 t70:=Tryz.underlying163
 a70:=Tryz.isAgg163
 z70:=Tryz.sizeOf163
 v70:=Tryz.zeroValue163
 t72:=Tryz.underlying165
 a72:=Tryz.isAgg165
 z72:=Tryz.sizeOf165
 v72:=Tryz.zeroValue165
 t127:=Tryz.underlying233
 a127:=Tryz.isAgg233
 z127:=Tryz.sizeOf233
 v127:=Tryz.zeroValue233 }
theorem Tryz.Builder_Extra_169:Builder.Extra Tryz.prog Tryz.lays169_ren:={
 sizeBuilder:=by kernel_rfl
 liesBuilder:=by kernel_rfl
 t5:=Tryz.underlying5
 a5:=Tryz.isAgg5
 z5:=Tryz.sizeOf5
 v5:=Tryz.zeroValue5
 infoByte:=by kernel_rfl
 cellsByte:=by kernel_rfl
 sizeByte:=by kernel_rfl
 neB5:=by decide }
open Go.RowKit in
theorem Tryz.Builder_String_any_k (B b:Nat)(l:List UInt8)(w:World)(h:Lib.IsBuilderF 165 5 B b (Lib.byteCells l) w)(hBw:B<=w.heap.size) :
 Calls Tryz.prog 114 #[.pointer (some ⟨b,0,none⟩)] w λe w'=>e=.returned (.string ⟨l.toArray⟩)/\(Lib.IsBuilderF 165 5 B b (Lib.byteCells l) w'/\Below B w w'/\Lib.OthersKept 5 (some b) w w'):=Any.Builder_String_any_k Tryz.lays169 Tryz.Builder_Extra_169 B b l w h hBw
def Tryz.laysM316_ren:Go.Shelf.Ren:=⟨fun|316=>181|n=>n,fun|9=>9|3=>3|4=>4|37=>41|0=>0|127=>233|5=>5|n=>n,fun|n=>n⟩
theorem Tryz.laysM316:Go.Proofs.LaysM.n316 Tryz.prog Tryz.laysM316_ren:={
 mixed:=by kernel_rfl
 f316:=Tryz.func181.trans (congrArg some (by kernel_rfl))
 t0:=Tryz.underlying0
 a0:=Tryz.isAgg0
 z0:=Tryz.sizeOf0
 v0:=Tryz.zeroValue0
 t3:=Tryz.underlying3
 a3:=Tryz.isAgg3
 z3:=Tryz.sizeOf3
 v3:=Tryz.zeroValue3
 t4:=Tryz.underlying4
 a4:=Tryz.isAgg4
 z4:=Tryz.sizeOf4
 v4:=Tryz.zeroValue4
 t9:=Tryz.underlying9
 a9:=Tryz.isAgg9
 z9:=Tryz.sizeOf9
 v9:=Tryz.zeroValue9
 t37:=Tryz.underlying41
 a37:=Tryz.isAgg41
 z37:=Tryz.sizeOf41
 v37:=Tryz.zeroValue41
 t127:=Tryz.underlying233
 a127:=Tryz.isAgg233
 z127:=Tryz.sizeOf233
 v127:=Tryz.zeroValue233
 t5:=Tryz.underlying5
 a5:=Tryz.isAgg5
 z5:=Tryz.sizeOf5
 v5:=Tryz.zeroValue5
 i0:=by kernel_rfl
 i3:=by kernel_rfl
 i4:=by kernel_rfl
 i5:=by kernel_rfl
 i9:=by kernel_rfl
 i37:=by kernel_rfl
 i127:=by kernel_rfl }
open Go.RowKit in
theorem Tryz.stringslite_Clone (s:ByteArray)(w:World)(hlim:s.size<=281474976710656) :
 Calls Tryz.prog 181 #[.string s] w λe w'=>e=.returned (.string s)/\Below w.heap.size w w':=Any.stringslite_Clone Tryz.laysM316 s w hlim
def Tryz.lays167_ren:Go.Shelf.Ren:=⟨fun|166=>241|167=>234|240=>236|276=>237|n=>n,fun|0=>0|3=>3|4=>4|5=>5|9=>9|20=>20|37=>41|70=>163|72=>165|75=>319|80=>154|164=>321|n=>n,fun|n=>n⟩
theorem Tryz.lays167:Go.Proofs.Lays.n167 Tryz.prog Tryz.lays167_ren:={
 mixed:=by kernel_rfl
 f167:=Tryz.func234.trans (congrArg some (by kernel_rfl))
 f240:=Tryz.func236.trans (congrArg some (by kernel_rfl))
 f276:=Tryz.func237.trans (congrArg some (by kernel_rfl))
 t0:=Tryz.underlying0
 a0:=Tryz.isAgg0
 z0:=Tryz.sizeOf0
 v0:=Tryz.zeroValue0
 t4:=Tryz.underlying4
 a4:=Tryz.isAgg4
 z4:=Tryz.sizeOf4
 v4:=Tryz.zeroValue4
 t5:=Tryz.underlying5
 a5:=Tryz.isAgg5
 z5:=Tryz.sizeOf5
 v5:=Tryz.zeroValue5
 t9:=Tryz.underlying9
 a9:=Tryz.isAgg9
 z9:=Tryz.sizeOf9
 v9:=Tryz.zeroValue9
 t20:=Tryz.underlying20
 a20:=Tryz.isAgg20
 z20:=Tryz.sizeOf20
 v20:=Tryz.zeroValue20
 t37:=Tryz.underlying41
 a37:=Tryz.isAgg41
 z37:=Tryz.sizeOf41
 v37:=Tryz.zeroValue41
 t70:=Tryz.underlying163
 a70:=Tryz.isAgg163
 z70:=Tryz.sizeOf163
 v70:=Tryz.zeroValue163
 t72:=Tryz.underlying165
 a72:=Tryz.isAgg165
 z72:=Tryz.sizeOf165
 v72:=Tryz.zeroValue165
 t75:=Tryz.underlying319
 a75:=Tryz.isAgg319
 z75:=Tryz.sizeOf319
 v75:=Tryz.zeroValue319
 t164:=Tryz.underlying321
 a164:=Tryz.isAgg321
 z164:=Tryz.sizeOf321
 v164:=Tryz.zeroValue321 }
theorem Tryz.Builder_Extra_167:Builder.Extra Tryz.prog Tryz.lays167_ren:={
 sizeBuilder:=by kernel_rfl
 liesBuilder:=by kernel_rfl
 t5:=Tryz.underlying5
 a5:=Tryz.isAgg5
 z5:=Tryz.sizeOf5
 v5:=Tryz.zeroValue5
 infoByte:=by kernel_rfl
 cellsByte:=by kernel_rfl
 sizeByte:=by kernel_rfl
 neB5:=by decide }
open Go.RowKit in
theorem Tryz.Builder_WriteByte_k (B b:Nat)(bs:List Value)(c:Int)(w:World)(h:Lib.IsBuilderF 165 5 B b bs w)(hlen:bs.length+1<=140737488355328)(hBw:B<=w.heap.size) :
 Calls Tryz.prog 234 #[.pointer (some ⟨b,0,none⟩),.int .u8 c] w λe w'=>e=.returned .nilIface/\(Lib.BuilderAtF 165 5 B b (.pointer (some ⟨b,0,none⟩)) (bs++[.int .u8 c]) w'/\Below B w w'/\Lib.OthersKept 5 (some b) w w'):=Any.Builder_WriteByte_k Tryz.lays167 Tryz.Builder_Extra_167 B b bs c w h hlen hBw
def Tryz.lays166_ren:Go.Shelf.Ren:=⟨fun|166=>241|167=>234|240=>236|276=>237|n=>n,fun|0=>0|3=>3|4=>4|5=>5|9=>9|20=>20|37=>41|70=>163|72=>165|75=>319|80=>154|164=>321|n=>n,fun|n=>n⟩
theorem Tryz.lays166:Go.Proofs.Lays.n166 Tryz.prog Tryz.lays166_ren:={
 mixed:=by kernel_rfl
 f166:=Tryz.func241.trans (congrArg some (by kernel_rfl))
 f240:=Tryz.func236.trans (congrArg some (by kernel_rfl))
 f276:=Tryz.func237.trans (congrArg some (by kernel_rfl))
 t0:=Tryz.underlying0
 a0:=Tryz.isAgg0
 z0:=Tryz.sizeOf0
 v0:=Tryz.zeroValue0
 t3:=Tryz.underlying3
 a3:=Tryz.isAgg3
 z3:=Tryz.sizeOf3
 v3:=Tryz.zeroValue3
 t4:=Tryz.underlying4
 a4:=Tryz.isAgg4
 z4:=Tryz.sizeOf4
 v4:=Tryz.zeroValue4
 t9:=Tryz.underlying9
 a9:=Tryz.isAgg9
 z9:=Tryz.sizeOf9
 v9:=Tryz.zeroValue9
 t20:=Tryz.underlying20
 a20:=Tryz.isAgg20
 z20:=Tryz.sizeOf20
 v20:=Tryz.zeroValue20
 t37:=Tryz.underlying41
 a37:=Tryz.isAgg41
 z37:=Tryz.sizeOf41
 v37:=Tryz.zeroValue41
 t70:=Tryz.underlying163
 a70:=Tryz.isAgg163
 z70:=Tryz.sizeOf163
 v70:=Tryz.zeroValue163
 t72:=Tryz.underlying165
 a72:=Tryz.isAgg165
 z72:=Tryz.sizeOf165
 v72:=Tryz.zeroValue165
 t75:=Tryz.underlying319
 a75:=Tryz.isAgg319
 z75:=Tryz.sizeOf319
 v75:=Tryz.zeroValue319
 t164:=Tryz.underlying321
 a164:=Tryz.isAgg321
 z164:=Tryz.sizeOf321
 v164:=Tryz.zeroValue321 }
theorem Tryz.Builder_Extra_166:Builder.Extra Tryz.prog Tryz.lays166_ren:={
 sizeBuilder:=by kernel_rfl
 liesBuilder:=by kernel_rfl
 t5:=Tryz.underlying5
 a5:=Tryz.isAgg5
 z5:=Tryz.sizeOf5
 v5:=Tryz.zeroValue5
 infoByte:=by kernel_rfl
 cellsByte:=by kernel_rfl
 sizeByte:=by kernel_rfl
 neB5:=by decide }
open Go.RowKit in
theorem Tryz.Builder_WriteString_k (B b:Nat)(bs:List Value)(s:ByteArray)(w:World)(h:Lib.IsBuilderF 165 5 B b bs w)(hlen:bs.length+s.size<=140737488355328)(hBw:B<=w.heap.size) :
 Calls Tryz.prog 241 #[.pointer (some ⟨b,0,none⟩),.string s] w λe w'=>e=.returned (.tuple #[.int .i64 s.size,.nilIface])/\(Lib.BuilderAtF 165 5 B b (.pointer (some ⟨b,0,none⟩)) (bs++Lib.strCells s) w'/\Below B w w'/\Lib.OthersKept 5 (some b) w w'):=Any.Builder_WriteString_k Tryz.lays166 Tryz.Builder_Extra_166 B b bs s w h hlen hBw
end Go.Proofs
