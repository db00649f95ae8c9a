import Derived.Test.YtibjhkpgaaapaaaGreatDoorZiab
import Derived.Deep.MidRow
import Derived.Great.Walk
import Derived.Test.YtibjhkpgaaapaaaGreatDoorProg
import Derived.WalkSpells
import Derived.WalkLawsBesides
import Derived.StillTactics
import Derived.Laws.Pointers
import Derived.Deep.RegionHeld3
set_option maxRecDepth 100000
set_option maxHeartbeats 1600000
namespace Go.Proofs.Sha
open Go Go.RowKit Go.Great
theorem Row.range {w:World}{base g n cap:Nat}{xs:List Value}(h:Row w base g n cap xs):w.rangeAt g 0 xs:=λj v hv=>by
 have hj:j<n:=by have:=(List.getElem?_eq_some_iff.1 hv).1;have:=h.len;omega
 rw[Nat.zero_add,h.cell j hj,hv]
theorem Row.there {w:World}{base g n cap:Nat}{xs:List Value}(h:Row w base g n cap xs):w.there g 0 cap:=λj hj=>by
 rw[Nat.zero_add];exact⟨h.room j hj,h.free j hj⟩
theorem Row.set {w:World}{base g n cap:Nat}{xs:List Value}(h:Row w base g n cap xs)(i:Nat)(hi:i<n)(v:Value):Row (w.setCell ⟨g,i,none⟩ v) base g n cap (xs.set i v):=by
 have hs:=qae w g i v;have hle:=h.le;obtain⟨u,hu⟩:=Option.isSome_iff_exists.1 (h.room i (by omega));have hc:∀j,j ≠ i->(w.setCell ⟨g,i,none⟩ v).cell? ⟨g,j,none⟩=w.cell? ⟨g,j,none⟩:=λj hj=>World.cell?_setCell_other _ _ _ _ (λe=>hj (by cases e;rfl));have hc':(w.setCell ⟨g,i,none⟩ v).cell? ⟨g,i,none⟩=some v:=World.cell?_setCell_same _ _ _ hu;refine⟨h.ge,Nat.lt_of_lt_of_le h.lt hs.size,by rw[List.length_set];exact h.len,hle,λj hj=>?_,λj hj=>?_,λj hj=>by rw[World.frozen?_setCell];exact h.free j hj⟩
 ·by_cases e:j=i
  ·subst e;rw[hc',List.getElem?_set_self (by rw[h.len];exact hi)]
  ·rw[hc j e,h.cell j hj,List.getElem?_set_ne (λe'=>e e'.symm)]
 ·by_cases e:j=i
  ·subst e;rw[hc'];rfl
  ·rw[hc j e];exact h.room j hj
theorem Row.setAll {w:World}{base g n:Nat}{xs:List Value}(h:Row w base g n n xs)(ys:List Value)(hy:ys.length=n):Row (w.setCells g 0 ys) base g n n ys:=by
 have hs:=qat g ys 0 w;have hin:∀j (hj:j<ys.length),(w.setCells g 0 ys).cell? ⟨g,0+j,none⟩=some ys[j]:=World.cell?_setCells_in g ys 0 w (λj hj=>by rw[Nat.zero_add];exact h.room j (by omega));refine⟨h.ge,Nat.lt_of_lt_of_le h.lt hs.size,hy,Nat.le_refl _,λj hj=>?_,λj hj=>?_,λj hj=>by rw[World.frozen?_setCells];exact h.free j hj⟩
 ·have:=hin j (by omega);rw[Nat.zero_add] at this;rw[this,List.getElem?_eq_getElem (by omega)]
 ·have:=hin j (by omega);rw[Nat.zero_add] at this;rw[this];rfl
section
variable {P:Program} (w:World)
theorem qam {ops:Array Oper}{rest:List Oper}{o:Oper}{a:Act}{Q:Exit->Act->World->Prop}(hgd:o.guard=none)(dst:Option Tmp)(hdst:o.dst=dst)(ty ty':TypeId)(ho:o.op=.alloc ty)(xs:List Value)(hrun:∀w:World,(Instr.alloc ty true (.tuple #[])).run P w=.ok (.pointer (some ⟨w.heap.size,0,none⟩)) (w.alloc (.cells xs.toArray ty')))(h:∀g w',Row w' w.heap.size g xs.length xs.length xs->Below w.heap.size w w'->wpList P ops Q rest (a.put dst (.pointer (some ⟨g,0,none⟩))) w'):wpList P ops Q (o :: rest) a w:=by
 refine wpList_runTo hgd dst hdst (.pointer (some ⟨w.heap.size,0,none⟩)) (w.alloc (.cells xs.toArray ty')) ?_ (h _ _ ?_ ((Below.refl _ _).alloc (Nat.le_refl _) _))
 ·unfold execOp;simp only[ho,Sem.run_bind,hrun,Result.andThen_ok,Sem.run_pure]
 ·have:=Row.of_block (base:=w.heap.size) (Nat.le_refl _) (heap_alloc_new w (.cells xs.toArray ty')) xs.length (by simp) (.inl rfl)
  simpa using this
theorem qaA {ops:Array Oper}{rest:List Oper}{o:Oper}{a:Act}{Q:Exit->Act->World->Prop}(hgd:o.guard=none)(ty:TypeId)(x:Operand)(ho:o.op=.load ty x)
 (base g n cap:Nat) (xs:List Value) (e:TypeId) (hx:a.eval x=.pointer (some ⟨g,0,none⟩)) (hr:Row w base g n cap xs)
 (hu:P.underlying ty=some (.array n e)) (hi:(P.info? ty).map (·.size)=some n)
 (h:wpList P ops Q rest (a.put o.dst (.agg xs.toArray)) w):wpList P ops Q (o :: rest) a w :=
 wpList_load_mid hgd ty x ho g 0 hx xs _ hr.range hu rfl (by rw[hi,hr.len]) h
theorem qan {ops:Array Oper}{rest:List Oper}{o:Oper}{a:Act}{Q:Exit->Act->World->Prop}(hgd:o.guard=none)(hdst:o.dst=none)(ty:TypeId)(x y:Operand)(ho:o.op=.store ty x y)
 (base g n:Nat) (xs ys:List Value) (hx:a.eval x=.pointer (some ⟨g,0,none⟩)) (hy:a.eval y=.agg ys.toArray) (hr:Row w base g n n xs) (hl:ys.length=n)
 (hi:(P.info? ty).map (·.size)=some n) (h1:∀v ∈ ys,v.oneCell'=true)
 (h:∀w',Row w' base g n n ys->w.grownBy w' (some g)->wpList P ops Q rest a w'):wpList P ops Q (o :: rest) a w :=
 wpList_store_mid hgd ty x y ho g 0 ys.toArray hx hy (by rw[List.size_toArray,hl];exact hr.there) (by rw[hi,List.size_toArray,hl]) (all_oneCell_toArray h1) (by
  rw[hdst];exact h _ (hr.setAll ys hl) (qat g ys 0 w))
theorem qbf {fn:Func}{p:Tmp}{ty:TypeId}(h:fn.results=#[.cell p ty])(tmps:Array Value)(b:Addr)(hp:tmps.getD p undef=.pointer (some b)):(results fn tmps).run P w=(loadVar ty b).run P w:=by
 have hp':tmps[p]?.getD undef=.pointer (some b):=by simpa using hp
 simp only[results,h];simp[hp',asAddr]
theorem qdv {fn:Func}{R:Ending->World->Prop}{a:Act}{p:Tmp}{ty:TypeId}(hres:fn.results=#[.cell p ty])(base g n cap:Nat)(xs:List Value)(e:TypeId)(ht:a.tmps.getD p undef=.pointer (some ⟨g,0,none⟩))(hr:Row w base g n cap xs)(hu:P.underlying ty=some (.array n e))(hi:(P.info? ty).map (·.size)=some n)(hdef:a.defers=[])(hR:R (.returned (.agg xs.toArray)) w):bodyPost P fn R .ret a w:=by
 refine bodyPost_ret (v:=.agg xs.toArray) ?_ hdef hR;rw[qbf w hres a.tmps _ ht];exact run_loadVar_mid w g 0 ty xs _ hr.range hu rfl (by rw[hi,hr.len])
theorem qcB {ops:Array Oper}{rest:List Oper}{o:Oper}{a:Act}{Q:Exit->Act->World->Prop}(hgd:o.guard=none)(t:TypeId)(x y:Operand)(ho:o.op=.index t x y)(L:List UInt32)(n e i:Nat)(hx:a.eval x=.agg (L.map U).toArray)(hy:a.eval y=.int .i64 (i:Int))(hL:L.length=n)(hi:i<n)(hu:P.underlying t=some (.array n e))(he:P.underlying e=some (.int .u32))(hs:(P.info? e).map (·.size)=some 1)(h:wpList P ops Q rest (a.put o.dst (.int .u32 ((L.getD i 0).toNat:Int))) w):wpList P ops Q (o :: rest) a w:=by
 refine wpList_runTo hgd o.dst rfl (.int .u32 ((L.getD i 0).toNat:Int)) w ?_ h;unfold execOp;cases hq:P.info? e with
 | none=>simp[hq] at hs
 | some ie =>
  have hs1:ie.size=1:=by simpa[hq] using hs
  have hc:=tab_cell L i (by omega);simp[ho,hx,hy,Instr.index,run_underlying hu,asIntOf,sizeOf,typeInfo,hq,hs1];have hpart:(part e (L.map U).toArray i).run P w=.ok (.int .u32 ((L.getD i 0).toNat:Int)) w:=by
   have hagg:(isAgg e).run P w=.ok false w:=by
    unfold isAgg;rw[Sem.run_bind,run_underlying he w];rfl
   unfold part;rw[Sem.run_bind,hagg,hc];rfl
  rw[if_pos hi,hpart];simp
end
structure Hsh (w:World) (b:Nat) (h:List UInt32) (k:List UInt8) (held size:Nat):Prop where
 hl:h.length=8
 kl:k.length=64
 hs:∀j,j<8->w.cell? ⟨b,j,none⟩=some (.int .u32 ((h.getD j 0).toNat:Int))
 ks:∀j,j<64->w.cell? ⟨b,8+j,none⟩=some (.int .u8 ((k.getD j 0).toNat:Int))
 hd:w.cell? ⟨b,72,none⟩=some (.int .i64 (held:Int))
 sz:w.cell? ⟨b,73,none⟩=some (.int .u64 (size:Int))
 fr:∀j,j<74->w.frozen? ⟨b,j,none⟩=false
theorem Hsh.lt {w:World}{b:Nat}{h:List UInt32}{k:List UInt8}{held size:Nat}(H:Hsh w b h k held size):b<w.heap.size:=World.block_lt_of_cell? w _ H.hd
theorem Hsh.kept {w w':World}{b:Nat}{h:List UInt32}{k:List UInt8}{held size:Nat}{row:Option Nat}(H:Hsh w b h k held size)(hg:w.grownBy w' row)(hn:some b ≠ row):Hsh w' b h k held size:=by
 have hc:∀j,w'.cell? ⟨b,j,none⟩=w.cell? ⟨b,j,none⟩:=λj=>hg.cell_far _ H.lt hn;have hf:∀j,w'.frozen? ⟨b,j,none⟩=w.frozen? ⟨b,j,none⟩:=λj=>hg.frozen_far _ H.lt hn;exact⟨H.hl,H.kl,λj hj=>(hc j).trans (H.hs j hj),λj hj=>(hc _).trans (H.ks j hj),(hc _).trans H.hd,(hc _).trans H.sz,λj hj=>(hf j).trans (H.fr j hj)⟩
theorem Hsh.below {w w':World}{b:Nat}{h:List UInt32}{k:List UInt8}{held size:Nat}(H:Hsh w b h k held size)(hg:Below w.heap.size w w'):Hsh w' b h k held size:=H.kept (qay hg none) (by simp)
theorem Hsh.drew {w:World}{b:Nat}{h:List UInt32}{k:List UInt8}{held size:Nat}(H:Hsh w b h k held size):Hsh w.drew b h k held size:=H.kept (qbu w none) (by simp)
theorem qdd {α:Type}(l:List α)(i j:Nat)(v d:α)(hi:i<l.length):(l.set i v).getD j d=if j=i then v else l.getD j d:=by
 rw[zL,zL];by_cases e:j=i
 ·subst e;rw[List.getElem?_set_self hi,if_pos rfl];rfl
 ·rw[List.getElem?_set_ne (λe'=>e e'.symm),if_neg e]
section
variable {w:World} {b:Nat} {h:List UInt32} {k:List UInt8} {held size:Nat}
theorem qak (w:World)(b i j:Nat)(v:Value)(hn:j ≠ i):(w.setCell ⟨b,i,none⟩ v).cell? ⟨b,j,none⟩=w.cell? ⟨b,j,none⟩:=World.cell?_setCell_other _ _ _ _ (λe=>hn (by cases e;rfl))
theorem Hsh.setHeld (H:Hsh w b h k held size)(n:Nat):Hsh (w.setCell ⟨b,72,none⟩ (.int .i64 (n:Int))) b h k n size:=by
 refine⟨H.hl,H.kl,λj hj=>?_,λj hj=>?_,World.cell?_setCell_same _ _ _ H.hd,?_,λj hj=>by rw[World.frozen?_setCell];exact H.fr j hj⟩
 ·rw[qak _ _ _ _ _ (by omega)];exact H.hs j hj
 ·rw[qak _ _ _ _ _ (by omega)];exact H.ks j hj
 ·rw[qak _ _ _ _ _ (by omega)];exact H.sz
theorem Hsh.setSize (H:Hsh w b h k held size)(n:Nat):Hsh (w.setCell ⟨b,73,none⟩ (.int .u64 (n:Int))) b h k held n:=by
 refine⟨H.hl,H.kl,λj hj=>?_,λj hj=>?_,?_,World.cell?_setCell_same _ _ _ H.sz,λj hj=>by rw[World.frozen?_setCell];exact H.fr j hj⟩
 ·rw[qak _ _ _ _ _ (by omega)];exact H.hs j hj
 ·rw[qak _ _ _ _ _ (by omega)];exact H.ks j hj
 ·rw[qak _ _ _ _ _ (by omega)];exact H.hd
theorem Hsh.setByte (H:Hsh w b h k held size)(i:Nat)(hi:i<64)(v:UInt8):Hsh (w.setCell ⟨b,8+i,none⟩ (.int .u8 (v.toNat:Int))) b h (k.set i v) held size:=by
 refine⟨H.hl,by rw[List.length_set];exact H.kl,λj hj=>?_,λj hj=>?_,?_,?_,λj hj=>by rw[World.frozen?_setCell];exact H.fr j hj⟩
 ·rw[qak _ _ _ _ _ (by omega)];exact H.hs j hj
 ·rw[qdd k i j v 0 (by rw[H.kl];exact hi)];by_cases e:j=i
  ·subst e;rw[if_pos rfl];exact World.cell?_setCell_same _ _ _ (H.ks j hj)
  ·rw[if_neg e,qak _ _ _ _ _ (by omega)];exact H.ks j hj
 ·rw[qak _ _ _ _ _ (by omega)];exact H.hd
 ·rw[qak _ _ _ _ _ (by omega)];exact H.sz
theorem Hsh.setWord (H:Hsh w b h k held size)(i:Nat)(hi:i<8)(v:UInt32):Hsh (w.setCell ⟨b,i,none⟩ (.int .u32 (v.toNat:Int))) b (h.set i v) k held size:=by
 refine⟨by rw[List.length_set];exact H.hl,H.kl,λj hj=>?_,λj hj=>?_,?_,?_,λj hj=>by rw[World.frozen?_setCell];exact H.fr j hj⟩
 ·rw[qdd h i j v 0 (by rw[H.hl];exact hi)];by_cases e:j=i
  ·subst e;rw[if_pos rfl];exact World.cell?_setCell_same _ _ _ (H.hs j hj)
  ·rw[if_neg e,qak _ _ _ _ _ (by omega)];exact H.hs j hj
 ·rw[qak _ _ _ _ _ (by omega)];exact H.ks j hj
 ·rw[qak _ _ _ _ _ (by omega)];exact H.hd
 ·rw[qak _ _ _ _ _ (by omega)];exact H.sz
end
def arr (m:List UInt8) (q:Nat):List UInt32:=sched m q++List.replicate (64-q) 0
theorem arr_getD (m:List UInt8)(q j:Nat)(hj:j<q):(arr m q).getD j 0=(sched m q).getD j 0:=by
 rw[zL,zL,arr,List.getElem?_append_left (by rw[qaC];exact hj)]
theorem arr_set (m:List UInt8)(q:Nat)(hq:q<64)(v:UInt32):(arr m q).set q v=(sched m q++[v])++List.replicate (64-(q+1)) 0:=by
 have e:64-q=(64-(q+1))+1:=by omega
 rw[arr,e,List.replicate_succ,List.set_append_right _ _ (by rw[qaC];exact Nat.le_refl _),qaC,Nat.sub_self];simp
theorem arr_lo (m:List UInt8)(q p:Nat)(b0 b1 b2 b3:UInt8)(hq:q<16)(hp:p=4*q)(hb:m.getD p 0=b0/\m.getD (p+1) 0=b1/\m.getD (p+2) 0=b2/\m.getD (p+3) 0=b3) : ((arr m q).map U).set q (.int .u32 (bits BinOp.or IntKind.u32 (bits BinOp.or IntKind.u32 (bits BinOp.or IntKind.u32 (IntKind.u32.wrap (IntKind.u32.wrap (b0.toNat:Int)*16777216)) (IntKind.u32.wrap (IntKind.u32.wrap (b1.toNat:Int)*65536))) (IntKind.u32.wrap (IntKind.u32.wrap (b2.toNat:Int)*256))) (IntKind.u32.wrap (b3.toNat:Int))))=(arr m (q+1)).map U:=by
 rw[qcK];show ((arr m q).map U).set q (U _)=_;rw[<-List.map_set,arr_set m q (by omega)];obtain⟨h0,h1,h2,h3⟩:=hb;subst hp;rw[<-h0,<-h1,<-h2,<-h3];show _=((sched m q++[_])++_).map U;rw[if_pos hq]
theorem arr_hi (m:List UInt8)(q:Nat)(x16 x15 x7 x2:UInt32)(hq:16<=q)(hq2:q<64)(hb:(sched m q).getD (q-16) 0=x16/\(sched m q).getD (q-15) 0=x15/\(sched m q).getD (q-7) 0=x7/\(sched m q).getD (q-2) 0=x2) : ((arr m q).map U).set q (.int .u32 (IntKind.u32.wrap (IntKind.u32.wrap (IntKind.u32.wrap (((sumNear x2).toNat:Int)+x7.toNat)+(sumFar x15).toNat)+x16.toNat)))=(arr m (q+1)).map U:=by
 rw[qaR,qaR,qaR];show ((arr m q).map U).set q (U _)=_;rw[<-List.map_set,arr_set m q hq2];obtain⟨h0,h1,h2,h3⟩:=hb;rw[<-h0,<-h1,<-h2,<-h3];show _=((sched m q++[_])++_).map U;rw[if_neg (by omega)];congr 4;generalize (sched m q).getD (q-16) 0=a;generalize sumFar ((sched m q).getD (q-15) 0)=c;generalize (sched m q).getD (q-7) 0=d;generalize sumNear ((sched m q).getD (q-2) 0)=e
 ac_rfl
theorem arr_full (m:List UInt8):arr m 64=sched m 64:=by simp[arr]
theorem qaK (w:World)(g i b j:Nat)(v:Value)(hne:b ≠ g):(w.setCell ⟨g,i,none⟩ v).cell? ⟨b,j,none⟩=w.cell? ⟨b,j,none⟩:=World.cell?_setCell_other _ _ _ _ (λe=>hne (by cases e;rfl))
def addTo (h v:List UInt32):Nat->List UInt32
 | 0=>h
 | i+1=>(addTo h v i).set i ((addTo h v i).getD i 0+v.getD i 0)
theorem addTo_comp (m:List UInt8)(W:List UInt32)(x0 x1 x2 x3 x4 x5 x6 x7 va vb vc vd ve vf vg vz:UInt32)(hw:sched m 64=W)(hr:rnds W ⟨x0,x1,x2,x3,x4,x5,x6,x7⟩ 64=⟨va,vb,vc,vd,ve,vf,vg,vz⟩) : addTo [x0,x1,x2,x3,x4,x5,x6,x7] [va,vb,vc,vd,ve,vf,vg,vz] 8=comp [x0,x1,x2,x3,x4,x5,x6,x7] m:=by
 unfold comp ofL;rw[hw];show _=[x0+(rnds W ⟨x0,x1,x2,x3,x4,x5,x6,x7⟩ 64).a,x1+(rnds W ⟨x0,x1,x2,x3,x4,x5,x6,x7⟩ 64).b,x2+(rnds W ⟨x0,x1,x2,x3,x4,x5,x6,x7⟩ 64).c,x3+(rnds W ⟨x0,x1,x2,x3,x4,x5,x6,x7⟩ 64).d,
  x4+(rnds W ⟨x0,x1,x2,x3,x4,x5,x6,x7⟩ 64).e,x5+(rnds W ⟨x0,x1,x2,x3,x4,x5,x6,x7⟩ 64).f,x6+(rnds W ⟨x0,x1,x2,x3,x4,x5,x6,x7⟩ 64).g,x7+(rnds W ⟨x0,x1,x2,x3,x4,x5,x6,x7⟩ 64).z]
 rw[hr];rfl
theorem list8 (h:List UInt32)(hl:h.length=8):∃x0 x1 x2 x3 x4 x5 x6 x7,h=[x0,x1,x2,x3,x4,x5,x6,x7]:=by
 match h,hl with
 | [x0,x1,x2,x3,x4,x5,x6,x7],_=>exact⟨x0,x1,x2,x3,x4,x5,x6,x7,rfl⟩
end Go.Proofs.Sha
namespace Go.Proofs.YtibjhkpgaaapaaaGreatDoor
open Go.RowKit Go.Proofs.Sha Tryz
theorem and31 (n:Nat)(hn:n<=31)(h1:1<=n):bits BinOp.and IntKind.u64 (IntKind.u64.wrap (-(n:Int))) 31=((32-n:Nat):Int):=by
 have:n=1\/n=2\/n=3\/n=4\/n=5\/n=6\/n=7\/n=8\/n=9\/n=10\/n=11\/n=12\/n=13\/n=14\/n=15\/n=16\/n=17\/n=18\/n=19\/n=20\/n=21\/n=22\/n=23\/n=24\/n=25\/n=26\/n=27\/n=28\/n=29\/n=30\/n=31:=by omega
 rcases this with h|h|h|h|h|h|h|h|h|h|h|h|h|h|h|h|h|h|h|h|h|h|h|h|h|h|h|h|h|h|h <;> subst h <;> decide
theorem rot_any (x:UInt32)(m:Int)(h1:m<=-1)(h2:-31<=m)(w:World) : Calls prog 202 #[.int .u32 x.toNat,.int .i64 m] w λe w'=>e=.returned (.int .u32 (turn x (-m).toNat).toNat)/\w=w':=by
 obtain⟨n,hn⟩:=Int.eq_ofNat_of_zero_le (show 0<=-m by omega);obtain rfl:m = -(n:Int):=by omega
 rw[Int.neg_neg,Int.toNat_natCast];clear hn;have hn1:1<=n:=by omega
 have hn2:n<=31:=by omega
 have ha:=and31 n hn2 hn1;go_enter func202,ntmps202;go_wp2;go_ret;exact⟨ret_int (by rw[show 32-(32-n)=n from by omega];exact turn_impl x n),rfl⟩
def zeros32:List UInt32:=List.replicate 64 0
theorem alloc46 (w:World):(Instr.alloc 294 true (.tuple #[])).run prog w=.ok (.pointer (some ⟨w.heap.size,0,none⟩)) (w.alloc (.cells (zeros32.map U).toArray 294)):=by kernel_rfl
theorem size46:(prog.info? 294).map (·.size)=some 64:=by kernel_rfl
theorem isched_any (b:Nat)(h:List UInt32)(kb:List UInt8)(held size:Nat)(w:World)(H:Hsh w b h kb held size) : Calls prog 201 #[.pointer (some ⟨b,0,none⟩)] w λe w'=>e=.returned (.agg ((sched kb 64).map U).toArray)/\Below w.heap.size w w':=by
 have hbl:=H.lt;go_enter func201,ntmps201;go_wp2_with (first|(refine qam _ rfl (some 2) rfl 294 294 rfl (zeros32.map U) alloc46 ?_;intro g2 w2 hr2 hb2)|(refine qam _ rfl (some 3) rfl 294 294 rfl (zeros32.map U) alloc46 ?_;intro g3 w3 hr3 hb3));have hr2':Row w2 w.heap.size g2 64 64 (zeros32.map U):=hr2;have hr3':Row w3 w2.heap.size g3 64 64 ((arr kb 0).map U):=hr3;have h2:=hb2.size;have h3:=hb3.size;have hl2:=hr2.lt;have hg3:=hr3.ge;have hg2:=hr2.ge;have HR2:Row w3 w.heap.size g2 64 64 (zeros32.map U):=hr2'.below hb3;have HH:Hsh w3 b h kb held size:=(H.below hb2).below hb3;have hbw:Below w.heap.size w w3:=hb2.trans (hb3.mono h2);clear hr2 hr3 hr2' H hb2 hb3;go_loopw [4] (λi wr=>∃q:Nat,q<=16/\i=.int .i64 (q:Int)/\Row wr w2.heap.size g3 64 64 ((arr kb q).map U)/\w3.grownBy wr (some g3)) (λi _=>16-(intOf i).toNat)
 case atStart=>exact⟨0,by omega,rfl,hr3',qbx _ _⟩
 case round =>
  clear hr3';obtain⟨q,hq,rfl,hrow,hgr⟩:=hrel;have hne:b ≠ g3:=by omega
  have hH:Hsh wr b h kb held size:=HH.kept hgr (by simp;omega);by_cases hlt:q<16
  ·obtain⟨p,hp⟩:∃p,p=4*q:=⟨_,rfl⟩;have c0:=hH.ks p (by omega);have c1:=hH.ks (p+1) (by omega);have c2:=hH.ks (p+2) (by omega);have c3:=hH.ks (p+3) (by omega);generalize hb0:kb.getD p 0=b0 at c0;generalize hb1:kb.getD (p+1) 0=b1 at c1;generalize hb2:kb.getD (p+2) 0=b2 at c2;generalize hb3:kb.getD (p+3) 0=b3 at c3;have HB:Hid (kb.getD p 0=b0/\kb.getD (p+1) 0=b1/\kb.getD (p+2) 0=b2/\kb.getD (p+3) 0=b3):=⟨hb0,hb1,hb2,hb3⟩;clear hb0 hb1 hb2 hb3 hH;have ct:=row_u hrow q (by omega);have cf:=hrow.free q (by omega);have w0:IntKind.i64.wrap (4*(q:Int))=(p:Int):=(by rw[qaf _ (by omega) (by omega)];omega);have q0:(0:Int)<=(p:Int):=(by omega);have q1:(p:Int)<64:=(by omega);have q2:(p:Int)+1<64:=(by omega);have q3:(p:Int)+2<64:=(by omega);have q4:(p:Int)+3<64:=(by omega);have w1:IntKind.i64.wrap ((p:Int)+1)=(p:Int)+1:=qaf _ (by omega) (by omega);have r1:(0:Int)<=(p:Int)+1:=(by omega);have t1:((p:Int)+1).toNat=p+1:=(by omega);have wp2:IntKind.i64.wrap ((p:Int)+2)=(p:Int)+2:=qaf _ (by omega) (by omega);have r2:(0:Int)<=(p:Int)+2:=(by omega);have t2:((p:Int)+2).toNat=p+2:=(by omega);have wp3:IntKind.i64.wrap ((p:Int)+3)=(p:Int)+3:=qaf _ (by omega) (by omega);have r3:(0:Int)<=(p:Int)+3:=(by omega);have t3:((p:Int)+3).toNat=p+3:=(by omega);have s0:(0:Int)<=(q:Int):=(by omega);have s1:(q:Int)<64:=(by omega);have HP:Hid (p=4*q):=hp;clear hp;go_wp2_with fail;go_region_held3 (λw'=>w'.cell? ⟨b,8+p,none⟩=some (.int .u8 (b0.toNat:Int))/\w'.cell? ⟨b,8+(p+1),none⟩=some (.int .u8 (b1.toNat:Int))/\w'.cell? ⟨b,8+(p+2),none⟩=some (.int .u8 (b2.toNat:Int))/\w'.cell? ⟨b,8+(p+3),none⟩=some (.int .u8 (b3.toNat:Int)))
    (first|exact⟨c0,c1,c2,c3⟩|exact⟨(qaK _ _ _ _ _ _ hne).trans c0,(qaK _ _ _ _ _ _ hne).trans c1,(qaK _ _ _ _ _ _ hne).trans c2,(qaK _ _ _ _ _ _ hne).trans c3⟩) (fail)
   rw[qcK];go_wp2;go_roundw
   case rel =>
    refine⟨q+1,by omega,by go_num,?_,?_⟩
    ·rw[<-arr_lo kb q p b0 b1 b2 b3 hlt HP.out HB.out,qcK];exact(hrow.set q (by omega) _).drew
    ·exact qav (qad hgr (qae _ _ _ _))
   case measure=>simp[intOf];omega
  ·obtain rfl:q=16:=by omega
   obtain⟨w4,rfl⟩:∃w4,w4=wr:=⟨_,rfl⟩;clear hH;go_wp2_with fail;go_loopw [5] (λi wr=>∃q:Nat,16<=q/\q<=64/\i=.int .i64 (q:Int)/\Row wr w2.heap.size g3 64 64 ((arr kb q).map U)/\w3.grownBy wr (some g3)) (λi _=>64-(intOf i).toNat)
   case atStart=>exact⟨16,by omega,by omega,rfl,hrow,hgr⟩
   case round =>
    clear hrow hgr;obtain⟨q,hq16,hq,rfl,hrow,hgr⟩:=hrel;by_cases hlt:q<64
    ·have c15:=row_u hrow (q-15) (by omega);have c2:=row_u hrow (q-2) (by omega);have c16:=row_u hrow (q-16) (by omega);have c7:=row_u hrow (q-7) (by omega);have ct:=row_u hrow q (by omega);have cf:=hrow.free q (by omega);rw[arr_getD kb q _ (by omega)] at c15 c2 c16 c7;generalize h15:(sched kb q).getD (q-15) 0=x15 at *;generalize h2':(sched kb q).getD (q-2) 0=x2 at *;generalize h16':(sched kb q).getD (q-16) 0=x16 at *;generalize h7:(sched kb q).getD (q-7) 0=x7 at *;have HB:Hid ((sched kb q).getD (q-16) 0=x16/\(sched kb q).getD (q-15) 0=x15/\(sched kb q).getD (q-7) 0=x7/\(sched kb q).getD (q-2) 0=x2):=⟨h16',h15,h7,h2'⟩;clear h15 h2' h16' h7;have k1:(q:Int)-16<64:=(by omega);have k2:(q:Int)-7<64:=(by omega);have k3:(q:Int)-15<64:=(by omega);have k4:(q:Int)-2<64:=(by omega);have k5:(q:Int)<64:=(by omega);have k6:(0:Int)<=(q:Int):=(by omega);have w1:IntKind.i64.wrap ((q:Int)-16)=(q:Int)-16:=qaf _ (by omega) (by omega);have r1:(16:Int)<=(q:Int):=(by omega);have t1:((q:Int)-16).toNat=q-16:=(by omega);have w2':IntKind.i64.wrap ((q:Int)-7)=(q:Int)-7:=qaf _ (by omega) (by omega);have r2:(7:Int)<=(q:Int):=(by omega);have t2:((q:Int)-7).toNat=q-7:=(by omega);have w3':IntKind.i64.wrap ((q:Int)-15)=(q:Int)-15:=qaf _ (by omega) (by omega);have r3:(15:Int)<=(q:Int):=(by omega);have t3:((q:Int)-15).toNat=q-15:=(by omega);have w4':IntKind.i64.wrap ((q:Int)-2)=(q:Int)-2:=qaf _ (by omega) (by omega);have r4:(2:Int)<=(q:Int):=(by omega);have t4:((q:Int)-2).toNat=q-2:=(by omega);go_wp2_with fail;go_region_held3 (λw'=>w'.cell? ⟨g3,q-2,none⟩=some (.int .u32 (x2.toNat:Int))/\w'.cell? ⟨g3,q-15,none⟩=some (.int .u32 (x15.toNat:Int))) (exact⟨c2,c15⟩) (fail);go_wp2_with (go_at_call 202;refine(rot_any _ _ (by omega) (by omega) _).mono ?_;rintro e w' ⟨rfl,rfl⟩);rw[far_form,near_form];generalize hs0:sumFar x15=sf at *;generalize hs1:sumNear x2=sn at *;have HS:Hid (sumFar x15=sf/\sumNear x2=sn):=⟨hs0,hs1⟩;clear hs0 hs1;go_region_held3 (λw'=>w'.cell? ⟨g3,q-7,none⟩=some (.int .u32 (x7.toNat:Int))/\w'.cell? ⟨g3,q-16,none⟩=some (.int .u32 (x16.toNat:Int))) (first|exact⟨c7,c16⟩|exact⟨(qak _ _ _ _ _ (by omega)).trans c7,(qak _ _ _ _ _ (by omega)).trans c16⟩) (fail);rw[qaR,qaR,qaR];generalize hv:sn+x7+sf+x16=nv;have HV:Hid (sn+x7+sf+x16=nv):=hv;clear hv;go_wp2;go_roundw
     case rel =>
      have e:=arr_hi kb q x16 x15 x7 x2 hq16 hlt HB.out;rw[HS.out.1,HS.out.2,qaR,qaR,qaR,HV.out] at e
      (repeat apply Exists.intro)
      refine⟨⟨q+1,by omega,by omega,by go_num,?_,?_⟩,rfl⟩
      ·rw[<-e];exact(hrow.set q (by omega) _).drew.drew
      ·exact qav (qav (qad hgr (qae _ _ _ _)))
     case measure=>simp[intOf];omega
    ·obtain rfl:q=64:=by omega
     have hR2:Row wr w.heap.size g2 64 64 (zeros32.map U):=HR2.kept hgr (by simp;omega);rw[arr_full] at hrow;have hln:((sched kb 64).map U).length=64:=(by rw[List.length_map,qaC]);have h1c:∀v ∈ (sched kb 64).map U,v.oneCell'=true:=by
      intro v hv;obtain⟨x,_,rfl⟩:=List.mem_map.1 hv;rfl
     have HF:Hid (∀N,N=64->Row wr w2.heap.size g3 64 64 ((sched kb N).map U)/\((sched kb N).map U).length=64/\∀v ∈ (sched kb N).map U,v.oneCell'=true):=λN hN=>by subst hN;exact⟨hrow,hln,h1c⟩
     clear hrow hln h1c;obtain⟨L,hL⟩:=eX ((sched kb 64).map U);have HL:Hid (∀N,N=64->(sched kb N).map U=L):=λN hN=>by subst hN;exact hL
     have F:=HF.out 64 rfl;rw[hL] at F;obtain⟨F1,F2,F3⟩:=F;clear hL HF;go_wp2_with (first|(refine qaA _ rfl 294 (.tmp 3) rfl w2.heap.size g3 64 64 L 177 rfl F1 Tryz.underlying294 size46 ?_)|(refine qan _ rfl rfl 294 (.tmp 2) (.tmp 100) rfl w.heap.size g2 64 (zeros32.map U) L rfl rfl hR2 F2 size46 F3 ?_;intro w5 hR5 hg5));refine qdv _ (p:=2) (ty:=294) rfl w.heap.size g2 64 64 L 177 rfl hR5 Tryz.underlying294 size46 rfl ?_;refine⟨?_,?_⟩
     ·rw[<-HL.out 64 rfl]
     ·exact(hbw.trans (qah hgr (by omega) (by omega))).trans (qah hg5 (by omega) (by have:=hgr.size;omega))
theorem ch_form2 (e f g:UInt32):bits BinOp.xor IntKind.u32 (bits BinOp.and IntKind.u32 (e.toNat:Int) (f.toNat:Int)) (bits BinOp.and IntKind.u32 (bits BinOp.xor IntKind.u32 IntKind.u32.max (e.toNat:Int)) (g.toNat:Int))=((ch e f g).toNat:Int):=ch_form e f g
theorem size41:(prog.info? 286).map (·.size)=some 8:=by kernel_rfl
theorem size24:(prog.info? 177).map (·.size)=some 1:=by kernel_rfl
theorem mix_any (b:Nat)(x0 x1 x2 x3 x4 x5 x6 x7:UInt32)(kb:List UInt8)(held size:Nat)(w:World)(H:Hsh w b [x0,x1,x2,x3,x4,x5,x6,x7] kb held size)(_hb0:b ≠ 0)(hK:∀j,j<64->w.cell? ⟨0,j,none⟩=some (.int .u32 ((kTab.getD j 0).toNat:Int))) : Calls prog 195 #[.pointer (some ⟨b,0,none⟩)] w λe w'=>e=.returned (.tuple #[])/\Hsh w' b (comp [x0,x1,x2,x3,x4,x5,x6,x7] kb) kb 0 size/\w.grownBy w' (some b):=by
 have hbl:=H.lt;have hl0:0<w.heap.size:=by omega
 have hWl:=qaC kb 64;have h1c:∀v ∈ (sched kb 64).map U,v.oneCell'=true:=by
  intro v hv;obtain⟨x,_,rfl⟩:=List.mem_map.1 hv;rfl
 have hsa:=isched_any b [x0,x1,x2,x3,x4,x5,x6,x7] kb held size w H;obtain⟨W,hW⟩:=eX (sched kb 64);rw[hW] at hWl h1c hsa;have HW:Hid (∀N,N=64->sched kb N=W):=λN hN=>by rw[hN];exact hW
 clear hW;have hLW:(W.map U).length=64:=by rw[List.length_map,hWl]
 obtain⟨L,hL⟩:=eX (W.map U);have HL:Hid (W.map U=L):=hL;rw[hL] at hLW h1c hsa;clear hL;go_enter func195,ntmps195;go_wp2_with fail;refine hsa.mono ?_;rintro e w1 ⟨rfl,hb1⟩;clear hsa;have hs1:=hb1.size;go_wp2_with (first|(refine qam _ rfl (some 2) rfl 294 294 rfl (zeros32.map U) alloc46 ?_;intro g2 w2 hr2 hb2)|(refine qan _ rfl rfl 294 (.tmp 2) (.tmp 21) rfl w1.heap.size g2 64 (zeros32.map U) L rfl rfl hr2 hLW size46 h1c ?_;intro w3 hr3 hg3));have hg2l:=hr2.ge;have hg2g:=hr2.lt;have hs2:=hb2.size;have hs3:=hg3.size;have H3:Hsh w3 b [x0,x1,x2,x3,x4,x5,x6,x7] kb held size:=((H.below hb1).below hb2).kept hg3 (by simp;omega);have hB3:Below w.heap.size w w3:=(hb1.trans (hb2.mono hs1)).trans (qah hg3 (by omega) (by omega));have hK3:∀j,j<64->w3.cell? ⟨0,j,none⟩=some (.int .u32 ((kTab.getD j 0).toNat:Int)):=λj hj=>(hB3.cell (by exact hl0)).trans (hK j hj);have hC3:∀j,j<64->w3.cell? ⟨g2,j,none⟩=some (.int .u32 ((W.getD j 0).toNat:Int)):=by rw[<-HL.out] at hr3;exact λj hj=>row_u hr3 j hj
 have HK:Hid (∀j,j<64->w3.cell? ⟨0,j,none⟩=some (.int .u32 ((kTab.getD j 0).toNat:Int))):=hK3;have HC:Hid (∀j,j<64->w3.cell? ⟨g2,j,none⟩=some (.int .u32 ((W.getD j 0).toNat:Int))):=hC3;have c0:w3.cell? ⟨b,0,none⟩=some (.int .u32 (x0.toNat:Int)):=H3.hs 0 (by omega);have c1:w3.cell? ⟨b,1,none⟩=some (.int .u32 (x1.toNat:Int)):=H3.hs 1 (by omega);have c2:w3.cell? ⟨b,2,none⟩=some (.int .u32 (x2.toNat:Int)):=H3.hs 2 (by omega);have c3:w3.cell? ⟨b,3,none⟩=some (.int .u32 (x3.toNat:Int)):=H3.hs 3 (by omega);have c4:w3.cell? ⟨b,4,none⟩=some (.int .u32 (x4.toNat:Int)):=H3.hs 4 (by omega);have c5:w3.cell? ⟨b,5,none⟩=some (.int .u32 (x5.toNat:Int)):=H3.hs 5 (by omega);have c6:w3.cell? ⟨b,6,none⟩=some (.int .u32 (x6.toNat:Int)):=H3.hs 6 (by omega);have c7:w3.cell? ⟨b,7,none⟩=some (.int .u32 (x7.toNat:Int)):=H3.hs 7 (by omega);have hl3:g2<w3.heap.size:=by omega
 have hl30:0<w3.heap.size:=by omega
 clear hK hK3 hC3 hr2 hr3 hg3 hb2 hb1 h1c hLW HL H;go_region_held3 (λw'=>w'.cell? ⟨b,0,none⟩=some (.int .u32 (x0.toNat:Int))/\w'.cell? ⟨b,1,none⟩=some (.int .u32 (x1.toNat:Int))/\w'.cell? ⟨b,2,none⟩=some (.int .u32 (x2.toNat:Int))/\w'.cell? ⟨b,3,none⟩=some (.int .u32 (x3.toNat:Int))) (exact⟨c0,c1,c2,c3⟩) (fail);go_wp2_with fail;go_region_held3 (λw'=>w'.cell? ⟨b,4,none⟩=some (.int .u32 (x4.toNat:Int))/\w'.cell? ⟨b,5,none⟩=some (.int .u32 (x5.toNat:Int))/\w'.cell? ⟨b,6,none⟩=some (.int .u32 (x6.toNat:Int))/\w'.cell? ⟨b,7,none⟩=some (.int .u32 (x7.toNat:Int))) (exact⟨c4,c5,c6,c7⟩) (fail);go_wp2_with fail;go_loopw [3,4,5,6,7,8,9,10,11] (λta tb tc td te tf tg tz i wr=>∃ (k:Nat) (va vb vc vd ve vf vg vz:UInt32),k<=64/\i=.int .i64 k/\Hid (rnds W ⟨x0,x1,x2,x3,x4,x5,x6,x7⟩ k=⟨va,vb,vc,vd,ve,vf,vg,vz⟩)/\ta=.int .u32 (va.toNat:Int)/\tb=.int .u32 (vb.toNat:Int)/\tc=.int .u32 (vc.toNat:Int)/\td=.int .u32 (vd.toNat:Int)/\te=.int .u32 (ve.toNat:Int)/\tf=.int .u32 (vf.toNat:Int)/\tg=.int .u32 (vg.toNat:Int)/\tz=.int .u32 (vz.toNat:Int)/\Below w3.heap.size w3 wr) (λ_ _ _ _ _ _ _ _ i _=>64-(intOf i).toNat)
 case atStart=>exact⟨0,x0,x1,x2,x3,x4,x5,x6,x7,Nat.zero_le _,rfl,rfl,rfl,rfl,rfl,rfl,rfl,rfl,rfl,rfl,(Below.refl _ _).drew.drew⟩
 case round =>
  obtain⟨k,va,vb,vc,vd,ve,vf,vg,vz,hk,rfl,HST,rfl,rfl,rfl,rfl,rfl,rfl,rfl,rfl,hb2⟩:=hrel;by_cases hlt:k<64
  ·obtain⟨kk,hkk⟩:∃x,kTab.getD k 0=x:=⟨_,rfl⟩;obtain⟨ww,hww⟩:∃x,W.getD k 0=x:=⟨_,rfl⟩;have ck:wr.cell? ⟨0,k,none⟩=some (.int .u32 (kk.toNat:Int)):=(by rw[<-hkk];exact(hb2.cell hl30).trans (HK.out k hlt));have cw:wr.cell? ⟨g2,k,none⟩=some (.int .u32 (ww.toNat:Int)):=(by rw[<-hww];exact(hb2.cell hl3).trans (HC.out k hlt));have HKW:Hid (kTab.getD k 0=kk/\W.getD k 0=ww):=⟨hkk,hww⟩;clear hkk hww;have q0:(0:Int)<=(k:Int):=(by omega);have q1:(k:Int)<64:=(by omega);go_wp2_with (go_at_call 202;refine(rot_any _ _ (by omega) (by omega) _).mono ?_;rintro e w' ⟨rfl,rfl⟩);rw[sumE_form,sumA_form,ch_form2,maj_form];go_region_held3 (λw'=>w'.cell? ⟨0,k,none⟩=some (.int .u32 (kk.toNat:Int))/\w'.cell? ⟨g2,k,none⟩=some (.int .u32 (ww.toNat:Int))) (exact⟨ck,cw⟩) (fail);go_wp2;go_roundw
   case rel =>
    have HR:=rnds_succ W _ k kk ww _ HST.out HKW.out;simp only[u_add];exact⟨k+1,_,_,_,_,_,_,_,_,by omega,by go_num,HR,rfl,rfl,rfl,rfl,rfl,rfl,rfl,rfl,by first|exact hb2.drew|exact hb2⟩
   case measure=>simp[intOf];omega
  ·obtain rfl:k=64:=by omega
   obtain⟨w4,rfl⟩:∃w4,w4=wr:=⟨_,rfl⟩;have H4:Hsh w4 b [x0,x1,x2,x3,x4,x5,x6,x7] kb held size:=H3.below hb2;have HST':Hid (∀N,N=64->rnds W ⟨x0,x1,x2,x3,x4,x5,x6,x7⟩ N=⟨va,vb,vc,vd,ve,vf,vg,vz⟩):=λN hN=>by rw[hN];exact HST
   clear HST c0 c1 c2 c3 c4 c5 c6 c7 H3 HK HC;have hg4:w.grownBy w4 (some b):=qay (hB3.trans (hb2.mono (by omega))) _;go_wp2_with fail;go_loopw [138] (λt wr=>∃i:Nat,i<=8/\t=.int .i64 (i:Int)/\Hsh wr b (addTo [x0,x1,x2,x3,x4,x5,x6,x7] [va,vb,vc,vd,ve,vf,vg,vz] i) kb held size/\w.grownBy wr (some b)) (λt _=>8-(intOf t).toNat)
   case atStart=>exact⟨0,by omega,rfl,H4,hg4⟩
   case round =>
    clear H4 hg4 hb2;obtain⟨i,hi,rfl,HH,hgr⟩:=hrel;by_cases hlt:i<8
    ·obtain⟨x,hx⟩:=eX ((addTo [x0,x1,x2,x3,x4,x5,x6,x7] [va,vb,vc,vd,ve,vf,vg,vz] i).getD i 0);obtain⟨y,hy⟩:=eX ([va,vb,vc,vd,ve,vf,vg,vz].getD i 0);have cx:wr.cell? ⟨b,i,none⟩=some (.int .u32 (x.toNat:Int)):=(by rw[<-hx];exact HH.hs i hlt);have cf:=HH.fr i (by omega);have HXY:Hid ((addTo [x0,x1,x2,x3,x4,x5,x6,x7] [va,vb,vc,vd,ve,vf,vg,vz] i).getD i 0=x/\[va,vb,vc,vd,ve,vf,vg,vz].getD i 0=y):=⟨hx,hy⟩;clear hx hy;have q0:(0:Int)<=(i:Int):=(by omega);have q1:(i:Int)<8:=(by omega);go_wp2_with (refine qcB _ rfl 286 (.tmp 137) (.tmp 138) rfl [va,vb,vc,vd,ve,vf,vg,vz] 8 177 i rfl rfl rfl hlt Tryz.underlying286 Tryz.underlying177 size24 ?_;rw[HXY.out.2]);go_region;go_wp2;go_roundw
     case rel =>
      have e:addTo [x0,x1,x2,x3,x4,x5,x6,x7] [va,vb,vc,vd,ve,vf,vg,vz] (i+1)=(addTo [x0,x1,x2,x3,x4,x5,x6,x7] [va,vb,vc,vd,ve,vf,vg,vz] i).set i (x+y):=(by rw[addTo,HXY.out.1,HXY.out.2]);have hw2:=u_add x y;simp only[hw2]
      first
       | exact⟨i+1,by omega,by go_num,by rw[e];exact(HH.setWord i hlt (x+y)).drew,qav (qad hgr (qae _ _ _ _))⟩
       | ((repeat apply Exists.intro);exact⟨⟨i+1,by omega,by go_num,by rw[e];exact(HH.setWord i hlt (x+y)).drew,qav (qad hgr (qae _ _ _ _))⟩,rfl⟩)
     case measure=>simp[intOf];omega
    ·obtain rfl:i=8:=by omega
     have cd:=HH.hd;have cf:=HH.fr 72 (by omega);go_wp2;go_end0;refine⟨rfl,?_,qad hgr (qae _ _ _ _)⟩;rw[<-addTo_comp kb W x0 x1 x2 x3 x4 x5 x6 x7 va vb vc vd ve vf vg vz (HW.out 64 rfl) (HST'.out 64 rfl)];exact HH.setHeld 0
end Go.Proofs.YtibjhkpgaaapaaaGreatDoor
namespace Go.Proofs.Sha
open Go Go.RowKit
def heldOf (w:World) (b:Nat):Nat:=(intOf ((w.cell? ⟨b,72,none⟩).getD undef)).toNat
theorem Hsh.heldOf {w:World}{b:Nat}{h:List UInt32}{k:List UInt8}{held size:Nat}(H:Hsh w b h k held size):heldOf w b=held:=by
 unfold Sha.heldOf;rw[H.hd];simp[intOf]
def zf (k:List UInt8) (p:Nat):Nat->List UInt8
 | 0=>k
 | n+1=>(zf k p n).set (p+n) 0
theorem qca (k:List UInt8)(p n:Nat):(zf k p n).length=k.length:=by
 induction n with
 | zero=>rfl
 | succ n ih=>rw[zf,List.length_set,ih]
theorem zf_getD (k:List UInt8)(p n j:Nat)(hn:p+n<=k.length):(zf k p n).getD j 0=if p<=j/\j<p+n then 0 else k.getD j 0:=by
 induction n with
 | zero=>rw[zf,if_neg (by omega)]
 | succ n ih =>
  rw[zf,qdd _ _ _ _ _ (by rw[qca];omega),ih (by omega)];by_cases e:j=p+n
  ·rw[if_pos e,if_pos (by omega)]
  ·rw[if_neg e];by_cases e2:p<=j/\j<p+n
   ·rw[if_pos e2,if_pos (by omega)]
   ·rw[if_neg e2,if_neg (by omega)]
def outArr (h:List UInt32) (i:Nat):List UInt8:=outTo h i++List.replicate (32-4*i) 0
theorem set4 {α:Type}(A R:List α)(n:Nat)(hn:A.length=n)(z0 z1 z2 z3 a b c d:α) : ((((A++z0 :: z1 :: z2 :: z3 :: R).set n a).set (n+1) b).set (n+2) c).set (n+3) d=(A++[a,b,c,d])++R:=by
 subst hn;rw[List.set_append_right _ _ (Nat.le_refl _),List.set_append_right _ _ (by omega),List.set_append_right _ _ (by omega),List.set_append_right _ _ (by omega)];simp
theorem outArr_succ (h:List UInt32)(i:Nat)(x:UInt32)(hi:i<8)(hx:h.getD i 0=x) : (((((outArr h i).map B).set (4*i) (.int .u8 ((byteAt x 3).toNat:Int))).set (4*i+1) (.int .u8 ((byteAt x 2).toNat:Int))).set (4*i+2) (.int .u8 ((byteAt x 1).toNat:Int))).set (4*i+3) (.int .u8 ((byteAt x 0).toNat:Int))=(outArr h (i+1)).map B:=by
 have e:32-4*i=(32-4*(i+1))+4:=by omega
 show ((((_:List Value).set (4*i) (B (byteAt x 3))).set (4*i+1) (B (byteAt x 2))).set (4*i+2) (B (byteAt x 1))).set (4*i+3) (B (byteAt x 0))=_;rw[<-List.map_set,<-List.map_set,<-List.map_set,<-List.map_set,outArr,e,outArr,outTo,hx];congr 1;exact set4 (outTo h i) _ (4*i) (qar h i) 0 0 0 0 _ _ _ _
theorem outArr_full (h:List UInt32):outArr h 8=outTo h 8:=by simp[outArr]
theorem qcy (x:UInt32)(i:Nat):((x.toNat:Int) / 2 ^ (8*i)) % 256=((byteAt x i).toNat:Int):=by
 have:=qbp x i;rw[IntKind.wrap_u8'] at this;exact this
theorem byteM3 (x:UInt32):(x.toNat:Int) / (16777216:Int) % 256=((byteAt x 3).toNat:Int):=qcy x 3
theorem byteM2 (x:UInt32):(x.toNat:Int) / (65536:Int) % 256=((byteAt x 2).toNat:Int):=qcy x 2
theorem byteM1 (x:UInt32):(x.toNat:Int) / (256:Int) % 256=((byteAt x 1).toNat:Int):=qcy x 1
theorem byteM0 (x:UInt32):(x.toNat:Int) % 256=((byteAt x 0).toNat:Int):=by
 have:=qcy x 0
 simpa using this
end Go.Proofs.Sha
