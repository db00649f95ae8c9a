import Derived.Test.YtibjhkpgaaapaaaGreatDoorZiai
import Derived.Lib.BufferWrite
import Derived.Test.YtibjhkpgaaapaaaGreatDoorZiao
import Derived.Test.YtibjhkpgaaapaaaGreatDoorZian
import Derived.Test.YtibjhkpgaaapaaaGreatDoorZiak
import Derived.Deep.AppendLies
import Derived.Deep.RegionLaw
set_option maxRecDepth 100000
set_option maxHeartbeats 1000000
namespace Go.Proofs.YtibjhkpgaaapaaaGreatDoor
open Go.RowKit Go.Proofs.Sha Tryz
theorem Row.setHead {w:World}{base g n cap:Nat}{xs:List Value}(h:Row w base g n cap xs)(ys:List Value)(ho:ys.length<=n):Row (w.setCells g 0 ys) base g n cap (ys++xs.drop ys.length):=by
 have hin:∀j (hj:j<ys.length),(w.setCells g 0 ys).cell? ⟨g,0+j,none⟩=some ys[j]:=World.cell?_setCells_in g ys 0 w (λj hj=>h.room (0+j) (by have:=h.le;omega));have hout:∀j,j<0\/0+ys.length<=j->(w.setCells g 0 ys).cell? ⟨g,j,none⟩=w.cell? ⟨g,j,none⟩:=λj hj=>World.cell?_setCells_out g ys 0 w ⟨g,j,none⟩ (λ_ _=>hj);have hgr:=qat g ys 0 w;have hl:=h.len;refine⟨h.ge,Nat.lt_of_lt_of_le h.lt hgr.size,by rw[List.length_append,List.length_drop];omega,h.le,?_,?_,?_⟩
 ·intro j hj;rcases Nat.lt_or_ge j ys.length with h1|h1
  ·have:=hin j h1;rw[Nat.zero_add] at this;rw[this,List.getElem?_append_left h1,List.getElem?_eq_getElem h1]
  ·rw[hout j (.inr (by omega)),h.cell j hj,List.getElem?_append_right h1,List.getElem?_drop,show ys.length+(j-ys.length)=j by omega]
 ·intro j hj;rcases Nat.lt_or_ge j ys.length with h1|h1
  ·have:=hin j h1;rw[Nat.zero_add] at this;rw[this];rfl
  ·rw[hout j (.inr (by omega))];exact h.room j hj
 ·intro j hj;rw[World.frozen?_setCells];exact h.free j hj
theorem info5m:(prog.info? 5).map (·.size)=some 1:=by kernel_rfl
theorem run_copy_text {w:World}{base g n cap:Nat}{xs:List Value}(h:Row w base g n cap xs)(s:ByteArray)(hs:s.size<=n) : (Builtin.copy_ #[41,9] 3 #[.slice (some ⟨g,0,none⟩) n n,.string s]).run prog w=.ok (goInt s.size) (w.setCells g 0 (s.data.toList.map B)):=by
 have hlen:(s.data.toList.map B).length=s.size:=by rw[List.length_map];rfl
 have hst:=run_storeCells_cells (P:=prog) g 0 (s.data.toList.map B) 0 w (λj hj=>by have:=h.room j (by have:=h.le;omega);simpa using this) (λj hj=>by have:=h.free j (by have:=h.le;omega);simpa using this) (λv hv=>by obtain⟨x,_,rfl⟩:=List.mem_map.1 hv;rfl);simp only[Nat.add_zero] at hst;have hmin:Nat.min s.size n=s.size:=Nat.min_eq_left hs;have htk:List.take s.size (List.map (λb:UInt8=>Value.int IntKind.u8 (b.toNat:Int)) s.data.toList)=s.data.toList.map B:=by
  rw[List.take_of_length_le (by rw[List.length_map];exact Nat.le_refl _)];rfl
 obtain⟨i,hi,hsz⟩:∃i,prog.info? 5=some i/\i.size=1:=by
  have:=info5m;cases hh:prog.info? 5 with
  | none=>rw[hh] at this;cases this
  | some i=>rw[hh] at this;exact⟨i,rfl,Option.some.inj this⟩
 simp[Builtin.copy_,run_underlying Tryz.underlying41,sizeOf,typeInfo,hi,Builtin.lenOf,hmin,Builtin.firstCells,htk,hst]
theorem find_any (wd:Nat)(r:Nat)(F:List UInt8->Option Int)(hash:ByteArray)(w:World)(h:MapF F r w)(h1:wd<=32)(h2:hash.size=wd) : Calls prog 199 #[.agg #[.int .i64 (wd:Int),.map (some r)],.string hash] w λe w'=>e=.returned (.tuple #[.int .i64 ((F (cutW wd hash.data.toList)).getD 0),.bool (F (cutW wd hash.data.toList)).isSome])/\Below w.heap.size w w':=by
 have z1:((hash.size:Int) != (wd:Int))=false:=by rw[h2];simp
 have hsz:hash.size<=32:=by omega
 have hhl:hash.data.toList.length=hash.size:=rfl;have hcut:hash.data.toList.map B++(zeros32b.map B).drop (hash.data.toList.map B).length=(cutW wd hash.data.toList).map B:=by
  unfold cutW zeros32b;rw[List.map_append,List.take_of_length_le (by omega),List.length_map,hhl,h2,List.map_replicate,List.map_replicate,List.drop_replicate]
 have hX:(cutW wd hash.data.toList).length=32:=by unfold cutW;rw[List.length_append,List.length_take,List.length_replicate];omega
 obtain⟨X,hXX⟩:=eX (cutW wd hash.data.toList);rw[hXX] at hcut hX⊢;clear h2 hXX;have hrl:r<w.heap.size:=by
  obtain⟨es,cl,hg,_,_⟩:=h.is;exact(zG hg).1
 go_enter func199,ntmps199;obtain⟨ga,hga⟩:=eX (w.heap.size);go_wp2_with (first|(refine qam _ rfl (some 6) rfl 247 247 rfl (zeros32b.map B) alloc43 ?_;intro g2 w2 hr2 hb2));have hr2':Row w2 (ga+1) g2 32 32 (zeros32b.map B):=by
  have:=hr2;rw[World.size_alloc,hga] at this;exact this
 have hcp:=run_copy_text hr2' hash hsz;have hR3:=Row.setHead hr2' (hash.data.toList.map B) (by rw[List.length_map];omega);rw[hcut] at hR3;have hg3:=qat g2 (hash.data.toList.map B) 0 w2;obtain⟨w3,hw3⟩:=eX (w2.setCells g2 0 (hash.data.toList.map B));rw[hw3] at hcp hR3 hg3;clear hw3;have hge:=hr2'.ge;have hb2':Below (ga+1) (w.alloc (.cells #[.int .i64 (wd:Int),.map (some r)] 192)) w2:=by
  have:=hb2;rw[World.size_alloc,hga] at this;exact this
 have hn2:w2.heap[ga]?=some (.cells #[.int .i64 (wd:Int),.map (some r)] 192):=(hb2'.block ga (by omega)).trans (by rw[<-hga];exact heap_alloc_new w _);have hne:ga ≠ g2:=by omega
 have hn3:w3.heap[ga]?=some (.cells #[.int .i64 (wd:Int),.map (some r)] 192):=(hg3.block ga (zG hn2).1 (λe=>hne (Option.some.inj e))).trans hn2;have hB2:Below w.heap.size w w2:=((Below.refl _ w).alloc (Nat.le_refl _) _).trans (hb2'.mono (by omega));have hM3:MapF F r w3:=(h.below hB2).kept hg3 (by omega);have hB3:Below w.heap.size w w3:=hB2.trans (qah hg3 (by omega) hB2.size);have hlk:=run_look key43 Tryz.underlying190 zeroV3 hM3 X hX;unfold K32 at hlk;have d0:=ZC hn3 0;have d1:=ZC hn3 1;clear hb2 hb2' hr2 hr2' hB2 hn2 hM3 h;obtain⟨fx,hfx⟩:=eX (F X);rw[hfx] at hlk;have HF:Hid (F X=fx):=hfx;clear hfx;rw[hcp];clear hcp;go_wp2_with (first|(refine qaA _ rfl 247 (.tmp 6) rfl (ga+1) g2 32 32 (X.map B) 5 rfl hR3 Tryz.underlying247 size43 ?_));go_ret2;rw[HF.out];exact⟨rfl,hB3⟩
structure SArg (a:Option Addr) (ss:List ByteArray) (w:World):Prop where
 le:ss.length<=1048576
 sz:∀j,(ss.getD j ⟨#[]⟩).size<=1048576
 at_:0<ss.length->∃b off:Nat,a=some ⟨b,off,none⟩/\b<w.heap.size/\∀j,j<ss.length->w.cell? ⟨b,off+j,none⟩=some (.string (ss.getD j ⟨#[]⟩))
theorem SArg.below {a:Option Addr}{ss:List ByteArray}{w w':World}(h:SArg a ss w)(hb:Below w.heap.size w w'):SArg a ss w':=by
 refine⟨h.le,h.sz,λhn=>?_⟩;obtain⟨b,off,ha,hlt,hc⟩:=h.at_ hn;exact⟨b,off,ha,Nat.lt_of_lt_of_le hlt hb.size,λj hj=>(hb.cell hlt).trans (hc j hj)⟩
def keyW (wd:Nat) (s:ByteArray):List UInt8:=cutW wd (sha (78 :: s.data.toList))
def placesF (wd:Nat) (ss:List ByteArray):Nat->List UInt8->Option Int
 | 0=>λ_=>none
 | k+1=>addF (placesF wd ss k) (keyW wd (ss.getD k ⟨#[]⟩)) (k:Int)
def firstI (p:Nat->Bool):Nat->Option Nat
 | 0=>none
 | k+1=>match firstI p k with
  | some i=>some i
  | none=>if p k then some k else none
theorem qbB {p:Nat->Bool}{k i:Nat}(h:firstI p k=some i):i<k:=by
 induction k with
 | zero=>cases h
 | succ k ih =>
  rw[firstI] at h;cases hk:firstI p k with
  | some j=>rw[hk] at h;simp only[Option.some.injEq] at h;subst h;have:=ih hk;omega
  | none =>
   rw[hk] at h;simp only at h
   split at h
   ·simp only[Option.some.injEq] at h;omega
   ·cases h
theorem placesF_first (wd:Nat)(ss:List ByteArray)(X:List UInt8)(k:Nat):placesF wd ss k X=(firstI (λi=>decide (keyW wd (ss.getD i ⟨#[]⟩)=X)) k).map λi=>(i:Int):=by
 induction k with
 | zero=>rfl
 | succ k ih =>
  rw[placesF,addF,firstI];obtain⟨Y,hY⟩:=eX (keyW wd (ss.getD k ⟨#[]⟩));rw[hY];by_cases hn:placesF wd ss k Y=none
  ·rw[if_pos hn];by_cases hXY:X=Y
   ·subst hXY;rw[if_pos rfl];rw[ih] at hn;cases hf:firstI (λi=>decide (keyW wd (ss.getD i ⟨#[]⟩)=X)) k with
    | some j=>rw[hf] at hn;cases hn
    | none=>simp
   ·rw[if_neg hXY,ih];cases hf:firstI (λi=>decide (keyW wd (ss.getD i ⟨#[]⟩)=X)) k with
    | some j=>rfl
    | none=>simp[Ne.symm hXY]
  ·rw[if_neg hn,ih];cases hf:firstI (λi=>decide (keyW wd (ss.getD i ⟨#[]⟩)=X)) k with
   | some j=>rfl
   | none =>
    simp only;by_cases hXY:Y=X
    ·subst hXY;rw[ih,hf] at hn;exact absurd rfl hn
    ·simp[hXY]
def poolOk (n:Int) (m:Nat):Bool:=decide (1<=n/\n<=32/\m<=20000)
theorem qcS (n:Int)(a:Option Addr)(m c:Nat)(w:World)(_hm:m<=1048576) : Calls prog 52 #[.agg #[.int .i64 n,.slice a m c]] w λe w'=>e=.returned (.bool (poolOk n m))/\Below w.heap.size w w':=by
 have hfin:=bA w (.cells #[.int .i64 n,.slice a m c] 31);by_cases c1:1<=n
 ·by_cases c2:n<=32
  ·have hr:poolOk n m=decide ((m:Int)<=20000):=by
    unfold poolOk;by_cases c3:m<=20000
    ·rw[decide_eq_true (by omega),decide_eq_true (by omega)]
    ·rw[decide_eq_false (by omega),decide_eq_false (by omega)]
   rw[hr];clear hr;go_enter func52,ntmps52;go_wp2_with (first|go_in);go_ret;exact⟨rfl,hfin⟩
  ·have hr:poolOk n m=false:=(by unfold poolOk;rw[decide_eq_false (by omega)]);rw[hr];clear hr;go_enter func52,ntmps52;go_wp2_with (first|go_in);go_ret;exact⟨rfl,hfin⟩
 ·have hr:poolOk n m=false:=(by unfold poolOk;rw[decide_eq_false (by omega)]);rw[hr];clear hr;go_enter func52,ntmps52;go_wp2_with (first|go_in);go_ret;exact⟨rfl,hfin⟩
theorem qbJ (n:Int)(a:Option Addr)(m c:Nat)(w:World)(_hm:m<=1048576) : Calls prog 79 #[.agg #[.int .i64 n,.slice a m c]] w λe w'=>e=.returned (.bool (poolOk n m))/\Below w.heap.size w w':=by
 have hfin:=bA w (.cells #[.int .i64 n,.slice a m c] 31);by_cases c1:1<=n
 ·by_cases c2:n<=32
  ·have hr:poolOk n m=decide ((m:Int)<=20000):=by
    unfold poolOk;by_cases c3:m<=20000
    ·rw[decide_eq_true (by omega),decide_eq_true (by omega)]
    ·rw[decide_eq_false (by omega),decide_eq_false (by omega)]
   rw[hr];clear hr;go_enter func79,ntmps79;go_wp2_with (first|go_in);go_ret;exact⟨rfl,hfin⟩
  ·have hr:poolOk n m=false:=(by unfold poolOk;rw[decide_eq_false (by omega)]);rw[hr];clear hr;go_enter func79,ntmps79;go_wp2_with (first|go_in);go_ret;exact⟨rfl,hfin⟩
 ·have hr:poolOk n m=false:=(by unfold poolOk;rw[decide_eq_false (by omega)]);rw[hr];clear hr;go_enter func79,ntmps79;go_wp2_with (first|go_in);go_ret;exact⟨rfl,hfin⟩
structure Dec where
 k:ByteArray->ByteArray
 v:ByteArray->ByteArray
 l:ByteArray->ByteArray
 r:ByteArray->ByteArray
 ok:ByteArray->Bool
def DecSaid (f:FuncId) (wd:Nat) (D:Dec):Prop:=∀ (s:ByteArray) (w:World),s.size<=1048576->Calls prog f #[.string s,.int .i64 (wd:Int)] w λe w'=>e=.returned (.tuple #[.agg #[.string (D.k s),.string (D.v s),.string (D.l s),.string (D.r s)],.bool (D.ok s)])/\Below w.heap.size w w'
def foundR (D:Dec) (ss:List ByteArray):Option Nat->(ByteArray × ByteArray × ByteArray × ByteArray) × Int
 | none=>((⟨#[]⟩,⟨#[]⟩,⟨#[]⟩,⟨#[]⟩),2)
 | some i=>if D.ok (ss.getD i ⟨#[]⟩) then ((D.k (ss.getD i ⟨#[]⟩),D.v (ss.getD i ⟨#[]⟩),D.l (ss.getD i ⟨#[]⟩),D.r (ss.getD i ⟨#[]⟩)),0) else ((⟨#[]⟩,⟨#[]⟩,⟨#[]⟩,⟨#[]⟩),3)
def nodeT (x:(ByteArray × ByteArray × ByteArray × ByteArray) × Int):Value:=.tuple #[.agg #[.string x.1.1,.string x.1.2.1,.string x.1.2.2.1,.string x.1.2.2.2],.int .i64 x.2]
def hitB (wd:Nat) (ss:List ByteArray) (hash:ByteArray) (i:Nat):Bool:=decide ((sha (78 :: (ss.getD i ⟨#[]⟩).data.toList)).take wd=hash.data.toList)
theorem key_hit (wd:Nat)(ss:List ByteArray)(hash:ByteArray)(_h1:wd<=32)(h2:hash.size=wd)(i:Nat):decide (keyW wd (ss.getD i ⟨#[]⟩)=cutW wd hash.data.toList)=hitB wd ss hash i:=by
 unfold keyW cutW hitB;have hl:hash.data.toList.length=wd:=h2;rw[List.take_of_length_le (l:=hash.data.toList) (by omega)];congr 1;rw[List.append_cancel_right_eq]
theorem qaI {w:World}{base g n:Nat}{v:Value}{xs:List Value}(h:w.ownsRow base 81 2 v n xs)(hv:v.ownBlock=some g):base<=g/\g<w.heap.size/\∃cur,w.heap[g]?=some (.cells cur 81 (0,0)):=by
 rcases h.2 with ⟨rfl,_⟩|⟨g',cap,cur,rfl,hb,hg,_⟩
 ·cases hv
 ·obtain rfl:g'=g:=Option.some.inj hv;exact⟨hb,(zG hg).1,cur,hg⟩
theorem qbb {w w':World}{base n:Nat}{v:Value}{xs:List Value}(h:w.ownsRow base 81 2 v n xs)(hk:∀g,v.ownBlock=some g->g<w.heap.size->w'.heap[g]?=w.heap[g]?):w'.ownsRow base 81 2 v n xs:=by
 refine⟨h.1,?_⟩;rcases h.2 with ⟨h1,h2⟩|⟨g,cap,cur,hv,hb,hg,rest⟩
 ·exact .inl ⟨h1,h2⟩
 ·exact .inr ⟨g,cap,cur,hv,hb,(hk g (by rw[hv];rfl) (zG hg).1).trans hg,rest⟩
theorem qbd {w:World}{base base' n:Nat}{v:Value}{xs:List Value}(h:w.ownsRow base 81 2 v n xs)(hb:base'<=base):w.ownsRow base' 81 2 v n xs:=by
 refine⟨h.1,?_⟩;rcases h.2 with ⟨h1,h2⟩|⟨g,cap,cur,hv,hg,rest⟩
 ·exact .inl ⟨h1,h2⟩
 ·exact .inr ⟨g,cap,cur,hv,Nat.le_trans hb hg,rest⟩
def GoPost (R:Int × Nat × List PairT) (w:World) (e:Ending) (w':World):Prop :=
 (R.1=0->∃a c,e=.returned (.agg #[.slice a R.2.2.length c,.int .i64 (R.2.1:Int),.int .i64 0])/\w'.ownsRow w.heap.size 81 2 (.slice a R.2.2.length c) R.2.2.length (flatP R.2.2)) ∧
 (R.1 ≠ 0->e=.returned (.agg #[.slice none 0 0,.int .i64 0,.int .i64 R.1]))/\Below w.heap.size w w'
structure GS (w:World) (g8 g12 g16 gz g17:Nat) (wd:Nat) (a:Option Addr) (n c:Nat) (over under:ByteArray) (cnt:Nat) (W:World):Prop where
 sz:w.heap.size=g8
 o1:g8<g12
 o2:g12<g16
 o3:g16<gz
 o4:gz<g17
 bl:Below w.heap.size w W
 n8:W.heap[g8]?=some (.cells #[.int .i64 (wd:Int),.slice a n c] 31)
 n12:W.heap[g12]?=some (.cells #[.string over,.string under] 94)
 n16:W.heap[g16]?=some (.cells #[.slice none 0 0,.int .i64 0,.int .i64 0] 158)
 nz:W.heap[gz]?=some (.cells #[] 81)
 n17:W.heap[g17]?=some (.cells #[.slice (some ⟨gz,0,none⟩) 0 0,.int .i64 (cnt:Int),.int .i64 0] 158)
section
variable {w:World} {g8 g12 g16 gz g17:Nat} {wd:Nat} {a:Option Addr} {n c:Nat} {over under:ByteArray} {cnt:Nat} {W W':World}
theorem GS.lt (h:GS w g8 g12 g16 gz g17 wd a n c over under cnt W):g17<W.heap.size:=(zG h.n17).1
theorem GS.below (h:GS w g8 g12 g16 gz g17 wd a n c over under cnt W)(hb:Below W.heap.size W W'):GS w g8 g12 g16 gz g17 wd a n c over under cnt W':=by
 have l:=h.lt;have h1:=h.o1;have h2:=h.o2;have h3:=h.o3;have h4:=h.o4;exact⟨h.sz,h1,h2,h3,h4,h.bl.trans (hb.mono h.bl.size),(hb.block _ (by omega)).trans h.n8,(hb.block _ (by omega)).trans h.n12,(hb.block _ (by omega)).trans h.n16,(hb.block _ (by omega)).trans h.nz,(hb.block _ (by omega)).trans h.n17⟩
theorem GS.mk0 (w:World)(wd:Nat)(a:Option Addr)(n c:Nat)(over under:ByteArray)(cnt:Nat):GS w w.heap.size (w.heap.size+1) (w.heap.size+1+1) (w.heap.size+1+1+1) (w.heap.size+1+1+1+1) wd a n c over under cnt (((((w.alloc (.cells #[.int .i64 (wd:Int),.slice a n c] 31)).alloc (.cells #[.string over,.string under] 94)).alloc (.cells #[.slice none 0 0,.int .i64 0,.int .i64 0] 158)).alloc (.cells #[] 81)).alloc (.cells #[.slice (some ⟨w.heap.size+1+1+1,0,none⟩) 0 0,.int .i64 (cnt:Int),.int .i64 0] 158)):=by
 have e1:=heap_alloc_new w (.cells #[.int .i64 (wd:Int),.slice a n c] 31);have e2:=heap_alloc_new (w.alloc (.cells #[.int .i64 (wd:Int),.slice a n c] 31)) (.cells #[.string over,.string under] 94);have e3:=heap_alloc_new ((w.alloc (.cells #[.int .i64 (wd:Int),.slice a n c] 31)).alloc (.cells #[.string over,.string under] 94)) (.cells #[.slice none 0 0,.int .i64 0,.int .i64 0] 158);have e4:=heap_alloc_new (((w.alloc (.cells #[.int .i64 (wd:Int),.slice a n c] 31)).alloc (.cells #[.string over,.string under] 94)).alloc (.cells #[.slice none 0 0,.int .i64 0,.int .i64 0] 158)) (.cells #[] 81);have e5:=heap_alloc_new ((((w.alloc (.cells #[.int .i64 (wd:Int),.slice a n c] 31)).alloc (.cells #[.string over,.string under] 94)).alloc (.cells #[.slice none 0 0,.int .i64 0,.int .i64 0] 158)).alloc (.cells #[] 81)) (.cells #[.slice (some ⟨w.heap.size+1+1+1,0,none⟩) 0 0,.int .i64 (cnt:Int),.int .i64 0] 158);simp only[World.size_alloc] at e1 e2 e3 e4 e5;refine⟨rfl,by omega,by omega,by omega,by omega,?_,?_,?_,?_,?_,e5⟩
 ·exact(((((Below.refl _ _).alloc (Nat.le_refl _) _).alloc (by simp) _).alloc (by simp;omega) _).alloc (by simp;omega) _).alloc (by simp;omega) _
 ·rw[Below.heap_alloc _ _ _ (by simp <;> omega),Below.heap_alloc _ _ _ (by simp <;> omega),Below.heap_alloc _ _ _ (by simp <;> omega),Below.heap_alloc _ _ _ (by simp)];exact e1
 ·rw[Below.heap_alloc _ _ _ (by simp <;> omega),Below.heap_alloc _ _ _ (by simp <;> omega),Below.heap_alloc _ _ _ (by simp)];exact e2
 ·rw[Below.heap_alloc _ _ _ (by simp <;> omega),Below.heap_alloc _ _ _ (by simp)];exact e3
 ·rw[Below.heap_alloc _ _ _ (by simp)];exact e4
theorem GS.fin (h:GS w g8 g12 g16 gz g17 wd a n c over under cnt W)(v0 v1 v2:Value) : (((W.setCell ⟨g16,0,none⟩ v0).setCell ⟨g16,1,none⟩ v1).setCell ⟨g16,2,none⟩ v2).heap[g16]?=some (.cells #[v0,v1,v2] 158)/\Below w.heap.size w (((W.setCell ⟨g16,0,none⟩ v0).setCell ⟨g16,1,none⟩ v1).setCell ⟨g16,2,none⟩ v2)/\(∀k,k ≠ g16->(((W.setCell ⟨g16,0,none⟩ v0).setCell ⟨g16,1,none⟩ v1).setCell ⟨g16,2,none⟩ v2).heap[k]?=W.heap[k]?):=by
 have hg:w.heap.size<=g16:=by have:=h.sz;have:=h.o1;have:=h.o2;omega
 refine⟨heap_setCell_same _ g16 2 _ 158 _ (heap_setCell_same _ g16 1 _ 158 _ (heap_setCell_same _ g16 0 _ 158 _ h.n16)),((h.bl.setCell hg _).setCell hg _).setCell hg _,λk hk=>?_⟩;rw[Below.heap_setCell _ _ _ _ (by exact hk),Below.heap_setCell _ _ _ _ (by exact hk),Below.heap_setCell _ _ _ _ (by exact hk)]
end
theorem retG {W:World}{A:Act}{g16:Nat}{v0 v1 v2:Value}{R:Ending->World->Prop}(hp:A.tmps.getD 16 undef=.pointer (some ⟨g16,0,none⟩))(hd:A.defers=[])(h:W.heap[g16]?=some (.cells #[v0,v1,v2] 158))(hR:R (.returned (.agg #[v0,v1,v2])) W):bodyPost prog Tryz.f105 R .ret A W:=by
 have q0:=ZC h 0;have q1:=ZC h 1;have q2:=ZC h 2;refine bodyPost_ret (v:=.agg #[v0,v1,v2]) ?_ hd hR;rw[qbf W (fn:=Tryz.f105) (p:=16) (ty:=158) rfl A.tmps _ hp];exact run_loadVar_mid W g16 0 158 [v0,v1,v2] _ (λj u hj=>by
  match j,hj with
  | 0,hj=>simpa using q0.trans (by simpa using hj)
  | 1,hj=>simpa using q1.trans (by simpa using hj)
  | 2,hj=>simpa using q2.trans (by simpa using hj)) Tryz.underlying158 rfl (by kernel_rfl)
theorem qdH {w:World}{base gz:Nat}(hb:base<=gz)(h:w.heap[gz]?=some (.cells #[] 81)):w.ownsRow base 81 2 (.slice (some ⟨gz,0,none⟩) 0 0) 0 [] :=
 ⟨rfl,.inr ⟨gz,0,#[],rfl,hb,h,by simp⟩⟩
theorem GS.skip {w:World}{g8 g12 g16 gz g17:Nat}{wd:Nat}{a:Option Addr}{n c:Nat}{over under:ByteArray}{cnt:Nat}{W:World}(h:GS w g8 g12 g16 gz g17 wd a n c over under cnt W){A:Act}{R:Int × Nat × List PairT}(hR:R=(0,cnt,[]))(hp:A.tmps.getD 16 undef=.pointer (some ⟨g16,0,none⟩))(hd:A.defers=[]) : bodyPost prog Tryz.f105 (GoPost R w) .ret A (((W.setCell ⟨g16,0,none⟩ (.slice (some ⟨gz,0,none⟩) 0 0)).setCell ⟨g16,1,none⟩ (.int .i64 (cnt:Int))).setCell ⟨g16,2,none⟩ (.int .i64 0)):=by
 obtain⟨h1,h2,h3⟩:=h.fin (.slice (some ⟨gz,0,none⟩) 0 0) (.int .i64 (cnt:Int)) (.int .i64 0);subst hR;have q1:=h.sz;have q2:=h.o1;have q3:=h.o2;have q4:=h.o3;refine retG hp hd h1 ⟨λ_=>⟨some ⟨gz,0,none⟩,0,rfl,qdH (by omega) ((h3 gz (by omega)).trans h.nz)⟩,λhne=>absurd rfl hne,h2⟩
theorem GS.bad {w:World}{g8 g12 g16 gz g17:Nat}{wd:Nat}{a:Option Addr}{n c:Nat}{over under:ByteArray}{cnt:Nat}{W:World}(h:GS w g8 g12 g16 gz g17 wd a n c over under cnt W){A:Act}{R:Int × Nat × List PairT}(i:Int)(hR:R.1=i)(hi:i ≠ 0)(hp:A.tmps.getD 16 undef=.pointer (some ⟨g16,0,none⟩))(hd:A.defers=[]) : bodyPost prog Tryz.f105 (GoPost R w) .ret A (((W.setCell ⟨g16,0,none⟩ (.slice none 0 0)).setCell ⟨g16,1,none⟩ (.int .i64 0)).setCell ⟨g16,2,none⟩ (.int .i64 i)):=by
 obtain⟨h1,h2,h3⟩:=h.fin (.slice none 0 0) (.int .i64 0) (.int .i64 i);exact retG hp hd h1 ⟨λh0=>absurd (hR.symm.trans h0) hi,λ_=>by rw[hR],h2⟩
def Is53 (k:Nat) (w:World):Prop:=∃cur t,w.heap[k]?=some (.cells cur 81 t)
structure Fr (base:Nat) (N:Nat->Prop) (w w':World):Prop where
 os:w'.os=w.os
 tape:w'.tape=w.tape
 output:w'.output=w.output
 size:w.heap.size<=w'.heap.size
 block:∀k,k<w.heap.size->¬ N k->¬ (base<=k/\Is53 k w)->w'.heap[k]?=w.heap[k]?
section
variable {base:Nat} {N N':Nat->Prop} {w w' w1 w2:World}
theorem Fr.refl (base:Nat)(N:Nat->Prop)(w:World):Fr base N w w:=⟨rfl,rfl,rfl,Nat.le_refl _,λ_ _ _ _=>rfl⟩
theorem Fr.trans (h:Fr base N w w1)(k:Fr base N' w1 w2)(hN:∀q,q<w.heap.size->N' q->N q):Fr base N w w2:=by
 refine⟨k.os.trans h.os,k.tape.trans h.tape,k.output.trans h.output,Nat.le_trans h.size k.size,λq hq h1 h2=>?_⟩;have e:=h.block q hq h1 h2;refine(k.block q (Nat.lt_of_lt_of_le hq h.size) (λx=>h1 (hN q hq x)) (λx=>h2 ⟨x.1,?_⟩)).trans e;obtain⟨cur,t,hx⟩:=x.2;exact⟨cur,t,e.symm.trans hx⟩
theorem Fr.mono (h:Fr base N w w1)(hN:∀q,q<w.heap.size->N q->N' q):Fr base N' w w1:=⟨h.os,h.tape,h.output,h.size,λq hq h1 h2=>h.block q hq (λx=>h1 (hN q hq x)) h2⟩
theorem Fr.of_below (h:Below w.heap.size w w1):Fr base N w w1:=⟨h.os,h.tape,h.output,h.size,λq hq _ _=>h.block q hq⟩
theorem Fr.of_grown {v:Value}{m:Nat}{xs:List Value}(h:w.grownBy w1 v.ownBlock)(ho:w.ownsRow base 81 2 v m xs):Fr base N w w1 :=
 ⟨h.os,h.tape,h.output,h.size,λq hq _ h2=>h.block q hq (λe=>h2 (by obtain⟨e1,_,cur,e3⟩:=qaI ho e.symm;exact⟨e1,cur,_,e3⟩))⟩
theorem Fr.setCell (h:Fr base N w w1)(g o:Nat)(v:Value)(hg:N g\/w.heap.size<=g):Fr base N w (w1.setCell ⟨g,o,none⟩ v):=by
 have hb:Below g w1 (w1.setCell ⟨g,o,none⟩ v):=Below.setCell (p:=⟨g,o,none⟩) (Below.refl g w1) (Nat.le_refl g) v;refine⟨hb.os.trans h.os,hb.tape.trans h.tape,hb.output.trans h.output,Nat.le_trans h.size hb.size,λq hq h1 h2=>?_⟩;rw[Below.heap_setCell _ _ _ _ (by show q ≠ g;intro e;subst e;rcases hg with hg|hg;exact h1 hg;omega)];exact h.block q hq h1 h2
theorem Fr.keep {q:Nat}{cs:Array Value}{t:TypeId}{z:Nat × Nat}(h:Fr base N w w1)(hq:w.heap[q]?=some (.cells cs t z))(h1:¬ N q)(ht:t ≠ 81\/q<base):w1.heap[q]?=some (.cells cs t z):=by
 refine(h.block q (zG hq).1 h1 ?_).trans hq;rintro⟨h2,cur,z',h3⟩;rw[hq] at h3;rcases ht with ht|ht
 ·simp only[Option.some.injEq,Obj.cells.injEq] at h3;exact ht h3.2.1
 ·omega
end
structure LS (c base:Nat) (ps:List PairT) (a:Option Addr) (cap:Nat) (w:World):Prop where
 blk:w.heap[c]?=some (.cells #[.slice a ps.length cap] 35)
 own:w.ownsRow base 81 2 (.slice a ps.length cap) ps.length (flatP ps)
 hb:base<=w.heap.size
theorem LS.below {c base:Nat}{ps:List PairT}{a:Option Addr}{cap:Nat}{w w':World}(h:LS c base ps a cap w)(hb:Below w.heap.size w w'):LS c base ps a cap w' :=
 ⟨(hb.block c (zG h.blk).1).trans h.blk,qbb h.own (λg _ hg=>hb.block g hg),Nat.le_trans h.hb hb.size⟩
def NBk (g:Nat) (k v l r:ByteArray) (w:World):Prop:=w.heap[g]?=some (.cells #[.string k,.string v,.string l,.string r] 73)
theorem NBk.below {g:Nat}{k v l r:ByteArray}{w w':World}(h:NBk g k v l r w)(hb:Below w.heap.size w w'):NBk g k v l r w':=(hb.block g (zG h).1).trans h
theorem NBk.all {g:Nat}{k v l r:ByteArray}{w:World}(h:NBk g k v l r w)(x y z u:ByteArray):NBk g x y z u ((((w.setCell ⟨g,0,none⟩ (.string x)).setCell ⟨g,1,none⟩ (.string y)).setCell ⟨g,2,none⟩ (.string z)).setCell ⟨g,3,none⟩ (.string u)) :=
 heap_setCell_same _ g 3 _ 73 _ (heap_setCell_same _ g 2 _ 73 _ (heap_setCell_same _ g 1 _ 73 _ (heap_setCell_same _ g 0 _ 73 _ h)))
theorem NBk.fr {g j:Nat}{k v l r:ByteArray}{w:World}(h:NBk g k v l r w):w.frozen? ⟨g,j,none⟩=false:=by rw[World.frozen?,show w.heap[g]?=_ from h];rfl
structure NBc (g:Nat) (k v l r:ByteArray) (w:World):Prop where
 c0:w.cell? ⟨g,0,none⟩=some (.string k)
 c1:w.cell? ⟨g,1,none⟩=some (.string v)
 c2:w.cell? ⟨g,2,none⟩=some (.string l)
 c3:w.cell? ⟨g,3,none⟩=some (.string r)
 f0:w.frozen? ⟨g,0,none⟩=false
 f1:w.frozen? ⟨g,1,none⟩=false
 f2:w.frozen? ⟨g,2,none⟩=false
 f3:w.frozen? ⟨g,3,none⟩=false
theorem NBk.at {g:Nat}{k v l r:ByteArray}{w:World}(h:NBk g k v l r w):NBc g k v l r w :=
 ⟨ZC h 0,ZC h 1,ZC h 2,ZC h 3,h.fr,h.fr,h.fr,h.fr⟩
theorem retN {fn:Func}{R:Ending->World->Prop}{A:Act}{p q:Tmp}{gb:Nat}{k v l r:ByteArray}{c:Int}{W:World}(hres:fn.results=#[.cell p 73,.tmp q])(hp:A.tmps.getD p undef=.pointer (some ⟨gb,0,none⟩))(hq:A.tmps.getD q undef=.int .i64 c)(hd:A.defers=[])(n:NBk gb k v l r W)(h:R (.returned (nodeT ((k,v,l,r),c))) W):bodyPost prog fn R Exit.ret A W:=by
 obtain⟨c0,c1,c2,c3,_,_,_,_⟩:=n.at;have hp':A.tmps[p]?.getD undef=.pointer (some ⟨gb,0,none⟩):=by simpa using hp
 have hq':A.tmps[q]?.getD undef=.int .i64 c:=by simpa using hq
 refine bodyPost_ret (v:=nodeT ((k,v,l,r),c)) ?_ hd h;unfold nodeT;simp[results,hres,go_sem,asAddr,hp',hq',c0,c1,c2,c3]
structure P2 (w:World) (ga gb:Nat) (n:Int) (a:Option Addr) (m c:Nat) (W:World):Prop where
 sz:w.heap.size=ga
 nx:gb=ga+1
 bl:Below ga w W
 na:W.heap[ga]?=some (.cells #[.int .i64 n,.slice a m c] 31)
 nb:NBk gb ⟨#[]⟩ ⟨#[]⟩ ⟨#[]⟩ ⟨#[]⟩ W
section
variable {w:World} {ga gb:Nat} {n:Int} {a:Option Addr} {m c:Nat} {W W':World}
theorem P2.mk0 (w:World)(n:Int)(a:Option Addr)(m c:Nat):P2 w w.heap.size (w.heap.size+1) n a m c ((w.alloc (.cells #[.int .i64 n,.slice a m c] 31)).alloc (.cells #[.string ⟨#[]⟩,.string ⟨#[]⟩,.string ⟨#[]⟩,.string ⟨#[]⟩] 73)):=by
 refine⟨rfl,rfl,((Below.refl _ w).alloc (Nat.le_refl _) _).alloc (by simp) _,?_,?_⟩
 ·exact(((Below.refl _ (w.alloc (.cells #[.int .i64 n,.slice a m c] 31))).alloc (Nat.le_refl _) _).block _ (by simp)).trans (heap_alloc_new w _)
 ·have:=heap_alloc_new (w.alloc (.cells #[.int .i64 n,.slice a m c] 31)) (.cells #[.string ⟨#[]⟩,.string ⟨#[]⟩,.string ⟨#[]⟩,.string ⟨#[]⟩] 73);rw[World.size_alloc] at this;exact this
theorem P2.below (h:P2 w ga gb n a m c W)(hb:Below W.heap.size W W'):P2 w ga gb n a m c W' :=
 ⟨h.sz,h.nx,h.bl.trans (hb.mono (by have:=h.bl.size;have:=h.sz;omega)),(hb.block ga (zG h.na).1).trans h.na,h.nb.below hb⟩
theorem P2.fin (h:P2 w ga gb n a m c W)(x y z u:ByteArray):Below w.heap.size w ((((W.setCell ⟨gb,0,none⟩ (.string x)).setCell ⟨gb,1,none⟩ (.string y)).setCell ⟨gb,2,none⟩ (.string z)).setCell ⟨gb,3,none⟩ (.string u)):=by
 have hge:ga<=gb:=by have:=h.nx;omega
 rw[h.sz];exact(((h.bl.setCell hge _).setCell hge _).setCell hge _).setCell hge _
theorem P2.set4 (h:P2 w ga gb n a m c W){g:Nat}(hg:gb<g)(x y z u:Value):P2 w ga gb n a m c ((((W.setCell ⟨g,0,none⟩ x).setCell ⟨g,1,none⟩ y).setCell ⟨g,2,none⟩ z).setCell ⟨g,3,none⟩ u):=by
 have hge:gb+1<=g:=hg;have hb:Below (gb+1) W ((((W.setCell ⟨g,0,none⟩ x).setCell ⟨g,1,none⟩ y).setCell ⟨g,2,none⟩ z).setCell ⟨g,3,none⟩ u):=((((Below.refl _ W).setCell hge _).setCell hge _).setCell hge _).setCell hge _;have hx:=h.nx;exact⟨h.sz,h.nx,h.bl.trans (hb.mono (by omega)),(hb.block ga (by omega)).trans h.na,(hb.block gb (by omega)).trans h.nb⟩
theorem P2.bw (h:P2 w ga gb n a m c W):Below w.heap.size w W:=by rw[h.sz];exact h.bl
end
end Go.Proofs.YtibjhkpgaaapaaaGreatDoor
