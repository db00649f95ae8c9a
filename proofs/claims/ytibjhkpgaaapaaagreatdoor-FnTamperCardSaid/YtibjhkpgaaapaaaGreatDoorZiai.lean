import Derived.Test.YtibjhkpgaaapaaaGreatDoorZiaa
import Derived.DeepKeys5
import Derived.Test.YtibjhkpgaaapaaaGreatDoorProg
import Derived.Test.YtibjhkpgaaapaaaGreatDoorZiaf
import Derived.WalkSpells
import Derived.WalkLawsBesides
import Derived.StillTactics
import Derived.Laws.Pointers
import Derived.Deep.RegionHeld3
import Derived.Carry
import Derived.Deep.Cut
import Derived.Test.YtibjhkpgaaapaaaGreatDoorZiah
import Derived.Deep.QuietTactic
import Derived.BigQuiet
set_option maxRecDepth 100000
set_option maxHeartbeats 1000000
namespace Go.Proofs.Sha
open Go Go.RowKit
def K32 (X:List UInt8):Value:=.agg (X.map B).toArray
theorem mapM_some {α β:Type}(f:α->Option β):∀l:List α,(∀i ∈ l,∃y,f i=some y)->∃ys,l.mapM f=some ys
 | [],_=>⟨[],rfl⟩
 | i :: l,h=>by
  obtain⟨y,hy⟩:=h i (List.mem_cons_self ..)
  obtain⟨ys,hys⟩:=mapM_some f l (λj hj=>h j (List.mem_cons_of_mem _ hj))
  exact⟨y :: ys,by rw[List.mapM_cons,hy,hys];rfl⟩
theorem byte_wf (x:UInt8):(Lit.int .u8 (x.toNat:Int)).wf=true:=by
 have e1:IntKind.u8.min=0:=rfl;have e2:IntKind.u8.max=255:=rfl;have:=UInt8.toNat_lt x;unfold Lit.wf;rw[Bool.and_eq_true,decide_eq_true_eq,decide_eq_true_eq,e1,e2];omega
theorem K32_inj {X Y:List UInt8}(h:K32 X=K32 Y):X=Y:=by
 unfold K32 at h;simp only[Value.agg.injEq] at h;have h':X.map B=Y.map B:=by
  have:=congrArg Array.toList h
  simpa using this
 refine List.map_inj_right (f:=B) ?_ |>.1 h'
 intro a b hab;unfold B at hab;simp only[Value.int.injEq,true_and] at hab;exact UInt8.toNat_inj.1 (by omega)
structure Key32 (P:Program) (k e:TypeId):Prop where
 ak:P.underlying k=some (.array 32 e)
 ae:P.underlying e=some (.int .u8)
 ce:P.cellsOf e=1
 ck:P.cellsOf k=32
 kt:P.keyType k=true
 law:WideMaps.KeyLaw P k
 tz:∃d,P.types.size=d+1
section
variable {P:Program} {k e:TypeId}
theorem key_of (hk:Key32 P k e)(X:List UInt8)(hX:X.length=32):∃l,keyOf P k (K32 X)=some l:=by
 have hform:(K32 X).formed P k=true:=by
  unfold K32 Value.formed;rw[hk.ak];simp[hk.ck,hX]
 have hcells:(K32 X).cells.toList=X.map B:=by simp[K32,Value.cells]
 have hL:∃ls,P.keyLits (P.types.size+1) k (X.map B)=some ls:=by
  obtain⟨ys,hys⟩:=mapM_some (λi=>P.keyLits P.types.size e (((X.map B).drop (i*P.cellsOf e)).take (P.cellsOf e))) (List.range 32) (λi hi=>by
   have hi':i<X.length:=by rw[hX];exact List.mem_range.1 hi
   rw[hk.ce,Nat.mul_one]
   have e1:((X.map B).drop i).take 1=[B X[i]]:=by
    rw[List.drop_eq_getElem_cons (by rw[List.length_map];exact hi'),List.take_succ_cons,List.take_zero,List.getElem_map]
   obtain⟨d,hd⟩:=hk.tz
   refine⟨[.int .u8 (X[i].toNat:Int)],?_⟩
   rw[e1,hd]
   have hb:=byte_wf X[i]
   simp[Program.keyLits,hk.ae,B,hb])
  refine⟨ys.flatten,?_⟩;have hlen:(X.map B).length=P.cellsOf k:=by rw[List.length_map,hX,hk.ck]
  simp only[Program.keyLits,hk.ak,hlen,if_true,hys,Option.map_some]
 obtain⟨ls,hls⟩:=hL;refine⟨.string (keyBytes ls),?_⟩;unfold keyOf;rw[hk.ak];simp only[hk.kt,hform,Bool.and_self,if_true,hcells,hls,Option.map_some]
structure MapF (F:List UInt8->Option Int) (r:Nat) (w:World):Prop where
 is:∃ (es:Array MapEntry) (clock:Nat),w.heap[r]?=some (.map es clock)/\(∀x ∈ es.toList,∃ (X:List UInt8) (v:Int),X.length=32/\x.key=K32 X/\x.val=.int .i64 v/\F X=some v)/\(∀X v,F X=some v->∃x ∈ es.toList,x.key=K32 X)
theorem MapF.below {F:List UInt8->Option Int}{r:Nat}{w w':World}(h:MapF F r w)(hb:Below w.heap.size w w'):MapF F r w':=by
 obtain⟨es,clock,hg,h1,h2⟩:=h.is;exact⟨es,clock,(hb.block r (zG hg).1).trans hg,h1,h2⟩
theorem MapF.kept {F:List UInt8->Option Int}{r g:Nat}{w w':World}(h:MapF F r w)(hg:w.grownBy w' (some g))(hne:r ≠ g):MapF F r w':=by
 obtain⟨es,clock,hh,h1,h2⟩:=h.is;exact⟨es,clock,(hg.block r (zG hh).1 (λe=>hne (Option.some.inj e))).trans hh,h1,h2⟩
theorem run_look (hk:Key32 P k e){mt el:TypeId}(hm:P.underlying mt=some (.map k el))(hz:∀w,(zeroValue el).run P w=.ok (.int .i64 0) w){F:List UInt8->Option Int}{r:Nat}{w:World}(h:MapF F r w)(X:List UInt8)(hX:X.length=32) : (Instr.lookup mt (.map (some r)) (K32 X) true).run P w=.ok (.tuple #[.int .i64 ((F X).getD 0),.bool (F X).isSome]) w:=by
 obtain⟨es,clock,hg,h1,h2⟩:=h.is;obtain⟨l,hl⟩:=key_of hk X hX;have hgo:(getObj r).run P w=.ok (.map es clock) w:=by simp[getObj,Sem.run,hg]
 have hch:=λem=>hk.law.check w em hl;have hall:∀x ∈ es.toList,∃l,keyOf P k x.key=some l:=λx hx=>by
  obtain⟨Y,v,hY,hy,_,_⟩:=h1 x hx;rw[hy];exact key_of hk Y hY
 unfold Instr.lookup;simp only[Sem.run_bind,run_underlying hm,Result.andThen_ok,hgo,Sem.run_pure,hch];rcases hk.law.find w hl es.toList hall with ⟨hf,hn⟩|⟨j,x,hf,hj,hx⟩
 ·have hF:F X=none:=by
   cases hFX:F X with
   | none=>rfl
   | some v =>
    obtain⟨x,hx,he⟩:=h2 X v hFX;exact absurd he (hn x hx)
  simp only[hf,Result.andThen_ok,hF,Sem.run_bind,hz,Sem.run_pure];rfl
 ·obtain⟨Y,v,hY,hy,hv,hFY⟩:=h1 x (List.mem_of_getElem? hj);have:Y=X:=K32_inj (hy.symm.trans hx);subst this;simp only[hf,Result.andThen_ok,hFY,hv];rfl
theorem run_put (hk:Key32 P k e){mt el:TypeId}(hm:P.underlying mt=some (.map k el)){F:List UInt8->Option Int}{r:Nat}{w:World}(h:MapF F r w)(X:List UInt8)(hX:X.length=32)(hF:F X=none)(v:Int) : ∃w',(Instr.mapUpdate mt (.map (some r)) (K32 X) (.int .i64 v)).run P w=.ok () w'/\MapF (λY=>if Y=X then some v else F Y) r w'/\w.grownBy w' (some r):=by
 obtain⟨es,clock,hg,h1,h2⟩:=h.is;obtain⟨l,hl⟩:=key_of hk X hX;have hgo:(getObj r).run P w=.ok (.map es clock) w:=by simp[getObj,Sem.run,hg]
 have hch:=λem=>hk.law.check w em hl;have hall:∀x ∈ es.toList,∃l,keyOf P k x.key=some l:=λx hx=>by
  obtain⟨Y,u,hY,hy,_,_⟩:=h1 x hx;rw[hy];exact key_of hk Y hY
 have hnone:(Instr.findKey k (K32 X) es.toList).run P w=.ok none w:=by
  rcases hk.law.find w hl es.toList hall with ⟨hf,_⟩|⟨j,x,hf,hj,hx⟩
  ·exact hf
  ·obtain⟨Y,u,hY,hy,_,hFY⟩:=h1 x (List.mem_of_getElem? hj);have:Y=X:=K32_inj (hy.symm.trans hx);rw[this,hF] at hFY;cases hFY
 obtain⟨o,ho⟩:∃o:Obj,o=.map (es.push { key:=K32 X,val:=.int .i64 v,born:=clock }) (clock+1):=⟨_,rfl⟩;have hso:(setObj r o).run P w=.ok () { w with heap:=w.heap.setIfInBounds r o }:=by
  simp[setObj,Sem.run,hg]
 refine⟨{ w with heap:=w.heap.setIfInBounds r o },?_,?_,?_⟩
 ·unfold Instr.mapUpdate;simp only[Sem.run_bind,run_underlying hm,Result.andThen_ok,hgo,hch,hnone];rw[<-ho];exact hso
 ·have hlt:r<w.heap.size:=(zG hg).1;refine⟨_,_,by show (w.heap.setIfInBounds r o)[r]?=_;rw[Array.getElem?_setIfInBounds_self,if_pos hlt,ho],?_,?_⟩
  ·intro x hx;rw[Array.toList_push,List.mem_append,List.mem_singleton] at hx;rcases hx with hx|rfl
   ·obtain⟨Y,u,hY,hy,hv,hFY⟩:=h1 x hx;refine⟨Y,u,hY,hy,hv,?_⟩;rw[if_neg (λe=>by rw[e,hF] at hFY;cases hFY)];exact hFY
   ·exact⟨X,v,hX,rfl,rfl,if_pos rfl⟩
  ·intro Y u hu;rw[Array.toList_push];by_cases e:Y=X
   ·subst e;exact⟨_,List.mem_append_right _ (List.mem_singleton.2 rfl),rfl⟩
   ·rw[if_neg e] at hu;obtain⟨x,hx,hy⟩:=h2 Y u hu;exact⟨x,List.mem_append_left _ hx,hy⟩
 ·refine⟨rfl,rfl,rfl,by simp,λj hj hne=>?_⟩;show (w.heap.setIfInBounds r o)[j]?=_;rw[Array.getElem?_setIfInBounds_ne (λe=>hne (by rw[e]))]
end
end Go.Proofs.Sha
namespace Go.Proofs.YtibjhkpgaaapaaaGreatDoor
open Go.RowKit Go.Proofs.Sha Tryz
theorem key43:Key32 prog 247 5 :=
 ⟨Tryz.underlying247,Tryz.underlying5,by kernel_rfl,by kernel_rfl,by kernel_rfl,deep_law_gate (by kernel_rfl) (by decide +kernel) (by decide +kernel) (by kernel_rfl) (by rw[Tryz.underlying247]),⟨prog.types.size-1,by kernel_rfl⟩⟩
def zeros32b:List UInt8:=List.replicate 32 0
theorem alloc43 (w:World):(Instr.alloc 247 true (.tuple #[])).run prog w=.ok (.pointer (some ⟨w.heap.size,0,none⟩)) (w.alloc (.cells (zeros32b.map B).toArray 247)):=by kernel_rfl
theorem size43:(prog.info? 247).map (·.size)=some 32:=by kernel_rfl
def cutW (k:Nat) (X:List UInt8):List UInt8:=X.take k++List.replicate (32-k) 0
theorem cutW_len (k:Nat)(X:List UInt8)(hX:X.length=32)(hk:k<=32):(cutW k X).length=32:=by unfold cutW;rw[List.length_append,List.length_take,List.length_replicate];omega
def addF (F:List UInt8->Option Int) (X:List UInt8) (v:Int):List UInt8->Option Int:=if F X=none then λY=>if Y=X then some v else F Y else F
def HashSaid (K:World->Prop):Prop:=∀ (s:ByteArray) (w:World),s.size<=1048576->K w->Calls prog 175 #[.string s] w λe w'=>e=.returned (.agg ((sha (78 :: s.data.toList)).map B).toArray)/\Below w.heap.size w w'
theorem Row.setTail {w:World}{base g n cap:Nat}{xs:List Value}(h:Row w base g n cap xs)(o:Nat)(ys:List Value)(ho:o+ys.length=n):Row (w.setCells g o ys) base g n cap (xs.take o++ys):=by
 have hin:∀j (hj:j<ys.length),(w.setCells g o ys).cell? ⟨g,o+j,none⟩=some ys[j]:=World.cell?_setCells_in g ys o w (λj hj=>h.room (o+j) (by have:=h.le;omega));have hout:∀j,j<o\/o+ys.length<=j->(w.setCells g o ys).cell? ⟨g,j,none⟩=w.cell? ⟨g,j,none⟩:=λj hj=>World.cell?_setCells_out g ys o w ⟨g,j,none⟩ (λ_ _=>hj);have hgr:=qat g ys o w;have hl:=h.len;refine⟨h.ge,Nat.lt_of_lt_of_le h.lt hgr.size,by rw[List.length_append,List.length_take];omega,h.le,?_,?_,?_⟩
 ·intro j hj;rcases Nat.lt_or_ge j o with h1|h1
  ·rw[hout j (.inl h1),h.cell j (by omega),List.getElem?_append_left (by rw[List.length_take];omega),List.getElem?_take,if_pos h1]
  ·obtain⟨q,rfl⟩:=Nat.exists_eq_add_of_le h1;rw[hin q (by omega),List.getElem?_append_right (by rw[List.length_take];omega),List.length_take,show o+q-min o xs.length=q by omega,List.getElem?_eq_getElem (by omega)]
 ·intro j hj;rcases Nat.lt_or_ge j o with h1|h1
  ·rw[hout j (.inl h1)];exact h.room j hj
  ·rcases Nat.lt_or_ge j (o+ys.length) with h2|h2
   ·obtain⟨q,rfl⟩:=Nat.exists_eq_add_of_le h1;rw[hin q (by omega)];rfl
   ·rw[hout j (.inr h2)];exact h.room j hj
 ·intro j hj;rw[World.frozen?_setCells];exact h.free j hj
theorem zeroV3 (w:World):(zeroValue 3).run prog w=.ok (.int .i64 0) w:=by kernel_rfl
theorem zeroV5 (w:World):(zeroValue 5).run prog w=.ok (.int .u8 0) w:=by kernel_rfl
theorem zeroCells_b (q:Nat):(Builtin.zeroCells (Value.int .u8 0).cells q).toList=List.replicate q (B 0):=by
 show (Builtin.zeroCells #[Value.int .u8 0] q).toList=_;rw[Builtin.zeroCells];apply List.ext_getElem
 ·simp
 ·intro j h1 h2;simp[B,Nat.mod_one]
theorem run_clear_tail {w:World}{base g:Nat}{X:List UInt8}(h:Row w base g 32 32 (X.map B))(_hX:X.length=32)(k:Nat)(hk:k<32) : ∃w',(Builtin.clear_ #[41] 0 #[.slice (some ⟨g,k,none⟩) (32-k) (32-k)]).run prog w=.ok (.tuple #[]) w'/\Row w' base g 32 32 ((cutW k X).map B)/\w.grownBy w' (some g):=by
 obtain⟨q,hq⟩:∃q,32-k=q+1:=⟨31-k,by omega⟩;have hst:=run_storeCells_cells (P:=prog) g k (List.replicate (32-k) (B 0)) 0 w (λj hj=>by rw[List.length_replicate] at hj;have:=h.room (k+j) (by omega);simpa using this) (λj hj=>by rw[List.length_replicate] at hj;have:=h.free (k+j) (by omega);simpa using this) (λv hv=>by rw[List.eq_of_mem_replicate hv];rfl);simp only[Nat.add_zero] at hst;refine⟨w.setCells g k (List.replicate (32-k) (B 0)),?_,?_,qat _ _ _ _⟩
 ·unfold Builtin.clear_;rw[hq] at hst⊢;simp only[Sem.run_bind,run_underlying Tryz.underlying41,Result.andThen_ok,zeroV5,zeroCells_b,List.getElem?_toArray,List.getElem?_cons_zero];rw[hst];rfl
 ·have:=Row.setTail h k (List.replicate (32-k) (B 0)) (by rw[List.length_replicate];omega);unfold cutW;rw[List.map_append,List.map_take,List.map_replicate];exact this
theorem newP_any (wd:Int)(w:World):Calls prog 152 #[.int .i64 wd] w λe w'=>∃r,e=.returned (.agg #[.int .i64 wd,.map (some r)])/\w.heap.size<=r/\MapF (λ_=>none) r w'/\Below w.heap.size w w':=by
 have hmm:=@run_makeMap prog;have hM:MapF (λ_=>none) (w.heap.size+1) ((w.alloc (.cells #[.int .i64 wd,.map (some (w.heap.size+1))] 192)).alloc (.map #[] 0)):=by
  refine⟨#[],0,?_,λx hx=>by simp at hx,λX v hv=>by cases hv⟩;have:=heap_alloc_new (w.alloc (.cells #[.int .i64 wd,.map (some (w.heap.size+1))] 192)) (.map #[] 0)
  rwa [World.size_alloc] at this
 go_enter func152,ntmps152;go_wp2_with fail;refine bodyPost_ret (v:=.agg #[.int .i64 wd,.map (some (w.heap.size+1))]) ?_ rfl ⟨w.heap.size+1,rfl,by omega,hM,((Below.refl _ w).alloc (Nat.le_refl _) _).alloc (by simp) _⟩;clear hM;simp[results,Tryz.results152,go_sem,asAddr]
theorem add_any {K:World->Prop}(HH:Hid (HashSaid K))(wd:Nat)(r:Nat)(F:List UInt8->Option Int)(enc:ByteArray)(pl:Int)(w:World)(h:MapF F r w)(hK:K w)(keep:Hid (∀w1 w2,K w1->Below w1.heap.size w1 w2->K w2))(hs:enc.size<=1048576)(h1:wd<=32) : Calls prog 153 #[.agg #[.int .i64 (wd:Int),.map (some r)],.string enc,.int .i64 pl] w λe w'=>e=.returned (.tuple #[])/\MapF (addF F (cutW wd (sha (78 :: enc.data.toList))) pl) r w'/\w.grownBy w' (some r):=by
 obtain⟨L,hL⟩:=eX (sha (78 :: enc.data.toList));have hLl:L.length=32:=by rw[<-hL];unfold sha;rw[qar]
 have HC:Hid (∀w',K w'->Calls prog 175 #[.string enc] w' λe w''=>e=.returned (.agg (L.map B).toArray)/\Below w'.heap.size w' w''):=λw' hw=>by rw[<-hL];exact HH.out enc w' hs hw
 go_enter func153,ntmps153;go_wp2_with fail;refine(HC.out _ (keep.out _ _ hK ((Below.refl _ w).alloc (Nat.le_refl _) _))).mono ?_;rintro e w1 ⟨rfl,hb1⟩;have hn1:w1.heap[w.heap.size]?=some (.cells #[.int .i64 (wd:Int),.map (some r)] 192):=(hb1.block _ (by simp)).trans (heap_alloc_new w _);have hB1:Below w.heap.size w w1:=((Below.refl _ w).alloc (Nat.le_refl _) _).trans (hb1.mono (by simp));have hrl:r<w.heap.size:=by
  obtain⟨es,cl,hg,_,_⟩:=h.is;exact(zG hg).1
 obtain⟨ga,hga⟩:=eX (w.heap.size);have hLm:(L.map B).length=32:=by rw[List.length_map,hLl]
 have h1c:∀v ∈ L.map B,v.oneCell'=true:=by
  intro v hv;obtain⟨x,_,rfl⟩:=List.mem_map.1 hv;rfl
 have hs1:=hB1.size;go_upto_region 2 with (first|(refine qam _ rfl (some 6) rfl 247 247 rfl (zeros32b.map B) alloc43 ?_;intro g2 w2 hr2 hb2)|(refine qan _ rfl rfl 247 (.tmp 6) (.tmp 10) rfl w1.heap.size g2 32 (zeros32b.map B) (L.map B) rfl rfl hr2 hLm size43 h1c ?_;intro w3 hR3 hg3));have hge:=hR3.ge;have hgl:=hR3.lt;have hB3':Below w1.heap.size w1 w3:=hb2.trans (qah hg3 hge hb2.size);have hn3:w3.heap[ga]?=some (.cells #[.int .i64 (wd:Int),.map (some r)] 192):=by
  rw[<-hga];exact(hB3'.block _ (zG hn1).1).trans hn1
 have hM3:MapF F r w3:=(h.below hB1).below hB3';have hB3:Below w.heap.size w w3:=hB1.trans (hB3'.mono hB1.size);have hne:ga ≠ g2:=by have:=(zG hn1).1;omega
 clear hb2 hr2 hg3 hB3' hn1 hb1 hB1;have c0:=ZC hn3 0;have c1:=ZC hn3 1;have q1:(wd:Int)<=32:=by omega
 have q2:(0:Int)<=(wd:Int):=by omega
 by_cases hw:wd<32
 ·obtain⟨w4,hcl,hR4,hg4⟩:=run_clear_tail hR3 hLl wd hw;have hM4:=hM3.kept hg4 (by omega);have hn4:w4.heap[ga]?=some (.cells #[.int .i64 (wd:Int),.map (some r)] 192):=(hg4.block ga (zG hn3).1 (λe=>hne (Option.some.inj e))).trans hn3;have hB4:w.grownBy w4 (some r):=by
   have:Below w.heap.size w w4:=hB3.trans (qah hg4 (by omega) hB3.size);exact qay this _
  go_upto_region 3 with fail;clear hcl hR3 hg4 hM3 hn3 hB3 c0 c1;have hX:=cutW_len wd L hLl h1;have HX:Hid (cutW wd (sha (78 :: enc.data.toList))=cutW wd L):=(by show _=_;rw[hL]);obtain⟨X,hXX⟩:=eX (cutW wd L);rw[hXX] at hR4 hX HX;have hlk:=run_look key43 Tryz.underlying190 zeroV3 hM4 X hX;unfold K32 at hlk;have d0:=ZC hn4 0;have d1:=ZC hn4 1;cases hF:F X with
  | some u =>
   rw[hF] at hlk;have hend:MapF (addF F (cutW wd (sha (78 :: enc.data.toList))) pl) r w4:=by
    rw[HX.out];unfold addF;rw[if_neg (by rw[hF];intro hh;cases hh)];exact hM4
   clear HX hM4 hF;go_wp2_with (first|(refine qaA _ rfl 247 (.tmp 6) rfl w1.heap.size g2 32 32 (X.map B) 5 rfl hR4 Tryz.underlying247 size43 ?_));go_end0;exact⟨rfl,hend,hB4⟩
  | none =>
   rw[hF] at hlk;obtain⟨w5,hup,hM5,hg5⟩:=run_put key43 Tryz.underlying190 hM4 X hX hF pl;unfold K32 at hup;have hend:MapF (addF F (cutW wd (sha (78 :: enc.data.toList))) pl) r w5:=by
    rw[HX.out];unfold addF;rw[if_pos hF];exact hM5
   have hB5:=qad hB4 hg5;clear HX hM4 hF hM5;go_wp2_with (first|(refine qaA _ rfl 247 (.tmp 6) rfl w1.heap.size g2 32 32 (X.map B) 5 rfl hR4 Tryz.underlying247 size43 ?_));go_end0;exact⟨rfl,hend,hB5⟩
 ·obtain rfl:wd=32:=by omega
  have hcl:(Builtin.clear_ #[41] 0 #[.slice (some ⟨g2,0,none⟩) 0 0]).run prog w3=.ok (.tuple #[]) w3:=by
   unfold Builtin.clear_;simp only[Sem.run_bind,run_underlying Tryz.underlying41,Result.andThen_ok,List.getElem?_toArray,List.getElem?_cons_zero];rfl
  have hc32:cutW 32 L=L:=(by unfold cutW;rw[List.take_of_length_le (by omega)];simp);have hR4:Row w3 w1.heap.size g2 32 32 ((cutW 32 L).map B):=(by rw[hc32];exact hR3);have hM4:=hM3;have hn4:=hn3;have hB4:w.grownBy w3 (some r):=qay hB3 _;go_upto_region 3 with fail;clear hcl hR3 hM3 hn3 hB3 c0 c1 hc32;have hX:=cutW_len 32 L hLl h1;have HX:Hid (cutW 32 (sha (78 :: enc.data.toList))=cutW 32 L):=(by show _=_;rw[hL]);obtain⟨X,hXX⟩:=eX (cutW 32 L);rw[hXX] at hR4 hX HX;have hlk:=run_look key43 Tryz.underlying190 zeroV3 hM4 X hX;unfold K32 at hlk;have d0:=ZC hn4 0;have d1:=ZC hn4 1;cases hF:F X with
  | some u =>
   rw[hF] at hlk;have hend:MapF (addF F (cutW 32 (sha (78 :: enc.data.toList))) pl) r w3:=by
    rw[HX.out];unfold addF;rw[if_neg (by rw[hF];intro hh;cases hh)];exact hM4
   clear HX hM4 hF;go_wp2_with (first|(refine qaA _ rfl 247 (.tmp 6) rfl w1.heap.size g2 32 32 (X.map B) 5 rfl hR4 Tryz.underlying247 size43 ?_));go_end0;exact⟨rfl,hend,hB4⟩
  | none =>
   rw[hF] at hlk;obtain⟨w5,hup,hM5,hg5⟩:=run_put key43 Tryz.underlying190 hM4 X hX hF pl;unfold K32 at hup;have hend:MapF (addF F (cutW 32 (sha (78 :: enc.data.toList))) pl) r w5:=by
    rw[HX.out];unfold addF;rw[if_pos hF];exact hM5
   have hB5:=qad hB4 hg5;clear HX hM4 hF hM5;go_wp2_with (first|(refine qaA _ rfl 247 (.tmp 6) rfl w1.heap.size g2 32 32 (X.map B) 5 rfl hR4 Tryz.underlying247 size43 ?_));go_end0;exact⟨rfl,hend,hB5⟩
def TBk (b:Nat) (k v:ByteArray) (l r:Option Addr) (enc h:ByteArray) (w:World):Prop:=w.heap[b]?=some (.cells (treeL (sha k.data.toList) k v l r enc h).toArray 251)
def RankSaid (K:World->Prop):Prop:=∀ (s:ByteArray) (w:World),s.size<=1048576->K w->Calls prog 166 #[.string s] w λe w'=>e=.returned (.agg (rankL (sha s.data.toList) s).toArray)/\Below w.heap.size w w'
theorem single_any {K:World->Prop}(HR:Hid (RankSaid K))(keep:Hid (∀w1 w2,K w1->Below w1.heap.size w1 w2->K w2))(k v:ByteArray)(w:World)(hk:k.size<=1048576)(hK:K w) : Calls prog 133 #[.agg #[.string k,.string v]] w λe w'=>∃b,e=.returned (.pointer (some ⟨b,0,none⟩))/\w.heap.size<=b/\TBk b k v none none ⟨#[]⟩ ⟨#[]⟩ w'/\Below w.heap.size w w':=by
 have hbA:=bA w (.cells #[.string k,.string v] 81);have nA:=heap_alloc_new w (.cells #[.string k,.string v] 81);have HC:Hid (∀w',Below w.heap.size w w'->Calls prog 166 #[.string k] w' λe w''=>e=.returned (.agg (rankL (sha k.data.toList) k).toArray)/\Below w'.heap.size w' w''):=λw' hb=>HR.out k w' hk (keep.out _ _ hK hb);unfold TBk;obtain⟨x0,x1,x2,x3,x4,x5,x6,x7,x8,x9,x10,x11,x12,x13,x14,x15,x16,x17,x18,x19,x20,x21,x22,x23,x24,x25,x26,x27,x28,x29,x30,x31,hX⟩:=list32 (sha k.data.toList) (sha_len _);rw[hX] at HC;rw[hX];clear hX;unfold treeL;unfold rankL at HC⊢;simp only[List.map_cons,List.map_nil,List.cons_append,List.nil_append] at HC⊢;unfold B at HC⊢;obtain⟨ga,hga⟩:=eX (w.heap.size);rw[hga] at nA;go_enter func133,ntmps133;go_upto_region 1 with fail
 try rw[hga]
 generalize w.alloc (.cells #[.string k,.string v] 81)=wa at hbA nA⊢;have HS:Hid (∀W:World,Below wa.heap.size wa W->W.cell? ⟨ga,0,none⟩=some (.string k)/\W.cell? ⟨ga,1,none⟩=some (.string v)):=λW hW=>by
  have e:=(hW.block ga (zG nA).1).trans nA;exact⟨ZC e 0,ZC e 1⟩
 go_region_held3 (λW=>W.cell? ⟨ga,0,none⟩=some (.string k)/\W.cell? ⟨ga,1,none⟩=some (.string v)) (first|exact HS.out _ (Below.refl _ _)|exact HS.out _ (Below.refl _ _).drew|exact HS.out _ hb2|exact HS.out _ (hb3 _)) (first|(go_at_call 166;refine(HC.out _ hbA.drew).mono ?_;rintro e w2 ⟨rfl,hb2'⟩;have hb2:Below wa.heap.size wa w2:=(Below.refl wa.heap.size wa).drew.trans hb2';have hb3:∀o:Obj,Below wa.heap.size wa (w2.alloc o):=λo=>hb2.alloc hb2.size o;clear hb2'));have nT:=heap_alloc_new w2 (.cells #[.string k,.string v,.int .u8 (x0.toNat:Int),.int .u8 (x1.toNat:Int),.int .u8 (x2.toNat:Int),.int .u8 (x3.toNat:Int),.int .u8 (x4.toNat:Int),.int .u8 (x5.toNat:Int),.int .u8 (x6.toNat:Int),.int .u8 (x7.toNat:Int),.int .u8 (x8.toNat:Int),.int .u8 (x9.toNat:Int),.int .u8 (x10.toNat:Int),.int .u8 (x11.toNat:Int),.int .u8 (x12.toNat:Int),.int .u8 (x13.toNat:Int),.int .u8 (x14.toNat:Int),.int .u8 (x15.toNat:Int),.int .u8 (x16.toNat:Int),.int .u8 (x17.toNat:Int),.int .u8 (x18.toNat:Int),.int .u8 (x19.toNat:Int),.int .u8 (x20.toNat:Int),.int .u8 (x21.toNat:Int),.int .u8 (x22.toNat:Int),.int .u8 (x23.toNat:Int),.int .u8 (x24.toNat:Int),.int .u8 (x25.toNat:Int),.int .u8 (x26.toNat:Int),.int .u8 (x27.toNat:Int),.int .u8 (x28.toNat:Int),.int .u8 (x29.toNat:Int),.int .u8 (x30.toNat:Int),.int .u8 (x31.toNat:Int),.string k,.pointer none,.pointer none,.string ⟨#[]⟩,.string ⟨#[]⟩] 251);have hbT:Below w.heap.size w w2:=hbA.trans (hb2.mono hbA.size);have hle:=hbT.size;go_wp2_with fail;go_ret;rw[hga] at hbT hle;exact⟨w2.heap.size,rfl,hle,nT,hbT.alloc hle _⟩
theorem qcq:∀a b:List UInt8,Op.bytesLess a b = !(Op.bytesLess b a || b == a)
 | [],[]=>rfl
 | [],b :: y=>by simp[Op.bytesLess]
 | a :: x,[]=>by simp[Op.bytesLess]
 | a :: x,b :: y=>by
  rw[Op.bytesLess,Op.bytesLess,qcq x y]
  by_cases h:a=b
  ·subst h
   simp
  ·by_cases hl:a<b
   ·have h2:¬ b<a:=by rw[UInt8.lt_iff_toNat_lt] at hl⊢;omega
    have h3:¬ b=a:=λe=>h e.symm
    simp[hl,h2,h3]
   ·have h2:b<a:=by
     rw[UInt8.lt_iff_toNat_lt] at hl⊢
     have:a.toNat ≠ b.toNat:=λe=>h (UInt8.toNat_inj.1 e)
     omega
    have h3:¬ b=a:=λe=>h e.symm
    simp[h,hl,h2]
abbrev PairT:=ByteArray × ByteArray
def noPair:PairT:=(⟨#[]⟩,⟨#[]⟩)
structure PArg (a:Option Addr) (ps:List PairT) (w:World):Prop where
 le:ps.length<=1048576
 sz:∀j,(ps.getD j noPair).1.size<=1048576/\(ps.getD j noPair).2.size<=1048576
 at_:0<ps.length->∃b off:Nat,a=some ⟨b,off,none⟩/\b<w.heap.size/\∀j,j<ps.length->w.cell? ⟨b,off+j*2,none⟩=some (.string (ps.getD j noPair).1)/\w.cell? ⟨b,off+j*2+1,none⟩=some (.string (ps.getD j noPair).2)
theorem PArg.below {a:Option Addr}{ps:List PairT}{w w':World}(h:PArg a ps w)(hb:Below w.heap.size w w'):PArg a ps w':=by
 refine⟨h.le,h.sz,λhn=>?_⟩;obtain⟨b,off,ha,hlt,hc⟩:=h.at_ hn;exact⟨b,off,ha,Nat.lt_of_lt_of_le hlt hb.size,λj hj=>⟨(hb.cell (p:=⟨b,off+j*2,none⟩) hlt).trans (hc j hj).1,(hb.cell (p:=⟨b,off+j*2+1,none⟩) hlt).trans (hc j hj).2⟩⟩
def okKey (k:ByteArray):Bool:=decide (1<=k.size/\k.size<=256)
def okVal (v:ByteArray):Bool:=decide (v.size<=2000)
def lastK (ps:List PairT):Nat->ByteArray
 | 0=>⟨#[]⟩
 | k+1=>(ps.getD k noPair).1
def goodAt (ps:List PairT) (k:Nat):Bool:=okKey (ps.getD k noPair).1 && (okVal (ps.getD k noPair).2 && Op.bytesLess (lastK ps k).toList (ps.getD k noPair).1.toList)
def mapTo (ps:List PairT):Nat->Bool
 | 0=>true
 | k+1=>mapTo ps k && goodAt ps k
theorem qbr (ps:List PairT)(k n:Nat)(h:k<n)(hg:goodAt ps k=false):mapTo ps n=false:=by
 induction n with
 | zero=>omega
 | succ n ih =>
  rw[mapTo];by_cases e:k=n
  ·subst e;rw[hg,Bool.and_false]
  ·rw[ih (by omega),Bool.false_and]
def isMapT (ps:List PairT):Bool:=decide (ps.length<=500) && mapTo ps ps.length
theorem vkey_any (k:ByteArray)(w:World)(hk:k.size<=1048576):Calls prog 127 #[.string k] w λe w'=>e=.returned (.bool (okKey k))/\w=w':=by
 by_cases c1:1<=k.size
 ·have hr:okKey k=decide ((k.size:Int)<=256):=by
   unfold okKey;by_cases c2:k.size<=256
   ·rw[decide_eq_true (by omega),decide_eq_true (by omega)]
   ·rw[decide_eq_false (by omega),decide_eq_false (by omega)]
  rw[hr];have z1:decide ((1:Int)<=(k.size:Int))=true:=(by rw[decide_eq_true_eq];omega);have z2:decide (1<=k.size)=true:=decide_eq_true c1;have z3:0<k.size:=(by omega);clear hr;go_enter func127,ntmps127;go_wp2_with fail;go_ret;exact⟨rfl,rfl⟩
 ·have hr:okKey k=false:=(by unfold okKey;rw[decide_eq_false (by omega)]);rw[hr];have z1:decide ((1:Int)<=(k.size:Int))=false:=(by rw[decide_eq_false_iff_not];omega);have z0:k.size=0:=(by omega);clear hr;go_enter func127,ntmps127;go_wp2_with fail;go_ret;exact⟨rfl,rfl⟩
theorem vval_any (v:ByteArray)(w:World)(hv:v.size<=1048576):Calls prog 128 #[.string v] w λe w'=>e=.returned (.bool (okVal v))/\w=w':=by
 have hr:okVal v=decide ((v.size:Int)<=2000):=by
  unfold okVal;by_cases c2:v.size<=2000
  ·rw[decide_eq_true (by omega),decide_eq_true (by omega)]
  ·rw[decide_eq_false (by omega),decide_eq_false (by omega)]
 rw[hr];go_enter func128,ntmps128;go_wp2_with fail;go_ret;exact⟨rfl,rfl⟩
theorem isMap_any (a:Option Addr)(ps:List PairT)(c:Nat)(w:World)(h:PArg a ps w) : Calls prog 70 #[.slice a ps.length c] w λe w'=>e=.returned (.bool (isMapT ps))/\Below w.heap.size w w':=by
 have hn:=h.le;obtain⟨n,hnn⟩:=eX (ps.length);obtain⟨B,hB⟩:=eX (isMapT ps);rw[hB,hnn];rw[hnn] at hn;by_cases hx:500<n
 ·have hf:Hid (B=false):=(by show B=false;rw[<-hB];unfold isMapT;rw[decide_eq_false (by omega),Bool.false_and]);have z1:decide ((500:Int)<(n:Int))=true:=(by rw[decide_eq_true_eq];omega);have z2:decide ((n:Int) > 500)=true:=(by rw[decide_eq_true_eq];omega);clear hB;go_enter func70,ntmps70;go_wp2_with fail;go_ret;exact⟨by rw[hf.out];rfl,Below.refl _ _⟩
 ·have hBm:Hid (B=mapTo ps n):=(by show B=_;rw[<-hB];unfold isMapT;rw[decide_eq_true (by omega),Bool.true_and,hnn]);have z1:decide ((500:Int)<(n:Int))=false:=(by rw[decide_eq_false_iff_not];omega);have z2:decide ((n:Int) > 500)=false:=(by rw[decide_eq_false_iff_not];omega);have hnl:Hid (ps.length=n):=hnn;clear hB hnn;go_enter func70,ntmps70;go_wp2_with fail;go_loopw [3,11] (λt3 t11 wr=>∃k:Nat,k<=n/\t3=.string (lastK ps k)/\t11=.int .i64 (k:Int)/\Hid (mapTo ps k=true)/\Below w.heap.size w wr) (λ_ t11 _=>n-(intOf t11).toNat)
  case atStart=>exact⟨0,Nat.zero_le _,rfl,rfl,rfl,Below.refl _ _⟩
  case round =>
   obtain⟨k,hk,rfl,rfl,hm,hbw⟩:=hrel;by_cases hlt:k<n
   ·have z3:decide ((k:Int)<(n:Int))=true:=(by simp;omega);have hx0:(0:Int)<=(k:Int):=Int.natCast_nonneg _;have hx1:(k:Int)<(n:Int):=(by omega);obtain⟨b,off,rfl,hbl,hc⟩:=(h.below hbw).at_ (by rw[hnl.out];omega);obtain⟨hc1,hc2⟩:=hc k (by rw[hnl.out];exact hlt);have hgd:Hid (goodAt ps k=(okKey (ps.getD k noPair).1 && (okVal (ps.getD k noPair).2 && Op.bytesLess (lastK ps k).toList (ps.getD k noPair).1.toList))):=rfl;have hlk:Hid (lastK ps (k+1)=(ps.getD k noPair).1):=rfl;obtain⟨hs1,hs2⟩:=h.sz k;generalize (ps.getD k noPair).1=pk at hc1 hgd hlk hs1;generalize (ps.getD k noPair).2=pv at hc2 hgd hs2;generalize lastK ps k=lk at hgd⊢;have H1:Hid (∀w',Calls prog 127 #[.string pk] w' λe w''=>e=.returned (.bool (okKey pk))/\w'=w''):=λw'=>vkey_any pk w' hs1;have H2:Hid (∀w',Calls prog 128 #[.string pv] w' λe w''=>e=.returned (.bool (okVal pv))/\w'=w''):=λw'=>vval_any pv w' hs2;clear hc;cases hk1:okKey pk with
    | false =>
     rw[hk1] at H1;have hbf:Hid (B=false):=by
      show B=false;rw[hBm.out];exact qbr ps k n hlt (by rw[hgd.out,hk1,Bool.false_and])
     clear hk1 hgd hm hBm;have hbA:Below w.heap.size w (wr.alloc (.cells #[.string pk,.string pv] 81)):=hbw.alloc hbw.size _;go_wp2_with (first|(go_at_call 127;refine(H1.out _).mono ?_;rintro e w1 ⟨rfl,rfl⟩));go_ret;exact⟨by rw[hbf.out];rfl,hbA⟩
    | true =>
     rw[hk1] at H1;cases hv1:okVal pv with
     | false =>
      rw[hv1] at H2;have hbf:Hid (B=false):=by
       show B=false;rw[hBm.out];exact qbr ps k n hlt (by rw[hgd.out,hk1,hv1];rfl)
      clear hk1 hv1 hgd hm hBm;have hbA:Below w.heap.size w (wr.alloc (.cells #[.string pk,.string pv] 81)):=hbw.alloc hbw.size _;go_wp2_with (first|(go_at_call 127;refine(H1.out _).mono ?_;rintro e w1 ⟨rfl,rfl⟩)|(go_at_call 128;refine(H2.out _).mono ?_;rintro e w1 ⟨rfl,rfl⟩));go_ret;exact⟨by rw[hbf.out];rfl,hbA⟩
     | true =>
      rw[hv1] at H2;have hg2:Hid (goodAt ps k=Op.bytesLess lk.toList pk.toList):=(by show _=_;rw[hgd.out,hk1,hv1];rfl);have hbA:Below w.heap.size w (wr.alloc (.cells #[.string pk,.string pv] 81)):=hbw.alloc hbw.size _;clear hk1 hv1 hgd;cases hls:Op.bytesLess lk.toList pk.toList with
      | false =>
       have hbf:Hid (B=false):=by
        show B=false;rw[hBm.out];exact qbr ps k n hlt (by rw[hg2.out,hls])
       have hor:=qcq lk.toList pk.toList;rw[hls] at hor;have hor2:(Op.bytesLess pk.toList lk.toList || (pk.toList == lk.toList))=true:=by
        cases hq:(Op.bytesLess pk.toList lk.toList || (pk.toList == lk.toList)) with
        | true=>rfl
        | false=>rw[hq] at hor;cases hor
       clear hg2 hm hBm hor hls;cases hq1:Op.bytesLess pk.toList lk.toList with
       | true =>
        clear hor2;go_wp2_with (first|(go_at_call 127;refine(H1.out _).mono ?_;rintro e w1 ⟨rfl,rfl⟩)|(go_at_call 128;refine(H2.out _).mono ?_;rintro e w1 ⟨rfl,rfl⟩));go_ret;exact⟨by rw[hbf.out];rfl,hbA⟩
       | false =>
        rw[hq1,Bool.false_or] at hor2;go_wp2_with (first|(go_at_call 127;refine(H1.out _).mono ?_;rintro e w1 ⟨rfl,rfl⟩)|(go_at_call 128;refine(H2.out _).mono ?_;rintro e w1 ⟨rfl,rfl⟩));go_ret;exact⟨by rw[hbf.out];rfl,hbA⟩
      | true =>
       have hm':Hid (mapTo ps (k+1)=true):=(by show _=_;rw[mapTo,hm.out,hg2.out,hls];rfl);have hor:=qcq lk.toList pk.toList;rw[hls] at hor;have hq1:Op.bytesLess pk.toList lk.toList=false:=by
        cases hq:Op.bytesLess pk.toList lk.toList with
        | false=>rfl
        | true=>rw[hq,Bool.true_or] at hor;cases hor
       have hq2:(pk.toList == lk.toList)=false:=by
        cases hq:(pk.toList == lk.toList) with
        | false=>rfl
        | true=>rw[hq,Bool.or_true] at hor;cases hor
       clear hg2 hm hor hls;go_wp2_with (first|(go_at_call 127;refine(H1.out _).mono ?_;rintro e w1 ⟨rfl,rfl⟩)|(go_at_call 128;refine(H2.out _).mono ?_;rintro e w1 ⟨rfl,rfl⟩));go_roundw
       case rel=>exact⟨k+1,hlt,by rw[hlk.out],by go_num,hm',hbA⟩
       case measure=>simp[intOf];omega
   ·obtain rfl:k=n:=by omega
    have z3:decide ((k:Int)<(k:Int))=false:=(by simp);have hbt:Hid (B=true):=(by show B=true;rw[hBm.out,hm.out]);clear hBm hm;go_wp2_with fail;go_ret;exact⟨by rw[hbt.out];rfl,hbw⟩
theorem pairOk_any (k v:ByteArray)(w:World)(hk:k.size<=1048576)(hv:v.size<=1048576):Calls prog 125 #[.string k,.string v] w λe w'=>e=.returned (.bool (okKey k && okVal v))/\w=w':=by
 have hr:okVal v=decide ((v.size:Int)<=2000):=by
  unfold okVal;by_cases c2:v.size<=2000
  ·rw[decide_eq_true (by omega),decide_eq_true (by omega)]
  ·rw[decide_eq_false (by omega),decide_eq_false (by omega)]
 by_cases c1:1<=k.size
 ·by_cases c2:k.size<=256
  ·have hq:okKey k=true:=(by unfold okKey;rw[decide_eq_true (by omega)]);rw[hq,hr,Bool.true_and];have z1:decide ((k.size:Int) ≥ 1)=true:=(by rw[decide_eq_true_eq];omega);have z2:decide ((1:Int)<=(k.size:Int))=true:=(by rw[decide_eq_true_eq];omega);have z3:decide ((k.size:Int)<=256)=true:=(by rw[decide_eq_true_eq];omega);have z4:0<k.size:=(by omega);have z5:decide (1<=k.size)=true:=decide_eq_true c1;clear hr hq;go_enter func125,ntmps125;go_wp2_with fail;go_ret;exact⟨rfl,rfl⟩
  ·have hq:okKey k=false:=(by unfold okKey;rw[decide_eq_false (by omega)]);rw[hq,Bool.false_and];have z1:decide ((k.size:Int) ≥ 1)=true:=(by rw[decide_eq_true_eq];omega);have z2:decide ((1:Int)<=(k.size:Int))=true:=(by rw[decide_eq_true_eq];omega);have z3:decide ((k.size:Int)<=256)=false:=(by rw[decide_eq_false_iff_not];omega);have z4:0<k.size:=(by omega);have z5:decide (1<=k.size)=true:=decide_eq_true c1;clear hr hq;go_enter func125,ntmps125;go_wp2_with fail;go_ret;exact⟨rfl,rfl⟩
 ·have hq:okKey k=false:=(by unfold okKey;rw[decide_eq_false (by omega)]);rw[hq,Bool.false_and];have z1:decide ((k.size:Int) ≥ 1)=false:=(by rw[decide_eq_false_iff_not];omega);have z2:decide ((1:Int)<=(k.size:Int))=false:=(by rw[decide_eq_false_iff_not];omega);have z0:k.size=0:=(by omega);clear hr hq;go_enter func125,ntmps125;go_wp2_with fail;go_ret;exact⟨rfl,rfl⟩
theorem drew1 {w wr:World}(h:∃m,wr=w.drewN m):∃m,wr.drew=w.drewN m:=by
 obtain⟨m,rfl⟩:=h;exact⟨m+1,by rw[<-World.drewN_drewN];rfl⟩
theorem less_q (p q:ByteArray)(w:World)(hp:p.size<=1048576)(hq:q.size<=1048576) : Calls prog 85 #[.string p,.string q] w λe w'=>e=.returned (.bool (Op.bytesLess p.data.toList q.data.toList))/\(∃m,w'=w.drewN m):=by
 have hpl:p.data.toList.length=p.size:=rfl;have hql:q.data.toList.length=q.size:=rfl;go_enter func85,ntmps85;go_wp2_with fail;go_loopw [5] (λt wr=>∃k:Nat,k<=p.size/\k<=q.size/\t=.int .i64 (k:Int)/\Hid (Op.bytesLess p.data.toList q.data.toList=Op.bytesLess (p.data.toList.drop k) (q.data.toList.drop k))/\∃m,wr=w.drewN m) (λt _=>p.size-(intOf t).toNat)
 case atStart=>exact⟨0,by omega,by omega,rfl,rfl,0,rfl⟩
 case round =>
  obtain⟨k,hk1,hk2,rfl,HL,hb⟩:=hrel;by_cases h1:k<p.size
  ·by_cases h2:k<q.size
   ·have z1:(0:Int)<=(k:Int):=(by omega);have z2:(k:Int)<(p.size:Int):=(by omega);have z3:(k:Int)<(q.size:Int):=(by omega);go_wp2_with fail;go_region;rw[bget p k h1,bget q k h2];have HE:=less_eq p.data.toList q.data.toList k h1 h2;have HN:=less_ne p.data.toList q.data.toList k h1 h2;obtain⟨x,hx⟩:=eX (p.data.toList.getD k 0);obtain⟨y,hy⟩:=eX (q.data.toList.getD k 0);rw[hx,hy] at HE HN;rw[hx,hy];have HXY:Hid (p.data.toList.getD k 0=x/\q.data.toList.getD k 0=y):=⟨hx,hy⟩;clear hx hy;by_cases hxy:x=y
    ·have c0:((x.toNat:Int) != (y.toNat:Int))=false:=(by rw[hxy];simp);have HE':Hid (Op.bytesLess p.data.toList q.data.toList=Op.bytesLess (p.data.toList.drop (k+1)) (q.data.toList.drop (k+1))):=HL.out.trans (HE hxy);clear HE HN hxy;go_wp2_with fail;go_roundw
     case rel=>exact⟨k+1,by omega,by omega,by go_num,HE',drew1 hb⟩
     case measure=>simp[intOf];omega
    ·have c0:((x.toNat:Int) != (y.toNat:Int))=true:=by
      rw[bne_iff_ne];exact λh=>hxy (UInt8.toNat_inj.1 (by omega))
     have HN':Hid (Op.bytesLess p.data.toList q.data.toList=decide (x.toNat<y.toNat)):=(HL.out.trans (HN hxy)).trans (by simp);clear HE HN hxy;go_wp2_with fail;go_region;rw[bget p k h1,bget q k h2,HXY.out.1,HXY.out.2];go_wp2;go_ret;exact⟨by rw[HN'.out];rfl,drew1 (drew1 hb)⟩
   ·have HN':Hid (Op.bytesLess p.data.toList q.data.toList=decide (p.size<q.size)):=(HL.out.trans (qcw p.data.toList q.data.toList k (.inr (by omega)) (by omega) (by omega))).trans (by simp);go_wp2;go_ret;exact⟨by rw[HN'.out];rfl,hb⟩
  ·have HN':Hid (Op.bytesLess p.data.toList q.data.toList=decide (p.size<q.size)):=(HL.out.trans (qcw p.data.toList q.data.toList k (.inl (by omega)) (by omega) (by omega))).trans (by simp);go_wp2;go_ret;exact⟨by rw[HN'.out];rfl,hb⟩
theorem pairOk_q (k v:ByteArray)(w:World)(hk:k.size<=1048576)(hv:v.size<=1048576):Calls prog 125 #[.string k,.string v] w λe w'=>e=.returned (.bool (okKey k && okVal v))/\w'=w :=
 (pairOk_any k v w hk hv).mono λ_ _ ⟨he,hw⟩=>⟨he,hw.symm⟩
end Go.Proofs.YtibjhkpgaaapaaaGreatDoor
