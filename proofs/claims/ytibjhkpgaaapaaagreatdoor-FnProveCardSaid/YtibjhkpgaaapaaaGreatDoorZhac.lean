import Derived.Test.YtibjhkpgaaapaaaGreatDoorZhab
import Derived.Deep.MidRow
import Derived.Great.Walk
import Derived.Test.YtibjhkpgaaapaaaGreatDoorProg
import Derived.WalkSpells
import Derived.WalkLawsBesides
import Derived.StillTactics
import Derived.Laws.Pointers
import Derived.Deep.RegionHeld3
set_option maxRecDepth 100000
set_option maxHeartbeats 800000
namespace Go.Proofs.Sha
open Go Go.RowKit Go.Great
theorem Row.range {w:World} {base g n cap:Nat} {xs:List Value} (h:Row w base g n cap xs):w.rangeAt g 0 xs:=fun j v hv=>by
 have hj:j < n:=by have:=(List.getElem?_eq_some_iff.1 hv).1;have:=h.len;omega
 rw [Nat.zero_add,h.cell j hj,hv]
theorem Row.there {w:World} {base g n cap:Nat} {xs:List Value} (h:Row w base g n cap xs):w.there g 0 cap:=fun j hj=>by
 rw [Nat.zero_add];exact ⟨h.room j hj,h.free j hj⟩
theorem Row.set {w:World} {base g n cap:Nat} {xs:List Value} (h:Row w base g n cap xs) (i:Nat) (hi:i < n) (v:Value):Row (w.setCell ⟨g,i,none⟩ v) base g n cap (xs.set i v):=by
 have hs:=grownBy_setCell w g i v
 have hle:=h.le
 obtain ⟨u,hu⟩:=Option.isSome_iff_exists.1 (h.room i (by omega))
 have hc:∀ j,j ≠ i -> (w.setCell ⟨g,i,none⟩ v).cell? ⟨g,j,none⟩=w.cell? ⟨g,j,none⟩:=fun j hj=>World.cell?_setCell_other _ _ _ _ (fun e=>hj (by cases e;rfl))
 have hc':(w.setCell ⟨g,i,none⟩ v).cell? ⟨g,i,none⟩=some v:=World.cell?_setCell_same _ _ _ hu
 refine ⟨h.ge,Nat.lt_of_lt_of_le h.lt hs.size,by rw [List.length_set];exact h.len,hle,fun j hj=>?_,fun j hj=>?_,fun j hj=>by rw [World.frozen?_setCell];exact h.free j hj⟩
 · by_cases e:j=i
   · subst e;rw [hc',List.getElem?_set_self (by rw [h.len];exact hi)]
   · rw [hc j e,h.cell j hj,List.getElem?_set_ne (fun e'=>e e'.symm)]
 · by_cases e:j=i
   · subst e;rw [hc'];rfl
   · rw [hc j e];exact h.room j hj
theorem Row.setAll {w:World} {base g n:Nat} {xs:List Value} (h:Row w base g n n xs) (ys:List Value) (hy:ys.length=n):Row (w.setCells g 0 ys) base g n n ys:=by
 have hs:=grownBy_setCells g ys 0 w
 have hin:∀ j (hj:j < ys.length),(w.setCells g 0 ys).cell? ⟨g,0 + j,none⟩=some ys[j]:=World.cell?_setCells_in g ys 0 w (fun j hj=>by rw [Nat.zero_add];exact h.room j (by omega))
 refine ⟨h.ge,Nat.lt_of_lt_of_le h.lt hs.size,hy,Nat.le_refl _,fun j hj=>?_,fun j hj=>?_,fun j hj=>by rw [World.frozen?_setCells];exact h.free j hj⟩
 · have:=hin j (by omega)
   rw [Nat.zero_add] at this
   rw [this,List.getElem?_eq_getElem (by omega)]
 · have:=hin j (by omega)
   rw [Nat.zero_add] at this
   rw [this];rfl
section
variable {P:Program} (w:World)
theorem wpList_alloc_row {ops:Array Oper} {rest:List Oper} {o:Oper} {a:Act} {Q:Exit -> Act -> World -> Prop} (hgd:o.guard=none) (dst:Option Tmp) (hdst:o.dst=dst) (ty ty':TypeId) (ho:o.op=.alloc ty) (xs:List Value)
 (hrun:∀ w:World,(Instr.alloc ty true (.tuple #[])).run P w=.ok (.pointer (some ⟨w.heap.size,0,none⟩)) (w.alloc (.cells xs.toArray ty')))
 (h:∀ g w',Row w' w.heap.size g xs.length xs.length xs -> Below w.heap.size w w' -> wpList P ops Q rest (a.put dst (.pointer (some ⟨g,0,none⟩))) w'):wpList P ops Q (o :: rest) a w:=by
 refine wpList_runTo hgd dst hdst (.pointer (some ⟨w.heap.size,0,none⟩)) (w.alloc (.cells xs.toArray ty')) ?_ (h _ _ ?_ ((Below.refl _ _).alloc (Nat.le_refl _) _))
 · unfold execOp
   simp only [ho,Sem.run_bind,hrun,Result.andThen_ok,Sem.run_pure]
 · have:=Row.of_block (base:=w.heap.size) (Nat.le_refl _) (heap_alloc_new w (.cells xs.toArray ty')) xs.length (by simp) (.inl rfl)
   simpa using this
theorem wpList_load_whole {ops:Array Oper} {rest:List Oper} {o:Oper} {a:Act} {Q:Exit -> Act -> World -> Prop} (hgd:o.guard=none) (ty:TypeId) (x:Operand) (ho:o.op=.load ty x)
 (base g n cap:Nat) (xs:List Value) (e:TypeId) (hx:a.eval x=.pointer (some ⟨g,0,none⟩)) (hr:Row w base g n cap xs)
 (hu:P.underlying ty=some (.array n e)) (hi:(P.info? ty).map (·.size)=some n)
 (h:wpList P ops Q rest (a.put o.dst (.agg xs.toArray)) w):wpList P ops Q (o :: rest) a w :=
 wpList_load_mid hgd ty x ho g 0 hx xs _ hr.range hu rfl (by rw [hi,hr.len]) h
theorem wpList_store_whole {ops:Array Oper} {rest:List Oper} {o:Oper} {a:Act} {Q:Exit -> Act -> World -> Prop} (hgd:o.guard=none) (hdst:o.dst=none) (ty:TypeId) (x y:Operand) (ho:o.op=.store ty x y)
 (base g n:Nat) (xs ys:List Value) (hx:a.eval x=.pointer (some ⟨g,0,none⟩)) (hy:a.eval y=.agg ys.toArray) (hr:Row w base g n n xs) (hl:ys.length=n)
 (hi:(P.info? ty).map (·.size)=some n) (h1:∀ v ∈ ys,v.oneCell'=true)
 (h:∀ w',Row w' base g n n ys -> w.grownBy w' (some g) -> wpList P ops Q rest a w'):wpList P ops Q (o :: rest) a w :=
 wpList_store_mid hgd ty x y ho g 0 ys.toArray hx hy (by rw [List.size_toArray,hl];exact hr.there) (by rw [hi,List.size_toArray,hl]) (all_oneCell_toArray h1) (by
  rw [hdst];exact h _ (hr.setAll ys hl) (grownBy_setCells g ys 0 w))
theorem results_cell {fn:Func} {p:Tmp} {ty:TypeId} (h:fn.results=#[.cell p ty]) (tmps:Array Value) (b:Addr) (hp:tmps.getD p undef=.pointer (some b)):(results fn tmps).run P w=(loadVar ty b).run P w:=by
 have hp':tmps[p]?.getD undef=.pointer (some b):=by simpa using hp
 simp only [results,h]
 simp [hp',asAddr]
theorem ret_row {fn:Func} {R:Ending -> World -> Prop} {a:Act} {p:Tmp} {ty:TypeId} (hres:fn.results=#[.cell p ty]) (base g n cap:Nat) (xs:List Value) (e:TypeId) (ht:a.tmps.getD p undef=.pointer (some ⟨g,0,none⟩))
 (hr:Row w base g n cap xs) (hu:P.underlying ty=some (.array n e)) (hi:(P.info? ty).map (·.size)=some n) (hdef:a.defers=[]) (hR:R (.returned (.agg xs.toArray)) w):bodyPost P fn R .ret a w:=by
 refine bodyPost_ret (v:=.agg xs.toArray) ?_ hdef hR
 rw [results_cell w hres a.tmps _ ht]
 exact run_loadVar_mid w g 0 ty xs _ hr.range hu rfl (by rw [hi,hr.len])
theorem wpList_index_u {ops:Array Oper} {rest:List Oper} {o:Oper} {a:Act} {Q:Exit -> Act -> World -> Prop} (hgd:o.guard=none) (t:TypeId) (x y:Operand) (ho:o.op=.index t x y)
 (L:List UInt32) (n e i:Nat) (hx:a.eval x=.agg (L.map U).toArray) (hy:a.eval y=.int .i64 (i:Int)) (hL:L.length=n) (hi:i < n)
 (hu:P.underlying t=some (.array n e)) (he:P.underlying e=some (.int .u32)) (hs:(P.info? e).map (·.size)=some 1)
 (h:wpList P ops Q rest (a.put o.dst (.int .u32 ((L.getD i 0).toNat:Int))) w):wpList P ops Q (o :: rest) a w:=by
 refine wpList_runTo hgd o.dst rfl (.int .u32 ((L.getD i 0).toNat:Int)) w ?_ h
 unfold execOp
 cases hq:P.info? e with
 | none=>simp [hq] at hs
 | some ie =>
  have hs1:ie.size=1:=by simpa [hq] using hs
  have hc:=tab_cell L i (by omega)
  simp [ho,hx,hy,Instr.index,run_underlying hu,asIntOf,sizeOf,typeInfo,hq,hs1]
  have hpart:(part e (L.map U).toArray i).run P w=.ok (.int .u32 ((L.getD i 0).toNat:Int)) w:=by
   have hagg:(isAgg e).run P w=.ok false w:=by
    unfold isAgg
    rw [Sem.run_bind,run_underlying he w];rfl
   unfold part
   rw [Sem.run_bind,hagg,hc];rfl
  rw [if_pos hi,hpart];simp
end
structure Hsh (w:World) (b:Nat) (h:List UInt32) (k:List UInt8) (held size:Nat):Prop where
 hl:h.length=8
 kl:k.length=64
 hs:∀ j,j < 8 -> w.cell? ⟨b,j,none⟩=some (.int .u32 ((h.getD j 0).toNat:Int))
 ks:∀ j,j < 64 -> w.cell? ⟨b,8 + j,none⟩=some (.int .u8 ((k.getD j 0).toNat:Int))
 hd:w.cell? ⟨b,72,none⟩=some (.int .i64 (held:Int))
 sz:w.cell? ⟨b,73,none⟩=some (.int .u64 (size:Int))
 fr:∀ j,j < 74 -> w.frozen? ⟨b,j,none⟩=false
theorem Hsh.lt {w:World} {b:Nat} {h:List UInt32} {k:List UInt8} {held size:Nat} (H:Hsh w b h k held size):b < w.heap.size:=World.block_lt_of_cell? w _ H.hd
theorem Hsh.kept {w w':World} {b:Nat} {h:List UInt32} {k:List UInt8} {held size:Nat} {row:Option Nat} (H:Hsh w b h k held size) (hg:w.grownBy w' row) (hn:some b ≠ row):Hsh w' b h k held size:=by
 have hc:∀ j,w'.cell? ⟨b,j,none⟩=w.cell? ⟨b,j,none⟩:=fun j=>hg.cell_far _ H.lt hn
 have hf:∀ j,w'.frozen? ⟨b,j,none⟩=w.frozen? ⟨b,j,none⟩:=fun j=>hg.frozen_far _ H.lt hn
 exact ⟨H.hl,H.kl,fun j hj=>(hc j).trans (H.hs j hj),fun j hj=>(hc _).trans (H.ks j hj),(hc _).trans H.hd,(hc _).trans H.sz,fun j hj=>(hf j).trans (H.fr j hj)⟩
theorem Hsh.below {w w':World} {b:Nat} {h:List UInt32} {k:List UInt8} {held size:Nat} (H:Hsh w b h k held size) (hg:Below w.heap.size w w'):Hsh w' b h k held size:=H.kept (grownBy_of_below hg none) (by simp)
theorem Hsh.drew {w:World} {b:Nat} {h:List UInt32} {k:List UInt8} {held size:Nat} (H:Hsh w b h k held size):Hsh w.drew b h k held size:=H.kept (grownBy_drew w none) (by simp)
theorem getD_set {α:Type} (l:List α) (i j:Nat) (v d:α) (hi:i < l.length):(l.set i v).getD j d=if j=i then v else l.getD j d:=by
 rw [List.getD_eq_getElem?_getD,List.getD_eq_getElem?_getD]
 by_cases e:j=i
 · subst e;rw [List.getElem?_set_self hi,if_pos rfl];rfl
 · rw [List.getElem?_set_ne (fun e'=>e e'.symm),if_neg e]
section
variable {w:World} {b:Nat} {h:List UInt32} {k:List UInt8} {held size:Nat}
theorem cell_set_ne (w:World) (b i j:Nat) (v:Value) (hn:j ≠ i):(w.setCell ⟨b,i,none⟩ v).cell? ⟨b,j,none⟩=w.cell? ⟨b,j,none⟩:=World.cell?_setCell_other _ _ _ _ (fun e=>hn (by cases e;rfl))
theorem Hsh.setHeld (H:Hsh w b h k held size) (n:Nat):Hsh (w.setCell ⟨b,72,none⟩ (.int .i64 (n:Int))) b h k n size:=by
 refine ⟨H.hl,H.kl,fun j hj=>?_,fun j hj=>?_,World.cell?_setCell_same _ _ _ H.hd,?_,fun j hj=>by rw [World.frozen?_setCell];exact H.fr j hj⟩
 · rw [cell_set_ne _ _ _ _ _ (by omega)];exact H.hs j hj
 · rw [cell_set_ne _ _ _ _ _ (by omega)];exact H.ks j hj
 · rw [cell_set_ne _ _ _ _ _ (by omega)];exact H.sz
theorem Hsh.setSize (H:Hsh w b h k held size) (n:Nat):Hsh (w.setCell ⟨b,73,none⟩ (.int .u64 (n:Int))) b h k held n:=by
 refine ⟨H.hl,H.kl,fun j hj=>?_,fun j hj=>?_,?_,World.cell?_setCell_same _ _ _ H.sz,fun j hj=>by rw [World.frozen?_setCell];exact H.fr j hj⟩
 · rw [cell_set_ne _ _ _ _ _ (by omega)];exact H.hs j hj
 · rw [cell_set_ne _ _ _ _ _ (by omega)];exact H.ks j hj
 · rw [cell_set_ne _ _ _ _ _ (by omega)];exact H.hd
theorem Hsh.setByte (H:Hsh w b h k held size) (i:Nat) (hi:i < 64) (v:UInt8):Hsh (w.setCell ⟨b,8 + i,none⟩ (.int .u8 (v.toNat:Int))) b h (k.set i v) held size:=by
 refine ⟨H.hl,by rw [List.length_set];exact H.kl,fun j hj=>?_,fun j hj=>?_,?_,?_,fun j hj=>by rw [World.frozen?_setCell];exact H.fr j hj⟩
 · rw [cell_set_ne _ _ _ _ _ (by omega)];exact H.hs j hj
 · rw [getD_set k i j v 0 (by rw [H.kl];exact hi)]
   by_cases e:j=i
   · subst e;rw [if_pos rfl];exact World.cell?_setCell_same _ _ _ (H.ks j hj)
   · rw [if_neg e,cell_set_ne _ _ _ _ _ (by omega)];exact H.ks j hj
 · rw [cell_set_ne _ _ _ _ _ (by omega)];exact H.hd
 · rw [cell_set_ne _ _ _ _ _ (by omega)];exact H.sz
theorem Hsh.setWord (H:Hsh w b h k held size) (i:Nat) (hi:i < 8) (v:UInt32):Hsh (w.setCell ⟨b,i,none⟩ (.int .u32 (v.toNat:Int))) b (h.set i v) k held size:=by
 refine ⟨by rw [List.length_set];exact H.hl,H.kl,fun j hj=>?_,fun j hj=>?_,?_,?_,fun j hj=>by rw [World.frozen?_setCell];exact H.fr j hj⟩
 · rw [getD_set h i j v 0 (by rw [H.hl];exact hi)]
   by_cases e:j=i
   · subst e;rw [if_pos rfl];exact World.cell?_setCell_same _ _ _ (H.hs j hj)
   · rw [if_neg e,cell_set_ne _ _ _ _ _ (by omega)];exact H.hs j hj
 · rw [cell_set_ne _ _ _ _ _ (by omega)];exact H.ks j hj
 · rw [cell_set_ne _ _ _ _ _ (by omega)];exact H.hd
 · rw [cell_set_ne _ _ _ _ _ (by omega)];exact H.sz
end
def arr (m:List UInt8) (q:Nat):List UInt32:=sched m q ++ List.replicate (64 - q) 0
theorem arr_getD (m:List UInt8) (q j:Nat) (hj:j < q):(arr m q).getD j 0=(sched m q).getD j 0:=by
 rw [List.getD_eq_getElem?_getD,List.getD_eq_getElem?_getD,arr,List.getElem?_append_left (by rw [sched_length];exact hj)]
theorem arr_set (m:List UInt8) (q:Nat) (hq:q < 64) (v:UInt32):(arr m q).set q v=(sched m q ++ [v]) ++ List.replicate (64 - (q + 1)) 0:=by
 have e:64 - q=(64 - (q + 1)) + 1:=by omega
 rw [arr,e,List.replicate_succ,List.set_append_right _ _ (by rw [sched_length];exact Nat.le_refl _),sched_length,Nat.sub_self]
 simp
theorem arr_lo (m:List UInt8) (q p:Nat) (b0 b1 b2 b3:UInt8) (hq:q < 16) (hp:p=4 * q)
 (hb:m.getD p 0=b0 /\ m.getD (p + 1) 0=b1 /\ m.getD (p + 2) 0=b2 /\ m.getD (p + 3) 0=b3) :
 ((arr m q).map U).set q (.int .u32 (bits BinOp.or IntKind.u32 (bits BinOp.or IntKind.u32 (bits BinOp.or IntKind.u32 (IntKind.u32.wrap (IntKind.u32.wrap (b0.toNat:Int) * 16777216)) (IntKind.u32.wrap (IntKind.u32.wrap (b1.toNat:Int) * 65536)))
  (IntKind.u32.wrap (IntKind.u32.wrap (b2.toNat:Int) * 256))) (IntKind.u32.wrap (b3.toNat:Int))))=(arr m (q + 1)).map U:=by
 rw [word_form]
 show ((arr m q).map U).set q (U _)=_
 rw [<- List.map_set,arr_set m q (by omega)]
 obtain ⟨h0,h1,h2,h3⟩:=hb
 subst hp
 rw [<- h0,<- h1,<- h2,<- h3]
 show _=((sched m q ++ [_]) ++ _).map U
 rw [if_pos hq]
theorem arr_hi (m:List UInt8) (q:Nat) (x16 x15 x7 x2:UInt32) (hq:16 <= q) (hq2:q < 64)
 (hb:(sched m q).getD (q - 16) 0=x16 /\ (sched m q).getD (q - 15) 0=x15 /\ (sched m q).getD (q - 7) 0=x7 /\ (sched m q).getD (q - 2) 0=x2) :
 ((arr m q).map U).set q (.int .u32 (IntKind.u32.wrap (IntKind.u32.wrap (IntKind.u32.wrap (((sumNear x2).toNat:Int) + x7.toNat) + (sumFar x15).toNat) + x16.toNat)))=(arr m (q + 1)).map U:=by
 rw [wrap_add,wrap_add,wrap_add]
 show ((arr m q).map U).set q (U _)=_
 rw [<- List.map_set,arr_set m q hq2]
 obtain ⟨h0,h1,h2,h3⟩:=hb
 rw [<- h0,<- h1,<- h2,<- h3]
 show _=((sched m q ++ [_]) ++ _).map U
 rw [if_neg (by omega)]
 congr 4
 generalize (sched m q).getD (q - 16) 0=a
 generalize sumFar ((sched m q).getD (q - 15) 0)=c
 generalize (sched m q).getD (q - 7) 0=d
 generalize sumNear ((sched m q).getD (q - 2) 0)=e
 ac_rfl
theorem arr_full (m:List UInt8):arr m 64=sched m 64:=by simp [arr]
theorem cell_set_far (w:World) (g i b j:Nat) (v:Value) (hne:b ≠ g):(w.setCell ⟨g,i,none⟩ v).cell? ⟨b,j,none⟩=w.cell? ⟨b,j,none⟩:=World.cell?_setCell_other _ _ _ _ (fun e=>hne (by cases e;rfl))
def addTo (h v:List UInt32):Nat -> List UInt32
 | 0=>h
 | i + 1=>(addTo h v i).set i ((addTo h v i).getD i 0 + v.getD i 0)
theorem addTo_comp (m:List UInt8) (W:List UInt32) (x0 x1 x2 x3 x4 x5 x6 x7 va vb vc vd ve vf vg vz:UInt32)
 (hw:sched m 64=W) (hr:rnds W ⟨x0,x1,x2,x3,x4,x5,x6,x7⟩ 64=⟨va,vb,vc,vd,ve,vf,vg,vz⟩) :
 addTo [x0,x1,x2,x3,x4,x5,x6,x7] [va,vb,vc,vd,ve,vf,vg,vz] 8=comp [x0,x1,x2,x3,x4,x5,x6,x7] m:=by
 unfold comp ofL
 rw [hw]
 show _=[x0 + (rnds W ⟨x0,x1,x2,x3,x4,x5,x6,x7⟩ 64).a,x1 + (rnds W ⟨x0,x1,x2,x3,x4,x5,x6,x7⟩ 64).b,x2 + (rnds W ⟨x0,x1,x2,x3,x4,x5,x6,x7⟩ 64).c,x3 + (rnds W ⟨x0,x1,x2,x3,x4,x5,x6,x7⟩ 64).d,
  x4 + (rnds W ⟨x0,x1,x2,x3,x4,x5,x6,x7⟩ 64).e,x5 + (rnds W ⟨x0,x1,x2,x3,x4,x5,x6,x7⟩ 64).f,x6 + (rnds W ⟨x0,x1,x2,x3,x4,x5,x6,x7⟩ 64).g,x7 + (rnds W ⟨x0,x1,x2,x3,x4,x5,x6,x7⟩ 64).z]
 rw [hr];rfl
theorem list8 (h:List UInt32) (hl:h.length=8):∃ x0 x1 x2 x3 x4 x5 x6 x7,h=[x0,x1,x2,x3,x4,x5,x6,x7]:=by
 match h,hl with
 | [x0,x1,x2,x3,x4,x5,x6,x7],_=>exact ⟨x0,x1,x2,x3,x4,x5,x6,x7,rfl⟩
end Go.Proofs.Sha
namespace Go.Proofs.Sha
open Go Go.RowKit
section
variable {P:Program} (w:World)
theorem wpList_box_row {ops:Array Oper} {rest:List Oper} {o:Oper} {a:Act} {Q:Exit -> Act -> World -> Prop} (hgd:o.guard=none) (dst:Option Tmp) (hdst:o.dst=dst) (ty:TypeId) (x:Operand) (ho:o.op=.box ty x) (xs:List Value) (hx:a.eval x=.agg xs.toArray)
 (h:∀ g w',Row w' w.heap.size g xs.length xs.length xs -> Below w.heap.size w w' -> wpList P ops Q rest (a.put dst (.pointer (some ⟨g,0,none⟩))) w'):wpList P ops Q (o :: rest) a w:=by
 refine Go.Great.wpList_runTo hgd dst hdst (.pointer (some ⟨w.heap.size,0,none⟩)) (w.alloc (.cells xs.toArray ty)) ?_ (h _ _ ?_ ((Below.refl _ _).alloc (Nat.le_refl _) _))
 · unfold execOp
   simp only [ho,hx]
   rfl
 · have:=Row.of_block (base:=w.heap.size) (Nat.le_refl _) (heap_alloc_new w (.cells xs.toArray ty)) xs.length (by simp) (.inl rfl)
   simpa using this
theorem wpList_build_to {ops:Array Oper} {rest:List Oper} {o:Oper} {a:Act} {Q:Exit -> Act -> World -> Prop} (hgd:o.guard=none) (t:TypeId) (parts:Array (Nat × Operand)) (ho:o.op=.build t parts) (cells:Array Value)
 (hb:P.built t (parts.toList.map fun (i,x)=>(i,a.eval x))=some cells)
 (h:wpList P ops Q rest (a.put o.dst (.agg cells)) w):wpList P ops Q (o :: rest) a w:=by
 rw [<- Array.toList_map] at hb
 refine Go.Great.wpList_runTo hgd o.dst rfl (.agg cells) w ?_ h
 unfold execOp
 simp only [ho,Sem.run_bind,run_build w t _ cells hb,Result.andThen_ok,Sem.run_pure]
theorem ret_any {fn:Func} {R:Ending -> World -> Prop} {a:Act} {p:Tmp} {ty:TypeId} {d:TypeDesc} (hres:fn.results=#[.cell p ty]) (base g n cap:Nat) (xs:List Value) (ht:a.tmps.getD p undef=.pointer (some ⟨g,0,none⟩))
 (hr:Row w base g n cap xs) (hu:P.underlying ty=some d) (hd:d.isRow=true) (hi:(P.info? ty).map (·.size)=some n) (hdef:a.defers=[]) (hR:R (.returned (.agg xs.toArray)) w):bodyPost P fn R .ret a w:=by
 refine bodyPost_ret (v:=.agg xs.toArray) ?_ hdef hR
 rw [results_cell w hres a.tmps _ ht]
 exact run_loadVar_mid w g 0 ty xs _ hr.range hu hd (by rw [hi,hr.len])
theorem Row.prefix {w:World} {base g n cap:Nat} {xs ys:List Value} (h:Row w base g n cap (xs ++ ys)):w.rangeAt g 0 xs:=fun j v hv=>by
 refine h.range j v ?_
 rw [List.getElem?_append_left (List.getElem?_eq_some_iff.1 hv).1,hv]
end
end Go.Proofs.Sha
namespace Go.Proofs.YtibjhkpgaaapaaaGreatDoor
open Go.RowKit Go.Proofs.Sha Tryz
def byteS (n:Nat):ByteArray:=⟨#[UInt8.ofNat n]⟩
theorem byte_form (n:Nat):Value.int .u8 ((n:Int) % 256)=B (UInt8.ofNat n):=by
 unfold B
 rw [UInt8.toNat_ofNat']
 show Value.int .u8 _=Value.int .u8 ((n % 256:Nat):Int)
 rw [Int.natCast_emod];rfl
theorem byte_any (n:Nat) (_hn:n <= 1048576) (w:World) :
 Calls prog 91 #[.int .i64 (n:Int)] w fun e w'=>e=.returned (.string (byteS n)) /\ Below w.heap.size w w':=by
 have hrow:Row (w.alloc (.cells #[.int .u8 ((n:Int) % 256)] 5)) w.heap.size w.heap.size 1 1 ([UInt8.ofNat n].map B):=by
  have e:[UInt8.ofNat n].map B=[.int .u8 ((n:Int) % 256)]:=by rw [byte_form];rfl
  rw [e]
  exact Row.of_block (Nat.le_refl _) (heap_alloc_new w (.cells #[.int .u8 ((n:Int) % 256)] 5)) 1 (by simp) (.inl rfl)
 go_enter func91,ntmps91
 go_wp2_with (refine wpList_string_row _ rfl (.tmp 5) 41 9 5 rfl w.heap.size w.heap.size 1 1 [UInt8.ofNat n] rfl hrow Tryz.underlying41 Tryz.underlying5 Tryz.underlying9 ?_)
 go_ret
 exact ⟨rfl,(Below.refl _ _).alloc (Nat.le_refl _) _⟩
theorem byte_i (m:Int) (h0:0 <= m) (h1:m <= 1048576) (w:World) :
 Calls prog 91 #[.int .i64 m] w fun e w'=>∃ t:ByteArray,e=.returned (.string t) /\ t.size <= 1 /\ Hid (t=byteS m.toNat) /\ Below w.heap.size w w':=by
 obtain ⟨n,rfl⟩:=Int.eq_ofNat_of_zero_le h0
 rw [Int.toNat_natCast]
 exact (byte_any n (by omega) w).mono fun e w' ⟨he,hb⟩=>⟨_,he,Nat.le_refl _,rfl,hb⟩
def T (l:List UInt8):ByteArray:=⟨l.toArray⟩
theorem T_data (l:List UInt8):(T l).data.toList=l:=rfl
theorem T_size (l:List UInt8):(T l).size=l.length:=rfl
theorem T_of (s:ByteArray):T s.data.toList=s:=by cases s;rfl
theorem T_append (a b:List UInt8):T a ++ T b=T (a ++ b):=by
 apply ByteArray.ext
 show (T a ++ T b).data=_
 rw [ByteArray.data_append]
 apply Array.ext'
 simp [T]
def sized (l:List UInt8):List UInt8:=UInt8.ofNat (l.length / 256) :: UInt8.ofNat (l.length % 256) :: l
theorem byteS_T (n:Nat):byteS n=T [UInt8.ofNat n]:=rfl
theorem sized_any (l:List UInt8) (hl:l.length <= 1048576) (w:World) :
 Calls prog 90 #[.string (T l)] w fun e w'=>e=.returned (.string (T (sized l))) /\ Below w.heap.size w w':=by
 have hs:=T_size l
 obtain ⟨s,hS⟩:∃ s,T l=s:=⟨_,rfl⟩
 rw [hS] at hs
 rw [hS]
 have HS:Hid (T l=s /\ s.size=l.length):=⟨hS,hs⟩
 have hs2:s.size <= 1048576:=by omega
 clear hS hs
 go_enter func90,ntmps90
 go_wp2_with fail
 refine (byte_i _ (by omega) (by omega) _).mono ?_
 rintro e w1 ⟨t1,rfl,hz1,HT1,hb1⟩
 go_wp2_with fail
 refine (byte_i _ (by omega) (by omega) _).mono ?_
 rintro e w2 ⟨t2,rfl,hz2,HT2,hb2⟩
 go_wp2
 go_ret
 refine ⟨congrArg (fun z=>Ending.returned (.string z)) ?_,hb1.trans (hb2.mono hb1.size)⟩
 show t1 ++ t2 ++ s=T (sized l)
 rw [HT1.out,HT2.out,byteS_T,byteS_T,<- HS.out.1,T_append,T_append]
 have e1:((T l).size / 256:Int).toNat=l.length / 256:=by rw [T_size];omega
 have e2:((T l).size % 256:Int).toNat=l.length % 256:=by rw [T_size];omega
 rw [e1,e2];rfl
def hashOk (n:Nat) (w:Int):Bool:=decide (n=0) || decide ((n:Int)=w)
theorem hashOk_any (s:ByteArray) (k:Int) (w:World) (_hs:s.size <= 1048576) :
 Calls prog 82 #[.string s,.int .i64 k] w fun e w'=>e=.returned (.bool (hashOk s.size k)) /\ w=w':=by
 by_cases h0:s.size=0
 · have c0:((s.size:Int) == 0)=true:=by rw [h0];rfl
   have HR:Hid (hashOk s.size k=true):=by show hashOk s.size k=true;unfold hashOk;simp [h0]
   clear h0
   go_enter func82,ntmps82
   go_wp2
   go_ret
   exact ⟨by rw [HR.out];rfl,rfl⟩
 · have c0:((s.size:Int) == 0)=false:=by rw [beq_eq_false_iff_ne];omega
   have HR:Hid (hashOk s.size k=((s.size:Int) == k)):=by
    show hashOk s.size k=((s.size:Int) == k)
    unfold hashOk;rw [decide_eq_false h0,Bool.false_or,Bool.eq_iff_iff];simp
   clear h0
   go_enter func82,ntmps82
   go_wp2
   go_ret
   exact ⟨by rw [HR.out];rfl,rfl⟩
def nodeOk (k v l r:Nat) (w:Int):Bool:=decide (1 <= w /\ w <= 32 /\ 1 <= k /\ k <= 256 /\ v <= 2000) && (hashOk l w && hashOk r w)
theorem nodeOk_any (k v l r:ByteArray) (n:Int) (w:World) (hk:k.size <= 1048576) (hv:v.size <= 1048576) (hl:l.size <= 1048576) (hr:r.size <= 1048576) :
 Calls prog 89 #[.agg #[.string k,.string v,.string l,.string r],.int .i64 n] w fun e w'=>e=.returned (.bool (nodeOk k.size v.size l.size r.size n)) /\ Below w.heap.size w w':=by
 have hfin:Below w.heap.size w (w.alloc (.cells #[.string k,.string v,.string l,.string r] 73)):=(Below.refl _ _).alloc (Nat.le_refl _) _
 by_cases h1:n < 1
 · have HR:Hid (nodeOk k.size v.size l.size r.size n=false):=by
    show nodeOk k.size v.size l.size r.size n=false
    unfold nodeOk;rw [decide_eq_false (by omega),Bool.false_and]
   have c1:decide (1 <= n)=false:=by simpa using h1
   go_enter func89,ntmps89
   go_wp2_with (first | (go_at_call 82;refine (hashOk_any _ _ _ (by assumption)).mono ?_;rintro e w' ⟨rfl,rfl⟩) | go_in)
   go_ret
   exact ⟨by rw [HR.out];rfl,hfin⟩
 by_cases h2:32 < n
 · have HR:Hid (nodeOk k.size v.size l.size r.size n=false):=by
    show nodeOk k.size v.size l.size r.size n=false
    unfold nodeOk;rw [decide_eq_false (by omega),Bool.false_and]
   have c1:decide (1 <= n)=true:=by simp;omega
   have c2:decide (n <= 32)=false:=by simpa using h2
   go_enter func89,ntmps89
   go_wp2_with (first | (go_at_call 82;refine (hashOk_any _ _ _ (by assumption)).mono ?_;rintro e w' ⟨rfl,rfl⟩) | go_in)
   go_ret
   exact ⟨by rw [HR.out];rfl,hfin⟩
 by_cases h3:k.size < 1
 · have HR:Hid (nodeOk k.size v.size l.size r.size n=false):=by
    show nodeOk k.size v.size l.size r.size n=false
    unfold nodeOk;rw [decide_eq_false (by omega),Bool.false_and]
   have c1:decide (1 <= n)=true:=by simp;omega
   have c2:decide (n <= 32)=true:=by simp;omega
   have c3:decide ((k.size:Int) < 1)=true:=by simp;omega
   go_enter func89,ntmps89
   go_wp2_with (first | (go_at_call 82;refine (hashOk_any _ _ _ (by assumption)).mono ?_;rintro e w' ⟨rfl,rfl⟩) | go_in)
   go_ret
   exact ⟨by rw [HR.out];rfl,hfin⟩
 by_cases h4:256 < k.size
 · have HR:Hid (nodeOk k.size v.size l.size r.size n=false):=by
    show nodeOk k.size v.size l.size r.size n=false
    unfold nodeOk;rw [decide_eq_false (by omega),Bool.false_and]
   have c1:decide (1 <= n)=true:=by simp;omega
   have c2:decide (n <= 32)=true:=by simp;omega
   have c3:decide ((k.size:Int) < 1)=false:=by simp;omega
   have c4:decide ((256:Int) < (k.size:Int))=true:=by simp;omega
   go_enter func89,ntmps89
   go_wp2_with (first | (go_at_call 82;refine (hashOk_any _ _ _ (by assumption)).mono ?_;rintro e w' ⟨rfl,rfl⟩) | go_in)
   go_ret
   exact ⟨by rw [HR.out];rfl,hfin⟩
 by_cases h5:2000 < v.size
 · have HR:Hid (nodeOk k.size v.size l.size r.size n=false):=by
    show nodeOk k.size v.size l.size r.size n=false
    unfold nodeOk;rw [decide_eq_false (by omega),Bool.false_and]
   have c1:decide (1 <= n)=true:=by simp;omega
   have c2:decide (n <= 32)=true:=by simp;omega
   have c3:decide ((k.size:Int) < 1)=false:=by simp;omega
   have c4:decide ((256:Int) < (k.size:Int))=false:=by simp;omega
   have c5:decide ((2000:Int) < (v.size:Int))=true:=by simp;omega
   go_enter func89,ntmps89
   go_wp2_with (first | (go_at_call 82;refine (hashOk_any _ _ _ (by assumption)).mono ?_;rintro e w' ⟨rfl,rfl⟩) | go_in)
   go_ret
   exact ⟨by rw [HR.out];rfl,hfin⟩
 by_cases h6:hashOk l.size n=false
 · have HR:Hid (nodeOk k.size v.size l.size r.size n=false):=by
    show nodeOk k.size v.size l.size r.size n=false
    unfold nodeOk;rw [decide_eq_true (by omega),Bool.true_and,h6,Bool.false_and]
   have c1:decide (1 <= n)=true:=by simp;omega
   have c2:decide (n <= 32)=true:=by simp;omega
   have c3:decide ((k.size:Int) < 1)=false:=by simp;omega
   have c4:decide ((256:Int) < (k.size:Int))=false:=by simp;omega
   have c5:decide ((2000:Int) < (v.size:Int))=false:=by simp;omega
   go_enter func89,ntmps89
   go_wp2_with (first | (go_at_call 82;refine (hashOk_any _ _ _ (by assumption)).mono ?_;rintro e w' ⟨rfl,rfl⟩) | go_in)
   go_ret
   exact ⟨by rw [HR.out];rfl,hfin⟩
 have h6':hashOk l.size n=true:=by simpa using h6
 clear h6
 have HR:Hid (nodeOk k.size v.size l.size r.size n=hashOk r.size n):=by
  show nodeOk k.size v.size l.size r.size n=hashOk r.size n
  unfold nodeOk;rw [decide_eq_true (by omega),Bool.true_and,h6',Bool.true_and]
 have c1:decide (1 <= n)=true:=by simp;omega
 have c2:decide (n <= 32)=true:=by simp;omega
 have c3:decide ((k.size:Int) < 1)=false:=by simp;omega
 have c4:decide ((256:Int) < (k.size:Int))=false:=by simp;omega
 have c5:decide ((2000:Int) < (v.size:Int))=false:=by simp;omega
 go_enter func89,ntmps89
 go_wp2_with (first | (go_at_call 82;refine (hashOk_any _ _ _ (by assumption)).mono ?_;rintro e w' ⟨rfl,rfl⟩) | go_in)
 go_ret
 exact ⟨by rw [HR.out];rfl,hfin⟩
theorem sized_b (s:ByteArray) (_hs:s.size <= 2097152) (hs':s.size <= 1048576) (w:World) :
 Calls prog 90 #[.string s] w fun e w'=>∃ t:ByteArray,e=.returned (.string t) /\ t.size <= s.size + 2 /\ Hid (t=T (sized s.data.toList)) /\ Below w.heap.size w w':=by
 have:=sized_any s.data.toList hs' w
 rw [T_of] at this
 exact this.mono fun e w' ⟨he,hb⟩=>⟨_,he,Nat.le_refl _,rfl,hb⟩
def flagOf (l r:Nat):Nat:=(if l=0 then 0 else 1) + (if r=0 then 0 else 2)
def encL (k v l r:List UInt8):List UInt8:=sized k ++ sized v ++ [UInt8.ofNat (flagOf l.length r.length)] ++ l ++ r
theorem enc_no (k v l r:ByteArray) (n:Int) (w:World) (hk:k.size <= 1048576) (hv:v.size <= 1048576) (hl:l.size <= 1048576) (hr:r.size <= 1048576) (hok:nodeOk k.size v.size l.size r.size n=false) :
 Calls prog 40 #[.agg #[.string k,.string v,.string l,.string r],.int .i64 n] w fun e w'=>e=.returned (.string ⟨#[]⟩) /\ Below w.heap.size w w':=by
 have HC:Hid (∀ w',Calls prog 89 #[.agg #[.string k,.string v,.string l,.string r],.int .i64 n] w' fun e w''=>e=.returned (.bool false) /\ Below w'.heap.size w' w''):=fun w'=>by
  have:=nodeOk_any k v l r n w' hk hv hl hr
  rw [hok] at this;exact this
 clear hok
 go_enter func40,ntmps40
 go_wp2_with fail
 refine (HC.out _).mono ?_
 rintro e w1 ⟨rfl,hb1⟩
 go_wp2
 go_ret
 exact ⟨rfl,((Below.refl _ _).alloc (Nat.le_refl _) _).trans (hb1.mono (by simp))⟩
theorem enc_yes (k v l r:ByteArray) (n:Int) (w:World) (hk:k.size <= 1048576) (hv:v.size <= 1048576) (hl:l.size <= 1048576) (hr:r.size <= 1048576) (hok:nodeOk k.size v.size l.size r.size n=true) :
 Calls prog 40 #[.agg #[.string k,.string v,.string l,.string r],.int .i64 n] w fun e w'=>e=.returned (.string (T (encL k.data.toList v.data.toList l.data.toList r.data.toList))) /\ Below w.heap.size w w':=by
 have HC:Hid (∀ w',Calls prog 89 #[.agg #[.string k,.string v,.string l,.string r],.int .i64 n] w' fun e w''=>e=.returned (.bool true) /\ Below w'.heap.size w' w''):=fun w'=>by
  have:=nodeOk_any k v l r n w' hk hv hl hr
  rw [hok] at this;exact this
 clear hok
 by_cases h1:l.size=0
 all_goals by_cases h2:r.size=0
 all_goals
  have HF:Hid (flagOf l.data.toList.length r.data.toList.length=flagOf l.size r.size):=rfl
  have H12:Hid ((l.size=0 ↔ ¬ 0 < l.size) /\ (r.size=0 ↔ ¬ 0 < r.size)):=⟨by omega,by omega⟩
  go_enter func40,ntmps40
  go_wp2_with fail
  refine (HC.out _).mono ?_
  rintro e w1 ⟨rfl,hb1⟩
  have hs1:w.heap.size < w1.heap.size:=by have:=hb1.size;simp at this;omega
  have c0:w1.cell? ⟨w.heap.size,0,none⟩=some (.string k):=(hb1.cell (by simp)).trans (by simp)
  have c1:w1.cell? ⟨w.heap.size,1,none⟩=some (.string v):=(hb1.cell (by simp)).trans (by simp)
  have c2:w1.cell? ⟨w.heap.size,2,none⟩=some (.string l):=(hb1.cell (by simp)).trans (by simp)
  have c3:w1.cell? ⟨w.heap.size,3,none⟩=some (.string r):=(hb1.cell (by simp)).trans (by simp)
  have hbw:Below w.heap.size w w1:=((Below.refl _ _).alloc (Nat.le_refl _) _).trans (hb1.mono (by simp))
  clear hb1
  go_wp2_with fail
  go_region_held3 (fun w'=>w.heap.size < w'.heap.size /\ w'.cell? ⟨w.heap.size,0,none⟩=some (.string k) /\ w'.cell? ⟨w.heap.size,1,none⟩=some (.string v) /\ w'.cell? ⟨w.heap.size,2,none⟩=some (.string l) /\ w'.cell? ⟨w.heap.size,3,none⟩=some (.string r))
   (first | exact ⟨hs1,c0,c1,c2,c3⟩ | (go_split_ands;refine ⟨Nat.lt_of_lt_of_le (by assumption) hbC.size,?_,?_,?_,?_⟩ <;> (rw [hbC.cell (by assumption)];assumption)) | (go_split_ands;refine ⟨Nat.lt_of_lt_of_le (by assumption) hbB.size,?_,?_,?_,?_⟩ <;> (rw [hbB.cell (by assumption)];assumption)) | (go_split_ands;refine ⟨Nat.lt_of_lt_of_le (by assumption) hbA.size,?_,?_,?_,?_⟩ <;> (rw [hbA.cell (by assumption)];assumption)))
   (first | (go_at_call_of 90 (Value.string k);refine (sized_b k (by omega) hk _).mono ?_;rintro e wA ⟨tA,rfl,zA,HA,hbA⟩) | (go_at_call_of 90 (Value.string v);refine (sized_b v (by omega) hv _).mono ?_;rintro e wB ⟨tB,rfl,zB,HB,hbB⟩;have fB:¬ (9223372036854775807 < tA.size + tB.size):=(by omega)) | (go_at_call 91;refine (byte_i _ (by omega) (by omega) _).mono ?_;rintro e wC ⟨tC,rfl,zC,HCC,hbC⟩;have fC:¬ (9223372036854775807 < tA.size + tB.size + tC.size):=(by omega);have fD:¬ (9223372036854775807 < tA.size + tB.size + tC.size + l.size):=(by omega);have fE:¬ (9223372036854775807 < tA.size + tB.size + tC.size + l.size + r.size):=(by omega);have fF:¬ (9223372036854775807 < tA.size + tB.size + tC.size + r.size):=(by omega)))
  go_wp2
  go_ret
  refine ⟨congrArg (fun z=>Ending.returned (.string z)) ?_,?_⟩
  · show tA ++ tB ++ tC ++ l ++ r=_
    rw [HA.out,HB.out,HCC.out,byteS_T]
    conv=>lhs;rw [<- T_of l,<- T_of r]
    rw [T_append,T_append,T_append,T_append]
    unfold encL
    rw [HF.out]
    unfold flagOf
    simp [h1,h2]
  · exact hbw.trans ((((Below.refl _ w1).drew.trans hbA).trans (hbB.mono hbA.size)).trans (hbC.mono (Nat.le_trans hbA.size hbB.size)) |>.mono (Nat.le_of_lt hs1))
theorem empty_iff (l:ByteArray):l.toList.isEmpty=decide (l.size=0):=by
 rw [ByteArray.toList_eq]
 have:l.data.toList.length=l.size:=rfl
 cases h:l.data.toList with
 | nil =>
  rw [h,List.length_nil] at this
  simp [<- this]
 | cons a t =>
  rw [h,List.length_cons] at this
  have h0:¬ l.size=0:=by omega
  simp [h0]
theorem flags_any (k v l r:ByteArray) (w:World) :
 Calls prog 248 #[.agg #[.string k,.string v,.string l,.string r]] w fun e w'=>e=.returned (.int .i64 (flagOf l.size r.size:Int)) /\ Below w.heap.size w w':=by
 have hb:Below w.heap.size w (w.alloc (.cells #[.string k,.string v,.string l,.string r] 73)):=(Below.refl _ _).alloc (Nat.le_refl _) _
 by_cases h1:l.size=0
 all_goals by_cases h2:r.size=0
 all_goals
  have HF:Hid (∃ f,flagOf l.size r.size=f /\ f=(if l.size=0 then 0 else 1) + (if r.size=0 then 0 else 2)):=⟨_,rfl,rfl⟩
  have e1:=empty_iff l
  have e2:=empty_iff r
  simp only [h1,h2,decide_true,decide_false] at e1 e2
  clear h1 h2
  go_enter func248,ntmps248
  go_wp2
  go_ret
  obtain ⟨f,hf,hf2⟩:=HF.out
  refine ⟨?_,hb⟩
  rw [hf,hf2]
  rw [empty_iff] at e1 e2
  simp at e1 e2
  simp [e1,e2]
theorem kept_any (w:World):Calls prog 170 #[] w fun e w'=>e=.returned (.agg #[.int .i64 2,.bool false]) /\ Below w.heap.size w w':=by
 go_enter func170,ntmps170
 go_wp2
 have c0:=ZC (heap_alloc_new w (.cells #[.int .i64 2,.bool false] 261)) 0
 have c1:=ZC (heap_alloc_new w (.cells #[.int .i64 2,.bool false] 261)) 1
 refine bodyPost_ret (v:=.agg #[.int .i64 2,.bool false]) ?_ rfl ⟨rfl,(Below.refl _ _).alloc (Nat.le_refl _) _⟩
 simp [results,Tryz.results170,go_sem,asAddr,c0,c1]
theorem link_any (n f:Int) (w:World):Calls prog 245 #[.agg #[.int .i64 n],.int .i64 f] w fun e w'=>e=.returned (.agg #[.int .i64 (if f=0 then 0 else n)]) /\ Below w.heap.size w w':=by
 have hb:∀ x,Below w.heap.size w ((w.alloc (.cells #[.int .i64 n] 285)).alloc (.cells #[.int .i64 x] 214)):=fun x=>((Below.refl _ _).alloc (Nat.le_refl _) _).alloc (by simp) _
 have c0:∀ x,((w.alloc (.cells #[.int .i64 n] 285)).alloc (.cells #[.int .i64 x] 214)).cell? ⟨w.heap.size + 1,0,none⟩=some (.int .i64 x):=fun x=>by
  have:=ZC (heap_alloc_new (w.alloc (.cells #[.int .i64 n] 285)) (.cells #[.int .i64 x] 214)) 0
  rw [show (w.alloc (.cells #[.int .i64 n] 285)).heap.size=w.heap.size + 1 by simp] at this
  exact this
 by_cases h:f=0
 · rw [if_pos h]
   subst h
   go_enter func245,ntmps245
   go_wp2
   refine bodyPost_ret (v:=.agg #[.int .i64 0]) ?_ rfl ⟨rfl,hb _⟩
   simp [results,Tryz.results245,go_sem,asAddr]
 · rw [if_neg h]
   go_enter func245,ntmps245
   go_wp2
   refine bodyPost_ret (v:=.agg #[.int .i64 n]) ?_ rfl ⟨rfl,hb _⟩
   simp [results,Tryz.results245,go_sem,asAddr]
theorem wsized2 (b:Nat) (s:ByteArray) (l:List UInt8) (w:World) (h:Bld b l w) (hl:l.length + s.size <= 8000000) :
 Calls prog 224 #[.pointer (some ⟨b,0,none⟩),.iface 261 (.agg #[.int .i64 2,.bool false]),.string s] w fun e w'=>e=.returned (.tuple #[]) /\ Put b (l ++ sized s.data.toList) w w':=by
 have:=wsized 2 false b s l w (by omega) (by omega) h hl
 have e0:∀ x:Nat,UInt8.ofNat (x % 256)=UInt8.ofNat x:=fun x=>by apply UInt8.toNat.inj;simp
 have e:numTo 2 false s.size 2=[UInt8.ofNat (s.size / 256),UInt8.ofNat (s.size % 256)]:=by simp [numTo,numByte,e0]
 rw [e,List.append_assoc] at this
 exact this
theorem link_ex (n f:Int) (w:World):Calls prog 245 #[.agg #[.int .i64 n],.int .i64 f] w fun e w'=>∃ p,e=.returned (.agg #[.int .i64 p]) /\ Below w.heap.size w w' :=
 (link_any n f w).mono (by rintro e w' ⟨rfl,hb⟩;exact ⟨_,rfl,hb⟩)
end Go.Proofs.YtibjhkpgaaapaaaGreatDoor
