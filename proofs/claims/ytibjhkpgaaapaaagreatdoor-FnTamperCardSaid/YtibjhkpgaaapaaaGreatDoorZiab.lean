import Derived.Test.YtibjhkpgaaapaaaGreatDoorZiaa
import Derived.Deep.AppendLies
import Derived.WalkKit
import Derived.Laws.BytesArg
import Derived.Test.YtibjhkpgaaapaaaGreatDoorProg
import Derived.WalkSpells
import Derived.WalkLawsBesides
import Derived.StillTactics
import Derived.Laws.Pointers
import Derived.Deep.RegionHeld3
set_option maxRecDepth 100000
set_option maxHeartbeats 2000000
namespace Go.Proofs.Sha
open Go Go.RowKit
theorem qbx (w:World)(row:Option Nat):w.grownBy w row:=⟨rfl,rfl,rfl,Nat.le_refl _,λ_ _ _=>rfl⟩
theorem qad {a b c:World}{row:Option Nat}(h:a.grownBy b row)(k:b.grownBy c row):a.grownBy c row :=
 ⟨k.os.trans h.os,k.tape.trans h.tape,k.output.trans h.output,Nat.le_trans h.size k.size,λi hi hn=>(k.block i (Nat.lt_of_lt_of_le hi h.size) hn).trans (h.block i hi hn)⟩
theorem qae (w:World)(b o:Nat)(v:Value):w.grownBy (w.setCell ⟨b,o,none⟩ v) (some b) :=
 ⟨rfl,rfl,rfl,by simp[World.setCell],λk _ hn=>Below.heap_setCell _ _ _ _ (λe=>hn (by rw[e]))⟩
theorem qbu (w:World)(row:Option Nat):w.grownBy w.drew row:=⟨rfl,rfl,rfl,Nat.le_refl _,λ_ _ _=>rfl⟩
theorem qav {a b:World}{row:Option Nat}(h:a.grownBy b row):a.grownBy b.drew row:=qad h (qbu _ _)
theorem grownBy_allocR {a b:World}{row:Option Nat}(h:a.grownBy b row)(o:Obj):a.grownBy (b.alloc o) row:=qad h (World.grownBy_alloc _ _ _)
theorem qat (b:Nat):∀ (vs:List Value) (o:Nat) (w:World),w.grownBy (w.setCells b o vs) (some b)
 | [],_,w=>qbx w _
 | v :: r,o,w=>by rw[World.setCells];exact qad (qae w b o v) (qat b r (o+1) _)
theorem qay {w w':World}(h:Below w.heap.size w w')(row:Option Nat):w.grownBy w' row:=⟨h.os,h.tape,h.output,h.size,λk hk _=>h.block k hk⟩
theorem qah {B b:Nat}{w w':World}(h:w.grownBy w' (some b))(hb:B<=b)(hB:B<=w.heap.size):Below B w w' :=
 ⟨h.os,h.tape,h.output,h.size,λk hk=>h.block k (by omega) (by simp;omega)⟩
structure Row (w:World) (base g n cap:Nat) (xs:List Value):Prop where
 ge:base<=g
 lt:g<w.heap.size
 len:xs.length=n
 le:n<=cap
 cell:∀j,j<n->w.cell? ⟨g,j,none⟩=xs[j]?
 room:∀j,j<cap->(w.cell? ⟨g,j,none⟩).isSome=true
 free:∀j,j<cap->w.frozen? ⟨g,j,none⟩=false
theorem Row.kept {w w':World}{base g n cap:Nat}{xs:List Value}{row:Option Nat}(h:Row w base g n cap xs)(hg:w.grownBy w' row)(hn:some g ≠ row):Row w' base g n cap xs:=by
 have hc:∀j,w'.cell? ⟨g,j,none⟩=w.cell? ⟨g,j,none⟩:=λj=>hg.cell_far _ h.lt hn;have hf:∀j,w'.frozen? ⟨g,j,none⟩=w.frozen? ⟨g,j,none⟩:=λj=>hg.frozen_far _ h.lt hn;exact⟨h.ge,Nat.lt_of_lt_of_le h.lt hg.size,h.len,h.le,λj hj=>(hc j).trans (h.cell j hj),λj hj=>by rw[hc];exact h.room j hj,λj hj=>by rw[hf];exact h.free j hj⟩
theorem Row.alloc {w:World}{base g n cap:Nat}{xs:List Value}(h:Row w base g n cap xs)(o:Obj):Row (w.alloc o) base g n cap xs :=
 h.kept (World.grownBy_alloc w o none) (by simp)
theorem Row.drew {w:World}{base g n cap:Nat}{xs:List Value}(h:Row w base g n cap xs):Row w.drew base g n cap xs :=
 h.kept (qbu w none) (by simp)
theorem Row.below {w w':World}{base g n cap:Nat}{xs:List Value}(h:Row w base g n cap xs)(hb:Below w.heap.size w w'):Row w' base g n cap xs :=
 h.kept (qay hb none) (by simp)
theorem Row.mono {w:World}{base base' g n cap:Nat}{xs:List Value}(h:Row w base g n cap xs)(hb:base'<=base):Row w base' g n cap xs :=
 ⟨Nat.le_trans hb h.ge,h.lt,h.len,h.le,h.cell,h.room,h.free⟩
theorem Row.of_block {w:World}{base g:Nat}{cs:Array Value}{e:TypeId}{fr:Nat × Nat}(hb:base<=g)(hg:w.heap[g]?=some (.cells cs e fr))(n:Nat)(hn:n<=cs.size)(hf:fr=(0,0)\/fr.1=cs.size):Row w base g n cs.size (cs.toList.take n):=by
 have hlt:g<w.heap.size:=(zG hg).1;have hc:∀j,w.cell? ⟨g,j,none⟩=cs[j]?:=λj=>cell_of_row w g j cs e fr hg;refine⟨hb,hlt,by simp;omega,hn,λj hj=>?_,λj hj=>?_,λj hj=>?_⟩
 ·rw[hc,List.getElem?_take,if_pos hj];simp
 ·rw[hc];simp[hj]
 ·obtain⟨lo,hi⟩:=fr;simp only[World.frozen?,hg];rcases hf with hf|hf
  ·cases hf;simp
  ·simp at hf;subst hf;simp;omega
section
variable {P:Program} (w:World)
theorem run_append_row (t ty e:TypeId)(i:TypeInfo)(z:Value)(bytes:Nat)(ht:P.underlying t=some (.slice e))(hi:P.info? e=some i)(hz:i.zero=some z)(hsize:i.size=1)(hby:i.bytes=bytes)(hzs:z.cells.size=1)(base g n cap:Nat)(xs:List Value)(hr:Row w base g n cap xs)(ad:Addr)(m c:Nat)(news:List Value)(hl:news.length=m)(hnews:∀j u,news[j]?=some u->w.cell? (ad.add j)=some u)(h1:∀u ∈ news,u.oneCell'=true)(h63:n+m<=maxLen)(hbytes:(n+m)*bytes<=140737488355328)(hbase:base<=w.heap.size)(H:Nat)(hH:w.heap.size=H) : ∃g' cap' w',(Builtin.append_ #[t,t] ty #[.slice (some ⟨g,0,none⟩) n cap,.slice (some ad) m c]).run P w=.ok (.slice (some ⟨g',0,none⟩) (n+m) cap') w' ∧ Row w' base g' (n+m) cap' (xs++news)/\w.grownBy w' (some g)/\(g'=g\/g'=H)/\(∀j,j<n->w'.cell? ⟨g,j,none⟩=w.cell? ⟨g,j,none⟩):=by
 by_cases hroom:n+m<=cap
 ·have hrun:=run_append_room_cells (P:=P) w t ty e i ht hi g 0 n cap ad m c news (by rw[hl,hsize,Nat.mul_one]) hnews h1 hroom
   (λj hj=>by have:=hr.room (n+j) (by omega);simpa[hsize] using this) (λj hj=>by have:=hr.free (n+j) (by omega);simpa[hsize] using this)
  simp only[hsize,Nat.mul_one,Nat.zero_add] at hrun;have hin:∀j (hj:j<news.length),(w.setCells g n news).cell? ⟨g,n+j,none⟩=some news[j]:=World.cell?_setCells_in g news n w (λj hj=>hr.room (n+j) (by omega));have hout:∀j,j<n\/n+news.length<=j->(w.setCells g n news).cell? ⟨g,j,none⟩=w.cell? ⟨g,j,none⟩:=λj hj=>World.cell?_setCells_out g news n w ⟨g,j,none⟩ (λ_ _=>hj);have hgr:=qat g news n w;refine⟨g,cap,w.setCells g n news,hrun,⟨hr.ge,Nat.lt_of_lt_of_le hr.lt hgr.size,by rw[List.length_append,hr.len,hl],hroom,?_,?_,?_⟩,hgr,.inl rfl,λj hj=>hout j (.inl hj)⟩
  ·intro j hj;rcases Nat.lt_or_ge j n with h|h
   ·rw[hout j (.inl h),hr.cell j h,List.getElem?_append_left (by rw[hr.len];exact h)]
   ·obtain⟨q,rfl⟩:=Nat.exists_eq_add_of_le h;rw[hin q (by omega),List.getElem?_append_right (by rw[hr.len];omega),hr.len,Nat.add_sub_cancel_left,List.getElem?_eq_getElem (by omega)]
  ·intro j hj;rcases Nat.lt_or_ge j n with h|h
   ·rw[hout j (.inl h)];exact hr.room j hj
   ·rcases Nat.lt_or_ge j (n+news.length) with h'|h'
    ·obtain⟨q,rfl⟩:=Nat.exists_eq_add_of_le h;rw[hin q (by omega)];rfl
    ·rw[hout j (.inr h')];exact hr.room j hj
  ·intro j hj;rw[World.frozen?_setCells];exact hr.free j hj
 ·have holds:∀j u,xs[j]?=some u->w.cell? ((⟨g,0,none⟩:Addr).add j)=some u:=λj u hu=>by
   have hj:j<n:=(by have:=(List.getElem?_eq_some_iff.1 hu).1;have:=hr.len;omega);have hadd:(⟨g,0,none⟩:Addr).add j=⟨g,j,none⟩:=(by unfold Addr.add;split <;> simp_all);rw[hadd,hr.cell j hj,hu]
  have hrun:=run_append_grow (P:=P) w t ty e i z ht hi hz ⟨g,0,none⟩ n cap xs (by rw[hr.len,hsize,Nat.mul_one]) holds ad m c news (by rw[hl,hsize,Nat.mul_one]) hnews (by omega) (by simp only[maxLen] at h63;omega) (growslice_fits (by omega) (by rw[hby];exact hbytes));have hge:=grownCap_ge w (n+m) cap e;have hnew:(w.drew.alloc (.cells (xs.toArray++news.toArray++Builtin.zeroCells z.cells (grownCap w (n+m) cap e-(n+m))) e)).heap[w.heap.size]?=_:=heap_alloc_new w.drew _;have hgr:w.grownBy (w.drew.alloc (.cells (xs.toArray++news.toArray++Builtin.zeroCells z.cells (grownCap w (n+m) cap e-(n+m))) e)) (some g):=grownBy_allocR (qbu w _) _;have hsz:(xs.toArray++news.toArray++Builtin.zeroCells z.cells (grownCap w (n+m) cap e-(n+m))).size=grownCap w (n+m) cap e:=by
   simp only[Array.size_append,List.size_toArray,size_zeroCells,hzs,hr.len,hl];omega
  refine⟨w.heap.size,_,_,hrun,?_,hgr,.inr hH,λj hj=>World.cell?_of_block (w:=w) (heap_alloc_old w.drew _ hr.lt)⟩;have hrow:=Row.of_block hbase hnew (n+m) (by rw[hsz];exact hge) (.inl rfl);rw[hsz] at hrow;have htk:List.take (n+m) (xs.toArray++news.toArray++Builtin.zeroCells z.cells (grownCap w (n+m) cap e-(n+m))).toList=xs++news:=by
   simp only[Array.toList_append,List.append_assoc];rw[<-List.append_assoc];exact List.take_left' (by rw[List.length_append,hr.len,hl])
  rw[htk] at hrow;exact hrow
theorem qcT {o:Oper}{a:Act}{K:Act->World->Prop}{Q:Exit->Act->World->Prop}(s x:Operand)(t:TypeId)(ho:o.op=.call { callee:=.builtin .append,args:=#[s,x],argTypes:=#[t,t] })(e:TypeId)(i:TypeInfo)(z:Value)(bytes:Nat)(ht:P.underlying t=some (.slice e))(hi:P.info? e=some i)(hz:i.zero=some z)(hsize:i.size=1)(hby:i.bytes=bytes)(hzs:z.cells.size=1)(base g n cap:Nat)(xs:List Value)(hs:a.eval s=.slice (some ⟨g,0,none⟩) n cap)(hr:Row w base g n cap xs)(ad:Addr)(m c:Nat)(news:List Value)(hx:a.eval x=.slice (some ad) m c)(hl:news.length=m)(hnews:∀j u,news[j]?=some u->w.cell? (ad.add j)=some u)(h1:∀u ∈ news,u.oneCell'=true)(h63:n+m<=maxLen)(hbytes:(n+m)*bytes<=140737488355328)(hbase:base<=w.heap.size)(H:Nat)(hH:w.heap.size=H)(h:∀g' cap' w',Row w' base g' (n+m) cap' (xs++news)->w.grownBy w' (some g)->(g'=g\/g'=H) → (∀j,j<n->w'.cell? ⟨g,j,none⟩=w.cell? ⟨g,j,none⟩)->K (a.put o.dst (.slice (some ⟨g',0,none⟩) (n+m) cap')) w'):o.wp P a w K Q:=by
 obtain⟨g',cap',w',hrun,h2,h3,h4,h5⟩:=run_append_row (P:=P) w t o.type e i z bytes ht hi hz hsize hby hzs base g n cap xs hr ad m c news hl hnews h1 h63 hbytes hbase H hH;unfold Oper.wp execOp;simp only[ho,resolve,invoke,builtin,Sem.run_bind,Sem.run_pure,Result.andThen_ok,List.map_toArray,List.map_cons,List.map_nil,hs,hx,hrun];exact h g' cap' w' h2 h3 h4 h5
theorem qbn {ops:Array Oper}{o:Oper}{a:Act}{K:Act->World->Prop}{Q:Exit->Act->World->Prop}{E:Prop}(hgd:o.guard=none)(s x:Operand)(t:TypeId)(ho:o.op=.call { callee:=.builtin .append,args:=#[s,x],argTypes:=#[t,t] })(e:TypeId)(i:TypeInfo)(z:Value)(bytes:Nat)(ht:P.underlying t=some (.slice e))(hi:P.info? e=some i)(hz:i.zero=some z)(hsize:i.size=1)(hby:i.bytes=bytes)(hzs:z.cells.size=1)(base g n cap:Nat)(xs:List Value)(hs:a.eval s=.slice (some ⟨g,0,none⟩) n cap)(hr:Row w base g n cap xs)(ad:Addr)(m c:Nat)(news:List Value)(hx:a.eval x=.slice (some ad) m c)(hl:news.length=m)(hnews:∀j u,news[j]?=some u->w.cell? (ad.add j)=some u)(h1:∀u ∈ news,u.oneCell'=true)(h63:n+m<=maxLen)(hbytes:(n+m)*bytes<=140737488355328)(hbase:base<=w.heap.size)(H:Nat)(hH:w.heap.size=H)(h:∀g' cap' w',Row w' base g' (n+m) cap' (xs++news)->w.grownBy w' (some g)->(g'=g\/g'=H) → (∀j,j<n->w'.cell? ⟨g,j,none⟩=w.cell? ⟨g,j,none⟩)->K (a.put o.dst (.slice (some ⟨g',0,none⟩) (n+m) cap')) w') : if Region.wanted o (yielded ops a.tmps)=true then Oper.wp P o a w K Q else E:=by
 have hw:Region.wanted o (yielded ops a.tmps)=true:=by simp[Region.wanted,hgd]
 rw[if_pos hw];exact qcT w s x t ho e i z bytes ht hi hz hsize hby hzs base g n cap xs hs hr ad m c news hx hl hnews h1 h63 hbytes hbase H hH h
theorem qaH {ops:Array Oper}{rest:List Oper}{o:Oper}{a:Act}{Q:Exit->Act->World->Prop}(hgd:o.guard=none)(s x:Operand)(t:TypeId)
 (ho:o.op=.call { callee:=.builtin .append,args:=#[s,x],argTypes:=#[t,t] })
 (e:TypeId) (i:TypeInfo) (z:Value) (bytes:Nat) (ht:P.underlying t=some (.slice e)) (hi:P.info? e=some i) (hz:i.zero=some z)
 (hsize:i.size=1) (hby:i.bytes=bytes) (hzs:z.cells.size=1)
 (base g n cap:Nat) (xs:List Value) (hs:a.eval s=.slice (some ⟨g,0,none⟩) n cap) (hr:Row w base g n cap xs)
 (ad:Addr) (m c:Nat) (news:List Value) (hx:a.eval x=.slice (some ad) m c) (hl:news.length=m) (hnews:∀j u,news[j]?=some u->w.cell? (ad.add j)=some u) (h1:∀u ∈ news,u.oneCell'=true)
 (h63:n+m<=maxLen) (hbytes:(n+m)*bytes<=140737488355328) (hbase:base<=w.heap.size) (H:Nat) (hH:w.heap.size=H)
 (h:∀g' cap' w',Row w' base g' (n+m) cap' (xs++news)->w.grownBy w' (some g)->(g'=g\/g'=H) →
  (∀j,j<n->w'.cell? ⟨g,j,none⟩=w.cell? ⟨g,j,none⟩)->wpList P ops Q rest (a.put o.dst (.slice (some ⟨g',0,none⟩) (n+m) cap')) w'):wpList P ops Q (o :: rest) a w :=
 wpList_plain hgd λ_ hK=>qcT w s x t ho e i z bytes ht hi hz hsize hby hzs base g n cap xs hs hr ad m c news hx hl hnews h1 h63 hbytes hbase H hH λg' cap' w' h2 h3 h4 h5=>hK _ _ (h g' cap' w' h2 h3 h4 h5)
theorem qbU {ops:Array Oper}{rest:List Oper}{o:Oper}{a:Act}{Q:Exit->Act->World->Prop}(hgd:o.guard=none)(x:Operand)(src dst e:TypeId)
 (ho:o.op=.convert src dst x) (s:ByteArray) (hs:a.eval x=.string s)
 (h1:P.underlying src=some .string) (h2:P.underlying dst=some (.slice e)) (h3:P.underlying e=some (.int .u8))
 (h:∀g cap w',Row w' w.heap.size g s.size cap (s.data.toList.map B)->Below w.heap.size w w'->wpList P ops Q rest (a.put o.dst (.slice (some ⟨g,0,none⟩) s.size cap)) w'):wpList P ops Q (o :: rest) a w :=
 wpList_plain hgd λ_ hK=>by
  have hrun:=run_bytes_of_string (P:=P) w src dst e s h1 h2 h3
  have hge:=grownCap_ge w s.size 0 e
  have hsz:(bytesRow s (grownCap w s.size 0 e)).size=grownCap w s.size 0 e:=by
   unfold bytesRow
   rw[Array.size_append,Array.size_map,Array.size_replicate]
   show s.size+_=_
   omega
  have hnew:=heap_alloc_new w.drew (.cells (bytesRow s (grownCap w s.size 0 e)) e ((bytesRow s (grownCap w s.size 0 e)).size,(bytesRow s (grownCap w s.size 0 e)).size+1))
  have hrow:=Row.of_block (base:=w.heap.size) (Nat.le_refl _) hnew s.size (by rw[hsz];exact hge) (.inr rfl)
  have htk:List.take s.size (bytesRow s (grownCap w s.size 0 e)).toList=s.data.toList.map B:=by
   unfold bytesRow
   rw[Array.toList_append,Array.toList_map]
   exact List.take_left' (by rw[List.length_map];rfl)
  rw[htk,hsz] at hrow
  rw[hsz] at hrun
  unfold Oper.wp execOp
  simp only[ho,hs,Sem.run_bind,Sem.run_pure,Result.andThen_ok,hrun]
  exact hK _ _ (h _ _ _ hrow ⟨rfl,rfl,rfl,by simp,λk hk=>Below.heap_alloc w.drew _ k hk⟩)
theorem qbe {ops:Array Oper}{rest:List Oper}{o:Oper}{a:Act}{Q:Exit->Act->World->Prop}(hgd:o.guard=none)(x:Operand)(src dst e:TypeId)
 (ho:o.op=.convert src dst x) (base g n cap:Nat) (l:List UInt8) (hx:a.eval x=.slice (some ⟨g,0,none⟩) n cap) (hr:Row w base g n cap (l.map B))
 (h1:P.underlying src=some (.slice e)) (h2:P.underlying e=some (.int .u8)) (h3:P.underlying dst=some .string)
 (h:wpList P ops Q rest (a.put o.dst (.string ⟨l.toArray⟩)) w):wpList P ops Q (o :: rest) a w :=
 wpList_plain hgd λ_ hK=>by
  have hl:l.length=n:=by have:=hr.len;simpa using this
  subst hl
  have hrun:=run_convert_bytes_back (P:=P) w src dst e ⟨g,0,none⟩ cap l h1 h2 h3 (λj hj=>by
   have hadd:(⟨g,0,none⟩:Addr).add j=⟨g,j,none⟩:=by unfold Addr.add;split <;> simp_all
   rw[hadd,hr.cell j hj,List.getElem?_map,List.getElem?_eq_getElem hj];rfl)
  unfold Oper.wp execOp
  simp only[ho,hx,Sem.run_bind,Sem.run_pure,Result.andThen_ok,hrun]
  exact hK _ _ h
end
end Go.Proofs.Sha
namespace Go.Proofs.Sha
open Go Go.RowKit
def blocks (p:List UInt8):Nat->List UInt32
 | 0=>hTab
 | q+1=>comp (blocks p q) (p.drop (64*q))
def byteAt (x:UInt32) (i:Nat):UInt8:=UInt8.ofNat (x.toNat / 2 ^ (8*i))
def outTo (h:List UInt32):Nat->List UInt8
 | 0=>[]
 | k+1=>outTo h k++[byteAt (h.getD k 0) 3,byteAt (h.getD k 0) 2,byteAt (h.getD k 0) 1,byteAt (h.getD k 0) 0]
theorem qar (h:List UInt32)(k:Nat):(outTo h k).length=4*k:=by
 induction k with
 | zero=>rfl
 | succ k ih=>simp[outTo,ih];omega
def sha (l:List UInt8):List UInt8:=outTo (blocks (pad l) ((pad l).length / 64)) 8
theorem pad_mod (l:List UInt8):(pad l).length % 64=0:=by
 rw[qcj];have:=zpad_eq l.length;omega
theorem qbp (x:UInt32)(i:Nat):IntKind.u8.wrap ((x.toNat:Int) / 2 ^ (8*i))=((byteAt x i).toNat:Int):=by
 unfold byteAt;rw[IntKind.wrap_u8',UInt8.toNat_ofNat'];have e:((x.toNat / 2 ^ (8*i) % 2 ^ 8:Nat):Int)=((x.toNat:Int) / 2 ^ (8*i) % 256):=by
  rw[Int.natCast_emod,Int.natCast_ediv,Int.natCast_pow];rfl
 exact e.symm
theorem byte3 (x:UInt32):IntKind.u8.wrap ((x.toNat:Int) / (16777216:Int))=((byteAt x 3).toNat:Int):=qbp x 3
theorem byte2 (x:UInt32):IntKind.u8.wrap ((x.toNat:Int) / (65536:Int))=((byteAt x 2).toNat:Int):=qbp x 2
theorem byte1 (x:UInt32):IntKind.u8.wrap ((x.toNat:Int) / (256:Int))=((byteAt x 1).toNat:Int):=qbp x 1
theorem byte0 (x:UInt32):IntKind.u8.wrap (x.toNat:Int)=((byteAt x 0).toNat:Int):=by
 have:=qbp x 0
 simpa using this
theorem outTo_succ (h:List UInt32)(k:Nat)(x:UInt32)(hx:h.getD k 0=x) : (outTo h (k+1)).map B=(outTo h k).map B++[.int .u8 (IntKind.u8.wrap ((x.toNat:Int) / (16777216:Int))),.int .u8 (IntKind.u8.wrap ((x.toNat:Int) / (65536:Int))),.int .u8 (IntKind.u8.wrap ((x.toNat:Int) / (256:Int))),.int .u8 (IntKind.u8.wrap (x.toNat:Int))]:=by
 rw[outTo,hx,List.map_append,byte3,byte2,byte1,byte0];rfl
theorem tab_cell (L:List UInt32)(j:Nat)(hj:j<L.length):(L.map U).toArray[j]?=some (.int .u32 ((L.getD j 0).toNat:Int)):=by
 rw[List.getElem?_toArray,List.getElem?_map,zL,List.getElem?_eq_getElem hj];rfl
theorem row_b {w:World}{base g n cap:Nat}{L:List UInt8}(h:Row w base g n cap (L.map B))(j:Nat)(hj:j<n):w.cell? ⟨g,j,none⟩=some (.int .u8 ((L.getD j 0).toNat:Int)):=by
 have hL:L.length=n:=by have:=h.len;simpa using this
 rw[h.cell j hj,List.getElem?_map,zL,List.getElem?_eq_getElem (by omega)];rfl
theorem row_u {w:World}{base g n cap:Nat}{L:List UInt32}(h:Row w base g n cap (L.map U))(j:Nat)(hj:j<n):w.cell? ⟨g,j,none⟩=some (.int .u32 ((L.getD j 0).toNat:Int)):=by
 have hL:L.length=n:=by have:=h.len;simpa using this
 rw[h.cell j hj,List.getElem?_map,zL,List.getElem?_eq_getElem (by omega)];rfl
theorem two_blocks (w:World)(L M:List UInt32)(e:TypeId) : (∀j,j<L.length->((w.alloc (.cells (L.map U).toArray e)).alloc (.cells (M.map U).toArray e)).cell? ⟨w.heap.size,j,none⟩=some (.int .u32 ((L.getD j 0).toNat:Int))) ∧ (∀j,j<M.length->((w.alloc (.cells (L.map U).toArray e)).alloc (.cells (M.map U).toArray e)).cell? ⟨w.heap.size+1,j,none⟩=some (.int .u32 ((M.getD j 0).toNat:Int))):=by
 constructor
 ·intro j hj;have h1:((w.alloc (.cells (L.map U).toArray e)).alloc (.cells (M.map U).toArray e)).heap[w.heap.size]?=some (.cells (L.map U).toArray e):=by
   rw[Below.heap_alloc _ _ _ (by simp)];exact heap_alloc_new w _
  rw[cell_of_row _ _ _ _ _ _ h1];exact tab_cell L j hj
 ·intro j hj;rw[cell_of_row _ _ _ _ _ _ (heap_alloc2_new w _ _)];exact tab_cell M j hj
end Go.Proofs.Sha
namespace Go.Proofs.YtibjhkpgaaapaaaGreatDoor
open Go.RowKit Go.Proofs.Sha Tryz
theorem qaz (l:List UInt8):(sha l).length=32:=by unfold sha;rw[qar]
def TB (b:Nat) (x:ByteArray × ByteArray) (l r:Option Addr) (e:ByteArray × ByteArray) (w:World):Prop:=w.heap[b]?=some (.cells (treeL (sha x.1.data.toList) x.1 x.2 l r e.1 e.2).toArray 251)
def TA (n0:Nat) (f:Tr (ByteArray × ByteArray)->ByteArray × ByteArray):Tr (ByteArray × ByteArray)->Option Addr->World->Prop
 | .nil,p,_=>p=none
 | .node l x r,p,w=>∃ (b:Nat) (pl pr:Option Addr),p=some ⟨b,0,none⟩/\n0<=b/\TB b x pl pr (f (.node l x r)) w/\TA n0 f l pl w/\TA n0 f r pr w
def bare:Tr (ByteArray × ByteArray)->ByteArray × ByteArray:=λ_=>(⟨#[]⟩,⟨#[]⟩)
section
variable {n0:Nat} {f:Tr (ByteArray × ByteArray)->ByteArray × ByteArray}
theorem TB.lt {b:Nat}{x:ByteArray × ByteArray}{l r:Option Addr}{e:ByteArray × ByteArray}{w:World}(h:TB b x l r e w):b<w.heap.size:=(zG h).1
theorem TB.below {b n:Nat}{x:ByteArray × ByteArray}{l r:Option Addr}{e:ByteArray × ByteArray}{w w':World}(h:TB b x l r e w)(hb:Below n w w')(hn:w.heap.size<=n):TB b x l r e w' :=
 (hb.block b (Nat.lt_of_lt_of_le h.lt hn)).trans h
theorem TA.below {n:Nat}{w w':World}(hb:Below n w w')(hn:w.heap.size<=n):∀ {t:Tr (ByteArray × ByteArray)} {p:Option Addr},TA n0 f t p w->TA n0 f t p w'
 | .nil,_,h=>h
 | .node _ _ _,_,⟨b,pl,pr,h1,h0,h2,h3,h4⟩=>⟨b,pl,pr,h1,h0,h2.below hb hn,h3.below hb hn,h4.below hb hn⟩
theorem TA.ptr {t:Tr (ByteArray × ByteArray)}{p:Option Addr}{w:World}(h:TA n0 f t p w):PtrT p w:=by
 cases t with
 | nil=>exact .inl h
 | node l x r =>
  obtain⟨b,pl,pr,h1,_,h2,_,_⟩:=h;exact .inr ⟨b,_,_,h1,h2⟩
end
def AboveSaid (ab:ByteArray × ByteArray->ByteArray × ByteArray->Bool):Prop:=∀ (p q:ByteArray × ByteArray) (w:World),Calls prog 164 #[.agg (rankL (sha p.1.data.toList) p.1).toArray,.agg (rankL (sha q.1.data.toList) q.1).toArray] w λe w'=>e=.returned (.bool (ab p q))/\Below w.heap.size w w'
theorem with_bare (b:Nat)(x:ByteArray × ByteArray)(pl pr l r:Option Addr)(w:World)(hb:TB b x pl pr (⟨#[]⟩,⟨#[]⟩) w)(p1:PtrT pl w)(p2:PtrT pr w)(p3:PtrT l w)(p4:PtrT r w) : Calls prog 165 #[.pointer (some ⟨b,0,none⟩),.pointer l,.pointer r] w λe w'=>∃g,e=.returned (.pointer (some ⟨g,0,none⟩))/\(g=b\/w.heap.size<=g)/\TB g x l r (⟨#[]⟩,⟨#[]⟩) w'/\Below w.heap.size w w':=by
 by_cases hne:l=pl/\r=pr
 ·obtain⟨rfl,rfl⟩:=hne;refine(with_same b _ (qaz _) x.1 x.2 l r _ _ w hb p1 p2).mono ?_;rintro e w' ⟨he,rfl⟩;exact⟨b,he,.inl rfl,hb,Below.refl _ _⟩
 ·refine(withT_any b _ (qaz _) x.1 x.2 pl pr l r _ _ w hb p1 p2 p3 p4 hne).mono ?_;rintro e w' ⟨g,he,hge,hg,hbl⟩;exact⟨g,he,.inr hge,hg,hbl⟩
theorem TB.c35 {b:Nat}{x:ByteArray × ByteArray}{l r:Option Addr}{e:ByteArray × ByteArray}{w:World}(h:TB b x l r e w):w.cell? ⟨b,35,none⟩=some (.pointer l):=(ZC h 35).trans (by simpa using(qbt _ (qaz _) x.1 x.2 l r e.1 e.2).1)
theorem TB.c36 {b:Nat}{x:ByteArray × ByteArray}{l r:Option Addr}{e:ByteArray × ByteArray}{w:World}(h:TB b x l r e w):w.cell? ⟨b,36,none⟩=some (.pointer r):=(ZC h 36).trans (by simpa using(qbt _ (qaz _) x.1 x.2 l r e.1 e.2).2.1)
theorem TB.c37 {b:Nat}{x:ByteArray × ByteArray}{l r:Option Addr}{e:ByteArray × ByteArray}{w:World}(h:TB b x l r e w):w.cell? ⟨b,37,none⟩=some (.string e.1):=(ZC h 37).trans (by simpa using(qbt _ (qaz _) x.1 x.2 l r e.1 e.2).2.2.1)
theorem TB.c38 {b:Nat}{x:ByteArray × ByteArray}{l r:Option Addr}{e:ByteArray × ByteArray}{w:World}(h:TB b x l r e w):w.cell? ⟨b,38,none⟩=some (.string e.2):=(ZC h 38).trans (by simpa using(qbt _ (qaz _) x.1 x.2 l r e.1 e.2).2.2.2.1)
theorem TB.c0 {b:Nat}{x:ByteArray × ByteArray}{l r:Option Addr}{e:ByteArray × ByteArray}{w:World}(h:TB b x l r e w):w.cell? ⟨b,0,none⟩=some (.string x.1):=(ZC h 0).trans (by simpa using(qbt _ (qaz _) x.1 x.2 l r e.1 e.2).2.2.2.2.1)
theorem TB.c1 {b:Nat}{x:ByteArray × ByteArray}{l r:Option Addr}{e:ByteArray × ByteArray}{w:World}(h:TB b x l r e w):w.cell? ⟨b,1,none⟩=some (.string x.2):=(ZC h 1).trans (by simpa using(qbt _ (qaz _) x.1 x.2 l r e.1 e.2).2.2.2.2.2)
theorem TB.rank {b:Nat}{x:ByteArray × ByteArray}{l r:Option Addr}{e:ByteArray × ByteArray}{w:World}(h:TB b x l r e w):w.rangeAt b 2 (rankL (sha x.1.data.toList) x.1):=λj u hj=>(ZC h (2+j)).trans (by simpa using tree_rank _ (qaz _) x.1 x.2 l r e.1 e.2 j u hj)
theorem qdl (w:World):(binOp .eql 115 (.pointer none) (.pointer none)).run prog w=.ok (.bool true) w:=by
 rw[qdi none none w (.inl rfl) (.inl rfl)];rfl
theorem qcQ (b:Addr)(w:World)(h:PtrT (some b) w):(binOp .eql 115 (.pointer (some b)) (.pointer none)).run prog w=.ok (.bool false) w:=by
 rw[qdi (some b) none w h (.inl rfl)];rfl
theorem merge_any {ab:ByteArray × ByteArray->ByteArray × ByteArray->Bool}(HA:Hid (AboveSaid ab))(n0 n:Nat):∀ (s t:Tr (ByteArray × ByteArray)) (ps pt:Option Addr) (w:World),s.size+t.size<=n->n0<=w.heap.size->TA n0 bare s ps w->TA n0 bare t pt w → Calls prog 132 #[.pointer ps,.pointer pt] w λe w'=>∃p,e=.returned (.pointer p)/\TA n0 bare (Tr.merge ab s t) p w'/\Below w.heap.size w w':=by
 induction n with
 | zero =>
  intro s t ps pt w hn h0 hs ht;cases s with
  | node l x r=>simp[Tr.size] at hn
  | nil =>
   obtain rfl:ps=none:=hs;have q:=qdl w;rw[Tr.merge];have HT:Hid (TA n0 bare t pt w):=ht;clear ht hn;go_enter func132,ntmps132;go_wp2_with fail;go_ret;exact⟨pt,rfl,HT.out,Below.refl _ _⟩
 | succ n ih =>
  intro s t ps pt w hn h0 hs ht;cases s with
  | nil =>
   obtain rfl:ps=none:=hs;have q:=qdl w;rw[Tr.merge];have HT:Hid (TA n0 bare t pt w):=ht;clear ht hn ih;go_enter func132,ntmps132;go_wp2_with fail;go_ret;exact⟨pt,rfl,HT.out,Below.refl _ _⟩
  | node l x r =>
   have hps:=hs.ptr;obtain⟨b,pl,pr,rfl,hge,hb,hl,hr⟩:=id hs;have q1:=qcQ _ w hps;cases t with
   | nil =>
    obtain rfl:pt=none:=ht;have q:=qdl w;rw[Tr.merge];have HT:Hid (TA n0 bare (.node l x r) (some ⟨b,0,none⟩) w):=hs;clear hs hn ih hb hl hr hps;go_enter func132,ntmps132;go_wp2_with fail;go_ret;exact⟨_,rfl,HT.out,Below.refl _ _⟩
   | node l2 y r2 =>
    have hpt:=ht.ptr;obtain⟨b2,pl2,pr2,rfl,hge2,hb2,hl2,hr2⟩:=id ht;have q2:=qcQ _ w hpt;have hk1:=hb.rank;have hk2:=hb2.rank;have HAB:Hid (∀w',Calls prog 164 #[.agg (rankL (sha x.1.data.toList) x.1).toArray,.agg (rankL (sha y.1.data.toList) y.1).toArray] w' λe w''=>e=.returned (.bool (ab x y))/\Below w'.heap.size w' w''):=λw'=>HA.out x y w';obtain⟨T,hT⟩:=eX (Tr.merge ab (.node l x r) (.node l2 y r2));rw[hT];rw[Tr.merge] at hT;have HT:Hid ((if ab x y=true then Tr.node l x (Tr.merge ab r (.node l2 y r2)) else Tr.node (Tr.merge ab (.node l x r) l2) y r2)=T):=hT;clear hT;have hn':r.size+(Tr.node l2 y r2).size<=n:=(by simp only[Tr.size] at hn⊢;omega);have hn2:(Tr.node l x r).size+l2.size<=n:=(by simp only[Tr.size] at hn⊢;omega);clear hn;go_enter func132,ntmps132;go_upto_region 5 with fail;refine wp_region_held_drew (S:=λW=>W.rangeAt b 2 (rankL (sha x.1.data.toList) x.1)/\W.rangeAt b2 2 (rankL (sha y.1.data.toList) y.1)) (by kernel_rfl) ⟨hk1,hk2⟩ (λhHeld=>?_);refine tkI 0 ?_;simp only[Act.put,zq];refine tkI 1 ?_;simp only[Act.put,zq];refine tkI 2 ?_;simp only[Act.put,zq];refine tkH (i:=3) (v:=_) rfl (yieldsIf_load_mid (by rfl) _ _ rfl _ _ rfl _ _ (λw h=>h.1) Tryz.underlying249 rfl (qcX _ (qaz _) _)) ?_;simp only[Act.put,zq];refine tkI 4 ?_;simp only[Act.put,zq];refine tkI 5 ?_;simp only[Act.put,zq];refine tkI 6 ?_;simp only[Act.put,zq];refine tkH (i:=7) (v:=_) rfl (yieldsIf_load_mid (by rfl) _ _ rfl _ _ rfl _ _ (λw h=>h.2) Tryz.underlying249 rfl (qcX _ (qaz _) _)) ?_;simp only[Act.put,zq];refine rdH 8 (λK hK=>?_);go_simp;refine(HAB.out _).mono ?_;rintro e w1 ⟨rfl,hb1'⟩;have hbw1:Below w.heap.size w w1:=((Below.refl w.heap.size w).drew).trans hb1';clear hb1';refine hK.out _ _ ⟨(hb.below hbw1 (Nat.le_refl _)).rank,(hb2.below hbw1 (Nat.le_refl _)).rank⟩ (λhHeld=>?_);clear hK K;refine wpAnyH_done (by kernel_rfl) ?_ _;have hs1:=hbw1.size;cases hv:ab x y with
    | true =>
     have hif:Hid (T=Tr.node l x (Tr.merge ab r (.node l2 y r2))):=(by show _=_;rw[<-HT.out,if_pos hv]);clear HT;have HI:Hid (∀w',Below w.heap.size w w'->Calls prog 132 #[.pointer pr,.pointer (some ⟨b2,0,none⟩)] w' λe w''=>∃p,e=.returned (.pointer p)/\TA n0 bare (Tr.merge ab r (.node l2 y r2)) p w''/\Below w'.heap.size w' w''):=λw' h=>ih r (.node l2 y r2) pr (some ⟨b2,0,none⟩) w' hn' (Nat.le_trans h0 h.size) (hr.below h (Nat.le_refl _)) (ht.below h (Nat.le_refl _));have HW:Hid (∀w' r',Below w.heap.size w w'->PtrT r' w'->Calls prog 165 #[.pointer (some ⟨b,0,none⟩),.pointer pl,.pointer r'] w' λe w''=>∃g,e=.returned (.pointer (some ⟨g,0,none⟩))/\(g=b\/w'.heap.size<=g)/\TB g x pl r' (⟨#[]⟩,⟨#[]⟩) w''/\Below w'.heap.size w' w''):=λw' r' h hp=>with_bare b x pl pr pl r' w' (hb.below h (Nat.le_refl _)) (hl.below h (Nat.le_refl _)).ptr (hr.below h (Nat.le_refl _)).ptr (hl.below h (Nat.le_refl _)).ptr hp;have HC:Hid (∀w',Below w.heap.size w w'->w'.cell? ⟨b,35,none⟩=some (.pointer pl)/\w'.cell? ⟨b,36,none⟩=some (.pointer pr)):=λw' h=>⟨(hb.below h (Nat.le_refl _)).c35,(hb.below h (Nat.le_refl _)).c36⟩;have HL:Hid (TA n0 bare l pl w):=hl;clear ih hn' hn2 hHeld hb hb2 hl hr hl2 hr2 hs ht hps hpt hk1 hk2 HAB hv q1 q2 HA;go_upto_region 6 with fail;go_region_held3 (λW=>W.cell? ⟨b,35,none⟩=some (.pointer pl)/\W.cell? ⟨b,36,none⟩=some (.pointer pr)) (first|exact HC.out _ hbw1.drew|exact HC.out _ hbw2|exact HC.out _ hbw3) (first|(go_at_call 132;refine(HI.out _ hbw1.drew).mono ?_;rintro e w2 ⟨p,rfl,hp,hb2'⟩;have hbw2:Below w.heap.size w w2:=hbw1.drew.trans (hb2'.mono hs1);have hs2:=hbw2.size;clear hb2')|(go_at_call 165;refine(HW.out _ _ hbw2 hp.ptr).mono ?_;rintro e w3 ⟨g,rfl,hgo,hg,hb3'⟩;have hbw3:Below w.heap.size w w3:=hbw2.trans (hb3'.mono hs2)));go_wp2_with fail;go_ret;rw[hif.out];exact⟨_,rfl,⟨g,pl,p,rfl,(by rcases hgo with q|q <;> omega),hg,HL.out.below hbw3 (Nat.le_refl _),hp.below hb3' (Nat.le_refl _)⟩,hbw3⟩
    | false =>
     have hif:Hid (T=Tr.node (Tr.merge ab (.node l x r) l2) y r2):=(by show _=_;rw[<-HT.out,if_neg (by rw[hv];decide)]);clear HT;have HI:Hid (∀w',Below w.heap.size w w'->Calls prog 132 #[.pointer (some ⟨b,0,none⟩),.pointer pl2] w' λe w''=>∃p,e=.returned (.pointer p)/\TA n0 bare (Tr.merge ab (.node l x r) l2) p w''/\Below w'.heap.size w' w''):=λw' h=>ih (.node l x r) l2 (some ⟨b,0,none⟩) pl2 w' hn2 (Nat.le_trans h0 h.size) (hs.below h (Nat.le_refl _)) (hl2.below h (Nat.le_refl _));have HW:Hid (∀w' l',Below w.heap.size w w'->PtrT l' w'->Calls prog 165 #[.pointer (some ⟨b2,0,none⟩),.pointer l',.pointer pr2] w' λe w''=>∃g,e=.returned (.pointer (some ⟨g,0,none⟩))/\(g=b2\/w'.heap.size<=g)/\TB g y l' pr2 (⟨#[]⟩,⟨#[]⟩) w''/\Below w'.heap.size w' w''):=λw' l' h hp=>with_bare b2 y pl2 pr2 l' pr2 w' (hb2.below h (Nat.le_refl _)) (hl2.below h (Nat.le_refl _)).ptr (hr2.below h (Nat.le_refl _)).ptr hp (hr2.below h (Nat.le_refl _)).ptr;have HC:Hid (∀w',Below w.heap.size w w'->w'.cell? ⟨b2,35,none⟩=some (.pointer pl2)/\w'.cell? ⟨b2,36,none⟩=some (.pointer pr2)):=λw' h=>⟨(hb2.below h (Nat.le_refl _)).c35,(hb2.below h (Nat.le_refl _)).c36⟩;have HL:Hid (TA n0 bare r2 pr2 w):=hr2;clear ih hn' hn2 hHeld hb hb2 hl hr hl2 hr2 hs ht hps hpt hk1 hk2 HAB hv q1 q2 HA;go_upto_region 7 with fail;go_region_held3 (λW=>W.cell? ⟨b2,35,none⟩=some (.pointer pl2)/\W.cell? ⟨b2,36,none⟩=some (.pointer pr2)) (first|exact HC.out _ hbw1.drew|exact HC.out _ hbw2|exact HC.out _ hbw3) (first|(go_at_call 132;refine(HI.out _ hbw1.drew).mono ?_;rintro e w2 ⟨p,rfl,hp,hb2'⟩;have hbw2:Below w.heap.size w w2:=hbw1.drew.trans (hb2'.mono hs1);have hs2:=hbw2.size;clear hb2')|(go_at_call 165;refine(HW.out _ _ hbw2 hp.ptr).mono ?_;rintro e w3 ⟨g,rfl,hgo,hg,hb3'⟩;have hbw3:Below w.heap.size w w3:=hbw2.trans (hb3'.mono hs2)));go_wp2_with fail;go_ret;rw[hif.out];exact⟨_,rfl,⟨g,p,pr2,rfl,(by rcases hgo with q|q <;> omega),hg,hp.below hb3' (Nat.le_refl _),HL.out.below hbw3 (Nat.le_refl _)⟩,hbw3⟩
theorem info5:(prog.info? 5).map (λi=>(i.zero,i.size,i.bytes))=some (some (.int .u8 0),1,1):=by kernel_rfl
theorem padded_any (s:ByteArray)(w:World)(hs:s.size<=1048576) : Calls prog 122 #[.string s] w λe w'=>∃g cap,e=.returned (.slice (some ⟨g,0,none⟩) (pad s.data.toList).length cap)/\Row w' w.heap.size g (pad s.data.toList).length cap ((pad s.data.toList).map B)/\Below w.heap.size w w':=by
 obtain⟨i0,hi0,hz0,hz1,hz2⟩:=info_parts info5;have hl:s.data.toList.length=s.size:=rfl;go_enter func122,ntmps122;go_wp2_with (first|(refine qbU _ rfl (.tmp 6) 9 41 5 rfl s rfl Tryz.underlying9 Tryz.underlying41 Tryz.underlying5 ?_;intro g0 cap0 w0 hrow0 hbel0)|(at_builtin;refine qaH _ rfl (.tmp 8) (.tmp 9) 41 rfl 5 i0 (.int .u8 0) 1 Tryz.underlying41 hi0 hz0 hz1 hz2 rfl w.heap.size g0 s.size cap0 _ rfl (hrow0.alloc _) ⟨w0.heap.size,0,none⟩ 1 1 [.int .u8 128] rfl rfl (World.news_of_block (heap_alloc_new w0 _)) (by simp[Value.oneCell']) (by unfold maxLen;omega) (by omega) (by have:=hbel0.size;simp;omega) (w0.heap.size+1) (by simp) ?_;intro g1 cap1 w1 hrow1 hgrow1 _ _));have hbel1:Below w.heap.size w w1:=(hbel0.alloc hbel0.size _).grown hgrow1 (by have:=hbel0.size;simp;omega) (λq hq=>by cases hq;exact hrow0.ge);have hrow1':Row w1 w.heap.size g1 (s.size+1+0) cap1 ((s.data.toList++[128]++List.replicate 0 0).map B):=by simpa[B] using hrow1
 clear hgrow1 hrow1 hrow0 hbel0;go_loopw [3] (λv wr=>∃j g cap:Nat,j<=zpad s.size/\v=.slice (some ⟨g,0,none⟩) (s.size+1+j) cap/\Row wr w.heap.size g (s.size+1+j) cap ((s.data.toList++[128]++List.replicate j 0).map B)/\Below w.heap.size w wr) (λv _=>zpad s.size+s.size+1-lenOf v)
 case atStart=>exact⟨0,g1,cap1,Nat.zero_le _,rfl,hrow1',hbel1⟩
 case round =>
  clear hrow1' hbel1;obtain⟨j,g,cap,hj,rfl,hrow,hbel⟩:=hrel;have hsz:=hbel.size;have hge:=hrow.ge;have hz:=zpad_lt s.size;by_cases hlt:j<zpad s.size
  ·have hm:=zpad_ne s.size j hlt;go_wp2_with (at_builtin;refine qaH _ rfl (.tmp 15) (.tmp 16) 41 rfl 5 i0 (.int .u8 0) 1 Tryz.underlying41 hi0 hz0 hz1 hz2 rfl w.heap.size g (s.size+1+j) cap _ rfl (hrow.alloc _) ⟨wr.heap.size,0,none⟩ 1 1 [.int .u8 0] rfl rfl (World.news_of_block (heap_alloc_new wr _)) (by simp[Value.oneCell']) (by unfold maxLen;omega) (by omega) (by simp;omega) (wr.heap.size+1) (by simp) ?_;intro g2 cap2 w2 hrow2 hgrow2 _ _);go_roundw
   case rel =>
    have e:(s.data.toList++[128]++List.replicate j 0).map B++[.int .u8 0]=(s.data.toList++[128]++List.replicate (j+1) 0).map B:=by
     rw[List.replicate_succ',<-List.append_assoc,List.map_append (l₂:=[0])];rfl
    rw[e] at hrow2;exact⟨j+1,g2,cap2,by omega,rfl,hrow2,(hbel.alloc hsz _).grown hgrow2 (by simp;omega) (λq hq=>by cases hq;exact hge)⟩
   case measure=>simp[lenOf];omega
  ·obtain rfl:j=zpad s.size:=by omega
   have hm:=zpad_eq s.size;have hm':((((s.size:Int)+1+((zpad s.size:Nat):Int)) % 64) != 56)=false:=by
    rw[bne_eq_false_iff_eq];omega
   go_wp2_with fail
   try rw[hm']
   go_loopw [3,5] (λv i wr=>∃k g cap:Nat,k<=8/\i=.int .i64 (7-(k:Int))/\v=.slice (some ⟨g,0,none⟩) (s.size+1+zpad s.size+k) cap/\Row wr w.heap.size g (s.size+1+zpad s.size+k) cap ((s.data.toList++[128]++List.replicate (zpad s.size) 0++beTo (8*s.size) k).map B)/\Below w.heap.size w wr) (λv _ _=>zpad s.size+s.size+9-lenOf v)
   case atStart=>exact⟨0,g,cap,by omega,rfl,rfl,by simpa[beTo] using hrow,hbel⟩
   case round =>
    clear hrow hbel hge hsz;obtain⟨k,g,cap,hk,rfl,rfl,hrow,hbel⟩:=hrel;have hsz:=hbel.size;have hge:=hrow.ge;by_cases hlt2:k<8
    ·go_wp2_with (at_builtin;refine qaH _ rfl (.tmp 26) (.tmp 33) 41 rfl 5 i0 (.int .u8 0) 1 Tryz.underlying41 hi0 hz0 hz1 hz2 rfl w.heap.size g (s.size+1+zpad s.size+k) cap _ rfl (hrow.alloc _) ⟨wr.heap.size,0,none⟩ 1 1 [_] rfl rfl (World.news_of_block (heap_alloc_new wr _)) (by simp[Value.oneCell']) (by unfold maxLen;omega) (by omega) (by simp;omega) (wr.heap.size+1) (by simp) ?_;intro g2 cap2 w2 hrow2 hgrow2 _ _);go_roundw
     case rel =>
      rw[qcc] at hrow2;have e:(s.data.toList++[128]++List.replicate (zpad s.size) 0++beTo (8*s.size) k).map B++[.int .u8 ((lenByte (8*s.size) (7-k)).toNat:Int)]=(s.data.toList++[128]++List.replicate (zpad s.size) 0++beTo (8*s.size) (k+1)).map B:=by
       rw[beTo_succ,<-List.append_assoc,List.map_append (l₂:=[lenByte (8*s.size) (7-k)])];rfl
      rw[e] at hrow2;exact⟨k+1,g2,cap2,by omega,by go_num,rfl,hrow2,(hbel.alloc hsz _).grown hgrow2 (by simp;omega) (λq hq=>by cases hq;exact hge)⟩
     case measure=>simp[lenOf];omega
    ·obtain rfl:k=8:=by omega
     go_wp2;go_ret;have e:pad s.data.toList=s.data.toList++[128]++List.replicate (zpad s.size) 0++beTo (8*s.size) 8:=(by rw[pad,hl]);have e2:(pad s.data.toList).length=s.size+1+zpad s.size+8:=(by rw[qcj,hl];omega);rw[e2,e];exact⟨g,cap,rfl,hrow,hbel⟩
end Go.Proofs.YtibjhkpgaaapaaaGreatDoor
