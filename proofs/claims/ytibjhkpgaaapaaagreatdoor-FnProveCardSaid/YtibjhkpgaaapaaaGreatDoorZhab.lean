import Derived.Test.YtibjhkpgaaapaaaGreatDoorZhaa
import Derived.Deep.AppendLies
import Derived.WalkKit
import Derived.Laws.BytesArg
import Derived.Shelf.Strings.BuilderF
import Derived.Shelf.Strings.BuilderK
set_option maxRecDepth 10000000
namespace Go.Proofs.Sha
open Go Go.RowKit
theorem grownBy_refl (w:World) (row:Option Nat):w.grownBy w row:=⟨rfl,rfl,rfl,Nat.le_refl _,fun _ _ _=>rfl⟩
theorem grownBy_trans {a b c:World} {row:Option Nat} (h:a.grownBy b row) (k:b.grownBy c row):a.grownBy c row :=
 ⟨k.os.trans h.os,k.tape.trans h.tape,k.output.trans h.output,Nat.le_trans h.size k.size,fun i hi hn=>(k.block i (Nat.lt_of_lt_of_le hi h.size) hn).trans (h.block i hi hn)⟩
theorem grownBy_setCell (w:World) (b o:Nat) (v:Value):w.grownBy (w.setCell ⟨b,o,none⟩ v) (some b) :=
 ⟨rfl,rfl,rfl,by simp [World.setCell],fun k _ hn=>Below.heap_setCell _ _ _ _ (fun e=>hn (by rw [e]))⟩
theorem grownBy_drew (w:World) (row:Option Nat):w.grownBy w.drew row:=⟨rfl,rfl,rfl,Nat.le_refl _,fun _ _ _=>rfl⟩
theorem grownBy_drewR {a b:World} {row:Option Nat} (h:a.grownBy b row):a.grownBy b.drew row:=grownBy_trans h (grownBy_drew _ _)
theorem grownBy_allocR {a b:World} {row:Option Nat} (h:a.grownBy b row) (o:Obj):a.grownBy (b.alloc o) row:=grownBy_trans h (World.grownBy_alloc _ _ _)
theorem grownBy_setCells (b:Nat):∀ (vs:List Value) (o:Nat) (w:World),w.grownBy (w.setCells b o vs) (some b)
 | [],_,w=>grownBy_refl w _
 | v :: r,o,w=>by rw [World.setCells];exact grownBy_trans (grownBy_setCell w b o v) (grownBy_setCells b r (o + 1) _)
theorem grownBy_of_below {w w':World} (h:Below w.heap.size w w') (row:Option Nat):w.grownBy w' row:=⟨h.os,h.tape,h.output,h.size,fun k hk _=>h.block k hk⟩
theorem below_of_grown {B b:Nat} {w w':World} (h:w.grownBy w' (some b)) (hb:B <= b) (hB:B <= w.heap.size):Below B w w' :=
 ⟨h.os,h.tape,h.output,h.size,fun k hk=>h.block k (by omega) (by simp;omega)⟩
structure Row (w:World) (base g n cap:Nat) (xs:List Value):Prop where
 ge:base <= g
 lt:g < w.heap.size
 len:xs.length=n
 le:n <= cap
 cell:∀ j,j < n -> w.cell? ⟨g,j,none⟩=xs[j]?
 room:∀ j,j < cap -> (w.cell? ⟨g,j,none⟩).isSome=true
 free:∀ j,j < cap -> w.frozen? ⟨g,j,none⟩=false
theorem Row.kept {w w':World} {base g n cap:Nat} {xs:List Value} {row:Option Nat} (h:Row w base g n cap xs) (hg:w.grownBy w' row) (hn:some g ≠ row):Row w' base g n cap xs:=by
 have hc:∀ j,w'.cell? ⟨g,j,none⟩=w.cell? ⟨g,j,none⟩:=fun j=>hg.cell_far _ h.lt hn
 have hf:∀ j,w'.frozen? ⟨g,j,none⟩=w.frozen? ⟨g,j,none⟩:=fun j=>hg.frozen_far _ h.lt hn
 exact ⟨h.ge,Nat.lt_of_lt_of_le h.lt hg.size,h.len,h.le,fun j hj=>(hc j).trans (h.cell j hj),fun j hj=>by rw [hc];exact h.room j hj,fun j hj=>by rw [hf];exact h.free j hj⟩
theorem Row.alloc {w:World} {base g n cap:Nat} {xs:List Value} (h:Row w base g n cap xs) (o:Obj):Row (w.alloc o) base g n cap xs :=
 h.kept (World.grownBy_alloc w o none) (by simp)
theorem Row.drew {w:World} {base g n cap:Nat} {xs:List Value} (h:Row w base g n cap xs):Row w.drew base g n cap xs :=
 h.kept (grownBy_drew w none) (by simp)
theorem Row.below {w w':World} {base g n cap:Nat} {xs:List Value} (h:Row w base g n cap xs) (hb:Below w.heap.size w w'):Row w' base g n cap xs :=
 h.kept (grownBy_of_below hb none) (by simp)
theorem Row.mono {w:World} {base base' g n cap:Nat} {xs:List Value} (h:Row w base g n cap xs) (hb:base' <= base):Row w base' g n cap xs :=
 ⟨Nat.le_trans hb h.ge,h.lt,h.len,h.le,h.cell,h.room,h.free⟩
theorem Row.of_block {w:World} {base g:Nat} {cs:Array Value} {e:TypeId} {fr:Nat × Nat} (hb:base <= g) (hg:w.heap[g]?=some (.cells cs e fr)) (n:Nat) (hn:n <= cs.size)
 (hf:fr=(0,0) \/ fr.1=cs.size):Row w base g n cs.size (cs.toList.take n):=by
 have hlt:g < w.heap.size:=(Array.getElem?_eq_some_iff.1 hg).1
 have hc:∀ j,w.cell? ⟨g,j,none⟩=cs[j]?:=fun j=>cell_of_row w g j cs e fr hg
 refine ⟨hb,hlt,by simp;omega,hn,fun j hj=>?_,fun j hj=>?_,fun j hj=>?_⟩
 · rw [hc,List.getElem?_take,if_pos hj];simp
 · rw [hc];simp [hj]
 · obtain ⟨lo,hi⟩:=fr
   simp only [World.frozen?,hg]
   rcases hf with hf | hf
   · cases hf;simp
   · simp at hf;subst hf;simp;omega
section
variable {P:Program} (w:World)
theorem run_append_row (t ty e:TypeId) (i:TypeInfo) (z:Value) (bytes:Nat) (ht:P.underlying t=some (.slice e)) (hi:P.info? e=some i) (hz:i.zero=some z)
 (hsize:i.size=1) (hby:i.bytes=bytes) (hzs:z.cells.size=1)
 (base g n cap:Nat) (xs:List Value) (hr:Row w base g n cap xs)
 (ad:Addr) (m c:Nat) (news:List Value) (hl:news.length=m) (hnews:∀ j u,news[j]?=some u -> w.cell? (ad.add j)=some u) (h1:∀ u ∈ news,u.oneCell'=true)
 (h63:n + m <= maxLen) (hbytes:(n + m) * bytes <= 140737488355328) (hbase:base <= w.heap.size) (H:Nat) (hH:w.heap.size=H) :
 ∃ g' cap' w',(Builtin.append_ #[t,t] ty #[.slice (some ⟨g,0,none⟩) n cap,.slice (some ad) m c]).run P w=.ok (.slice (some ⟨g',0,none⟩) (n + m) cap') w' ∧
  Row w' base g' (n + m) cap' (xs ++ news) /\ w.grownBy w' (some g) /\ (g'=g \/ g'=H) /\ (∀ j,j < n -> w'.cell? ⟨g,j,none⟩=w.cell? ⟨g,j,none⟩):=by
 by_cases hroom:n + m <= cap
 · have hrun:=run_append_room_cells (P:=P) w t ty e i ht hi g 0 n cap ad m c news (by rw [hl,hsize,Nat.mul_one]) hnews h1 hroom
    (fun j hj=>by have:=hr.room (n + j) (by omega);simpa [hsize] using this) (fun j hj=>by have:=hr.free (n + j) (by omega);simpa [hsize] using this)
   simp only [hsize,Nat.mul_one,Nat.zero_add] at hrun
   have hin:∀ j (hj:j < news.length),(w.setCells g n news).cell? ⟨g,n + j,none⟩=some news[j]:=World.cell?_setCells_in g news n w (fun j hj=>hr.room (n + j) (by omega))
   have hout:∀ j,j < n \/ n + news.length <= j -> (w.setCells g n news).cell? ⟨g,j,none⟩=w.cell? ⟨g,j,none⟩:=fun j hj=>World.cell?_setCells_out g news n w ⟨g,j,none⟩ (fun _ _=>hj)
   have hgr:=grownBy_setCells g news n w
   refine ⟨g,cap,w.setCells g n news,hrun,⟨hr.ge,Nat.lt_of_lt_of_le hr.lt hgr.size,by rw [List.length_append,hr.len,hl],hroom,?_,?_,?_⟩,hgr,.inl rfl,fun j hj=>hout j (.inl hj)⟩
   · intro j hj
     rcases Nat.lt_or_ge j n with h | h
     · rw [hout j (.inl h),hr.cell j h,List.getElem?_append_left (by rw [hr.len];exact h)]
     · obtain ⟨q,rfl⟩:=Nat.exists_eq_add_of_le h
       rw [hin q (by omega),List.getElem?_append_right (by rw [hr.len];omega),hr.len,Nat.add_sub_cancel_left,List.getElem?_eq_getElem (by omega)]
   · intro j hj
     rcases Nat.lt_or_ge j n with h | h
     · rw [hout j (.inl h)];exact hr.room j hj
     · rcases Nat.lt_or_ge j (n + news.length) with h' | h'
       · obtain ⟨q,rfl⟩:=Nat.exists_eq_add_of_le h
         rw [hin q (by omega)];rfl
       · rw [hout j (.inr h')];exact hr.room j hj
   · intro j hj
     rw [World.frozen?_setCells];exact hr.free j hj
 · have holds:∀ j u,xs[j]?=some u -> w.cell? ((⟨g,0,none⟩:Addr).add j)=some u:=fun j u hu=>by
    have hj:j < n:=by have:=(List.getElem?_eq_some_iff.1 hu).1;have:=hr.len;omega
    have hadd:(⟨g,0,none⟩:Addr).add j=⟨g,j,none⟩:=by unfold Addr.add;split <;> simp_all
    rw [hadd,hr.cell j hj,hu]
   have hrun:=run_append_grow (P:=P) w t ty e i z ht hi hz ⟨g,0,none⟩ n cap xs (by rw [hr.len,hsize,Nat.mul_one]) holds ad m c news (by rw [hl,hsize,Nat.mul_one]) hnews (by omega) (by simp only [maxLen] at h63;omega) (growslice_fits (by omega) (by rw [hby];exact hbytes))
   have hge:=grownCap_ge w (n + m) cap e
   have hnew:(w.drew.alloc (.cells (xs.toArray ++ news.toArray ++ Builtin.zeroCells z.cells (grownCap w (n + m) cap e - (n + m))) e)).heap[w.heap.size]?=_:=heap_alloc_new w.drew _
   have hgr:w.grownBy (w.drew.alloc (.cells (xs.toArray ++ news.toArray ++ Builtin.zeroCells z.cells (grownCap w (n + m) cap e - (n + m))) e)) (some g):=grownBy_allocR (grownBy_drew w _) _
   have hsz:(xs.toArray ++ news.toArray ++ Builtin.zeroCells z.cells (grownCap w (n + m) cap e - (n + m))).size=grownCap w (n + m) cap e:=by
    simp only [Array.size_append,List.size_toArray,size_zeroCells,hzs,hr.len,hl];omega
   refine ⟨w.heap.size,_,_,hrun,?_,hgr,.inr hH,fun j hj=>World.cell?_of_block (w:=w) (heap_alloc_old w.drew _ hr.lt)⟩
   have hrow:=Row.of_block hbase hnew (n + m) (by rw [hsz];exact hge) (.inl rfl)
   rw [hsz] at hrow
   have htk:List.take (n + m) (xs.toArray ++ news.toArray ++ Builtin.zeroCells z.cells (grownCap w (n + m) cap e - (n + m))).toList=xs ++ news:=by
    simp only [Array.toList_append,List.append_assoc]
    rw [<- List.append_assoc]
    exact List.take_left' (by rw [List.length_append,hr.len,hl])
   rw [htk] at hrow
   exact hrow
theorem wp_append_row {o:Oper} {a:Act} {K:Act -> World -> Prop} {Q:Exit -> Act -> World -> Prop} (s x:Operand) (t:TypeId)
 (ho:o.op=.call { callee:=.builtin .append,args:=#[s,x],argTypes:=#[t,t] })
 (e:TypeId) (i:TypeInfo) (z:Value) (bytes:Nat) (ht:P.underlying t=some (.slice e)) (hi:P.info? e=some i) (hz:i.zero=some z)
 (hsize:i.size=1) (hby:i.bytes=bytes) (hzs:z.cells.size=1)
 (base g n cap:Nat) (xs:List Value) (hs:a.eval s=.slice (some ⟨g,0,none⟩) n cap) (hr:Row w base g n cap xs)
 (ad:Addr) (m c:Nat) (news:List Value) (hx:a.eval x=.slice (some ad) m c) (hl:news.length=m) (hnews:∀ j u,news[j]?=some u -> w.cell? (ad.add j)=some u) (h1:∀ u ∈ news,u.oneCell'=true)
 (h63:n + m <= maxLen) (hbytes:(n + m) * bytes <= 140737488355328) (hbase:base <= w.heap.size) (H:Nat) (hH:w.heap.size=H)
 (h:∀ g' cap' w',Row w' base g' (n + m) cap' (xs ++ news) -> w.grownBy w' (some g) -> (g'=g \/ g'=H) →
  (∀ j,j < n -> w'.cell? ⟨g,j,none⟩=w.cell? ⟨g,j,none⟩) -> K (a.put o.dst (.slice (some ⟨g',0,none⟩) (n + m) cap')) w'):o.wp P a w K Q:=by
 obtain ⟨g',cap',w',hrun,h2,h3,h4,h5⟩:=run_append_row (P:=P) w t o.type e i z bytes ht hi hz hsize hby hzs base g n cap xs hr ad m c news hl hnews h1 h63 hbytes hbase H hH
 unfold Oper.wp execOp
 simp only [ho,resolve,invoke,builtin,Sem.run_bind,Sem.run_pure,Result.andThen_ok,List.map_toArray,List.map_cons,List.map_nil,hs,hx,hrun]
 exact h g' cap' w' h2 h3 h4 h5
theorem step_append_row {ops:Array Oper} {o:Oper} {a:Act} {K:Act -> World -> Prop} {Q:Exit -> Act -> World -> Prop} {E:Prop} (hgd:o.guard=none) (s x:Operand) (t:TypeId)
 (ho:o.op=.call { callee:=.builtin .append,args:=#[s,x],argTypes:=#[t,t] })
 (e:TypeId) (i:TypeInfo) (z:Value) (bytes:Nat) (ht:P.underlying t=some (.slice e)) (hi:P.info? e=some i) (hz:i.zero=some z)
 (hsize:i.size=1) (hby:i.bytes=bytes) (hzs:z.cells.size=1)
 (base g n cap:Nat) (xs:List Value) (hs:a.eval s=.slice (some ⟨g,0,none⟩) n cap) (hr:Row w base g n cap xs)
 (ad:Addr) (m c:Nat) (news:List Value) (hx:a.eval x=.slice (some ad) m c) (hl:news.length=m) (hnews:∀ j u,news[j]?=some u -> w.cell? (ad.add j)=some u) (h1:∀ u ∈ news,u.oneCell'=true)
 (h63:n + m <= maxLen) (hbytes:(n + m) * bytes <= 140737488355328) (hbase:base <= w.heap.size) (H:Nat) (hH:w.heap.size=H)
 (h:∀ g' cap' w',Row w' base g' (n + m) cap' (xs ++ news) -> w.grownBy w' (some g) -> (g'=g \/ g'=H) →
  (∀ j,j < n -> w'.cell? ⟨g,j,none⟩=w.cell? ⟨g,j,none⟩) -> K (a.put o.dst (.slice (some ⟨g',0,none⟩) (n + m) cap')) w') :
 if Region.wanted o (yielded ops a.tmps)=true then Oper.wp P o a w K Q else E:=by
 have hw:Region.wanted o (yielded ops a.tmps)=true:=by simp [Region.wanted,hgd]
 rw [if_pos hw]
 exact wp_append_row w s x t ho e i z bytes ht hi hz hsize hby hzs base g n cap xs hs hr ad m c news hx hl hnews h1 h63 hbytes hbase H hH h
theorem wpList_append_row {ops:Array Oper} {rest:List Oper} {o:Oper} {a:Act} {Q:Exit -> Act -> World -> Prop} (hgd:o.guard=none) (s x:Operand) (t:TypeId)
 (ho:o.op=.call { callee:=.builtin .append,args:=#[s,x],argTypes:=#[t,t] })
 (e:TypeId) (i:TypeInfo) (z:Value) (bytes:Nat) (ht:P.underlying t=some (.slice e)) (hi:P.info? e=some i) (hz:i.zero=some z)
 (hsize:i.size=1) (hby:i.bytes=bytes) (hzs:z.cells.size=1)
 (base g n cap:Nat) (xs:List Value) (hs:a.eval s=.slice (some ⟨g,0,none⟩) n cap) (hr:Row w base g n cap xs)
 (ad:Addr) (m c:Nat) (news:List Value) (hx:a.eval x=.slice (some ad) m c) (hl:news.length=m) (hnews:∀ j u,news[j]?=some u -> w.cell? (ad.add j)=some u) (h1:∀ u ∈ news,u.oneCell'=true)
 (h63:n + m <= maxLen) (hbytes:(n + m) * bytes <= 140737488355328) (hbase:base <= w.heap.size) (H:Nat) (hH:w.heap.size=H)
 (h:∀ g' cap' w',Row w' base g' (n + m) cap' (xs ++ news) -> w.grownBy w' (some g) -> (g'=g \/ g'=H) →
  (∀ j,j < n -> w'.cell? ⟨g,j,none⟩=w.cell? ⟨g,j,none⟩) -> wpList P ops Q rest (a.put o.dst (.slice (some ⟨g',0,none⟩) (n + m) cap')) w'):wpList P ops Q (o :: rest) a w :=
 wpList_plain hgd fun _ hK=>wp_append_row w s x t ho e i z bytes ht hi hz hsize hby hzs base g n cap xs hs hr ad m c news hx hl hnews h1 h63 hbytes hbase H hH fun g' cap' w' h2 h3 h4 h5=>hK _ _ (h g' cap' w' h2 h3 h4 h5)
theorem wpList_bytes_row {ops:Array Oper} {rest:List Oper} {o:Oper} {a:Act} {Q:Exit -> Act -> World -> Prop} (hgd:o.guard=none) (x:Operand) (src dst e:TypeId)
 (ho:o.op=.convert src dst x) (s:ByteArray) (hs:a.eval x=.string s)
 (h1:P.underlying src=some .string) (h2:P.underlying dst=some (.slice e)) (h3:P.underlying e=some (.int .u8))
 (h:∀ g cap w',Row w' w.heap.size g s.size cap (s.data.toList.map B) -> Below w.heap.size w w' -> wpList P ops Q rest (a.put o.dst (.slice (some ⟨g,0,none⟩) s.size cap)) w'):wpList P ops Q (o :: rest) a w :=
 wpList_plain hgd fun _ hK=>by
  have hrun:=run_bytes_of_string (P:=P) w src dst e s h1 h2 h3
  have hge:=grownCap_ge w s.size 0 e
  have hsz:(bytesRow s (grownCap w s.size 0 e)).size=grownCap w s.size 0 e:=by
   unfold bytesRow
   rw [Array.size_append,Array.size_map,Array.size_replicate]
   show s.size + _=_
   omega
  have hnew:=heap_alloc_new w.drew (.cells (bytesRow s (grownCap w s.size 0 e)) e ((bytesRow s (grownCap w s.size 0 e)).size,(bytesRow s (grownCap w s.size 0 e)).size + 1))
  have hrow:=Row.of_block (base:=w.heap.size) (Nat.le_refl _) hnew s.size (by rw [hsz];exact hge) (.inr rfl)
  have htk:List.take s.size (bytesRow s (grownCap w s.size 0 e)).toList=s.data.toList.map B:=by
   unfold bytesRow
   rw [Array.toList_append,Array.toList_map]
   exact List.take_left' (by rw [List.length_map];rfl)
  rw [htk,hsz] at hrow
  rw [hsz] at hrun
  unfold Oper.wp execOp
  simp only [ho,hs,Sem.run_bind,Sem.run_pure,Result.andThen_ok,hrun]
  exact hK _ _ (h _ _ _ hrow ⟨rfl,rfl,rfl,by simp,fun k hk=>Below.heap_alloc w.drew _ k hk⟩)
theorem wpList_string_row {ops:Array Oper} {rest:List Oper} {o:Oper} {a:Act} {Q:Exit -> Act -> World -> Prop} (hgd:o.guard=none) (x:Operand) (src dst e:TypeId)
 (ho:o.op=.convert src dst x) (base g n cap:Nat) (l:List UInt8) (hx:a.eval x=.slice (some ⟨g,0,none⟩) n cap) (hr:Row w base g n cap (l.map B))
 (h1:P.underlying src=some (.slice e)) (h2:P.underlying e=some (.int .u8)) (h3:P.underlying dst=some .string)
 (h:wpList P ops Q rest (a.put o.dst (.string ⟨l.toArray⟩)) w):wpList P ops Q (o :: rest) a w :=
 wpList_plain hgd fun _ hK=>by
  have hl:l.length=n:=by have:=hr.len;simpa using this
  subst hl
  have hrun:=run_convert_bytes_back (P:=P) w src dst e ⟨g,0,none⟩ cap l h1 h2 h3 (fun j hj=>by
   have hadd:(⟨g,0,none⟩:Addr).add j=⟨g,j,none⟩:=by unfold Addr.add;split <;> simp_all
   rw [hadd,hr.cell j hj,List.getElem?_map,List.getElem?_eq_getElem hj];rfl)
  unfold Oper.wp execOp
  simp only [ho,hx,Sem.run_bind,Sem.run_pure,Result.andThen_ok,hrun]
  exact hK _ _ h
end
end Go.Proofs.Sha
namespace Go.Proofs.Sha
open Go Go.RowKit
def blocks (p:List UInt8):Nat -> List UInt32
 | 0=>hTab
 | q + 1=>comp (blocks p q) (p.drop (64 * q))
def byteAt (x:UInt32) (i:Nat):UInt8:=UInt8.ofNat (x.toNat / 2 ^ (8 * i))
def outTo (h:List UInt32):Nat -> List UInt8
 | 0=>[]
 | k + 1=>outTo h k ++ [byteAt (h.getD k 0) 3,byteAt (h.getD k 0) 2,byteAt (h.getD k 0) 1,byteAt (h.getD k 0) 0]
theorem outTo_length (h:List UInt32) (k:Nat):(outTo h k).length=4 * k:=by
 induction k with
 | zero=>rfl
 | succ k ih=>simp [outTo,ih];omega
def sha (l:List UInt8):List UInt8:=outTo (blocks (pad l) ((pad l).length / 64)) 8
theorem pad_mod (l:List UInt8):(pad l).length % 64=0:=by
 rw [pad_length];have:=zpad_eq l.length;omega
theorem byteAt_form (x:UInt32) (i:Nat):IntKind.u8.wrap ((x.toNat:Int) / 2 ^ (8 * i))=((byteAt x i).toNat:Int):=by
 unfold byteAt
 rw [IntKind.wrap_u8',UInt8.toNat_ofNat']
 have e:((x.toNat / 2 ^ (8 * i) % 2 ^ 8:Nat):Int)=((x.toNat:Int) / 2 ^ (8 * i) % 256):=by
  rw [Int.natCast_emod,Int.natCast_ediv,Int.natCast_pow];rfl
 exact e.symm
theorem byte3 (x:UInt32):IntKind.u8.wrap ((x.toNat:Int) / (16777216:Int))=((byteAt x 3).toNat:Int):=byteAt_form x 3
theorem byte2 (x:UInt32):IntKind.u8.wrap ((x.toNat:Int) / (65536:Int))=((byteAt x 2).toNat:Int):=byteAt_form x 2
theorem byte1 (x:UInt32):IntKind.u8.wrap ((x.toNat:Int) / (256:Int))=((byteAt x 1).toNat:Int):=byteAt_form x 1
theorem byte0 (x:UInt32):IntKind.u8.wrap (x.toNat:Int)=((byteAt x 0).toNat:Int):=by
 have:=byteAt_form x 0
 simpa using this
theorem outTo_succ (h:List UInt32) (k:Nat) (x:UInt32) (hx:h.getD k 0=x) :
 (outTo h (k + 1)).map B=(outTo h k).map B ++ [.int .u8 (IntKind.u8.wrap ((x.toNat:Int) / (16777216:Int))),.int .u8 (IntKind.u8.wrap ((x.toNat:Int) / (65536:Int))),.int .u8 (IntKind.u8.wrap ((x.toNat:Int) / (256:Int))),.int .u8 (IntKind.u8.wrap (x.toNat:Int))]:=by
 rw [outTo,hx,List.map_append,byte3,byte2,byte1,byte0];rfl
theorem tab_cell (L:List UInt32) (j:Nat) (hj:j < L.length):(L.map U).toArray[j]?=some (.int .u32 ((L.getD j 0).toNat:Int)):=by
 rw [List.getElem?_toArray,List.getElem?_map,List.getD_eq_getElem?_getD,List.getElem?_eq_getElem hj];rfl
theorem row_b {w:World} {base g n cap:Nat} {L:List UInt8} (h:Row w base g n cap (L.map B)) (j:Nat) (hj:j < n):w.cell? ⟨g,j,none⟩=some (.int .u8 ((L.getD j 0).toNat:Int)):=by
 have hL:L.length=n:=by have:=h.len;simpa using this
 rw [h.cell j hj,List.getElem?_map,List.getD_eq_getElem?_getD,List.getElem?_eq_getElem (by omega)];rfl
theorem row_u {w:World} {base g n cap:Nat} {L:List UInt32} (h:Row w base g n cap (L.map U)) (j:Nat) (hj:j < n):w.cell? ⟨g,j,none⟩=some (.int .u32 ((L.getD j 0).toNat:Int)):=by
 have hL:L.length=n:=by have:=h.len;simpa using this
 rw [h.cell j hj,List.getElem?_map,List.getD_eq_getElem?_getD,List.getElem?_eq_getElem (by omega)];rfl
theorem two_blocks (w:World) (L M:List UInt32) (e:TypeId) :
 (∀ j,j < L.length -> ((w.alloc (.cells (L.map U).toArray e)).alloc (.cells (M.map U).toArray e)).cell? ⟨w.heap.size,j,none⟩=some (.int .u32 ((L.getD j 0).toNat:Int))) ∧
 (∀ j,j < M.length -> ((w.alloc (.cells (L.map U).toArray e)).alloc (.cells (M.map U).toArray e)).cell? ⟨w.heap.size + 1,j,none⟩=some (.int .u32 ((M.getD j 0).toNat:Int))):=by
 constructor
 · intro j hj
   have h1:((w.alloc (.cells (L.map U).toArray e)).alloc (.cells (M.map U).toArray e)).heap[w.heap.size]?=some (.cells (L.map U).toArray e):=by
    rw [Below.heap_alloc _ _ _ (by simp)];exact heap_alloc_new w _
   rw [cell_of_row _ _ _ _ _ _ h1];exact tab_cell L j hj
 · intro j hj
   rw [cell_of_row _ _ _ _ _ _ (heap_alloc2_new w _ _)];exact tab_cell M j hj
end Go.Proofs.Sha
namespace Go.Proofs.YtibjhkpgaaapaaaGreatDoor
open Go.RowKit Go.Proofs.Sha Tryz
def sh (z:Int) (low:Bool) (i:Int):Int:=if low then 8 * i else 8 * (z - 1 - i)
theorem shift_any (z:Int) (low:Bool) (i:Int) (w:World) (hz:0 <= z) (hz4:z <= 8) (hi:0 <= i) (hi4:i < z) :
 Calls prog 232 #[.agg #[.int .i64 z,.bool low],.int .i64 i] w fun e w'=>e=.returned (.int .i64 (sh z low i)) /\ Below w.heap.size w w':=by
 cases low
 · go_enter func232,ntmps232
   go_wp2
   go_ret
   exact ⟨rfl,(Below.refl _ _).alloc (Nat.le_refl _) _⟩
 · go_enter func232,ntmps232
   go_wp2
   go_ret
   exact ⟨rfl,(Below.refl _ _).alloc (Nat.le_refl _) _⟩
def Bld (b:Nat) (l:List UInt8) (w:World):Prop:=Lib.IsBuilderF 165 5 b b (Lib.byteCells l) w
def Put (b:Nat) (l:List UInt8) (w w':World):Prop:=Bld b l w' /\ Below b w w' /\ Lib.OthersKept 5 (some b) w w'
theorem Bld.lt {b:Nat} {l:List UInt8} {w:World} (h:Bld b l w):b < w.heap.size:=by
 rcases h with h | h
 · exact h.lt
 · exact h.lt
theorem Bld.alloc {b:Nat} {l:List UInt8} {w:World} (h:Bld b l w) (o:Obj):Bld b l (w.alloc o):=by
 rcases h with h | h
 · exact .inl (h.alloc o)
 · exact .inr (h.alloc o)
theorem Put.refl {b:Nat} {l:List UInt8} {w:World} (h:Bld b l w):Put b l w w:=⟨h,Below.refl _ _,Lib.OthersKept.refl _ _ _⟩
theorem Put.trans {b:Nat} {l m:List UInt8} {w w' w'':World} (h:Put b l w w') (h':Put b m w' w''):Put b m w w'':=⟨h'.1,h.2.1.trans h'.2.1,h.2.2.trans h'.2.2⟩
theorem Put.alloc {b:Nat} {l:List UInt8} {w w':World} (h:Put b l w w') (o:Obj):Put b l w (w'.alloc o):=⟨h.1.alloc o,h.2.1.alloc (Nat.le_of_lt h.1.lt) o,h.2.2.alloc o⟩
theorem wb_any (b:Nat) (l:List UInt8) (c:Int) (w:World) (x:UInt8) (hc:c=(x.toNat:Int)) (h:Bld b l w) (hl:l.length <= 10000000) :
 Calls prog 234 #[.pointer (some ⟨b,0,none⟩),.int .u8 c] w fun e w'=>e=.returned .nilIface /\ Put b (l ++ [x]) w w':=by
 refine (Tryz.Builder_WriteByte_k b b _ c w h (by rw [Lib.byteCells_length];omega) (Nat.le_of_lt h.lt)).mono ?_
 rintro e w' ⟨rfl,h1,h2,h3⟩
 refine ⟨rfl,.inr ?_,h2,h3⟩
 rw [Lib.byteCells_append]
 rw [hc] at h1
 exact h1
theorem ws_any (b:Nat) (l:List UInt8) (s:ByteArray) (w:World) (h:Bld b l w) (hl:l.length + s.size <= 10000000) :
 Calls prog 241 #[.pointer (some ⟨b,0,none⟩),.string s] w fun e w'=>e=.returned (.tuple #[.int .i64 s.size,.nilIface]) /\ Put b (l ++ s.data.toList) w w':=by
 refine (Tryz.Builder_WriteString_k b b _ s w h (by rw [Lib.byteCells_length];omega) (Nat.le_of_lt h.lt)).mono ?_
 rintro e w' ⟨rfl,h1,h2,h3⟩
 refine ⟨rfl,.inr ?_,h2,h3⟩
 rw [Lib.byteCells_append]
 exact h1
def numByte (z:Nat) (low:Bool) (v i:Nat):UInt8:=UInt8.ofNat (v / 2 ^ (8 * (if low then i else z - 1 - i)))
def numTo (z:Nat) (low:Bool) (v:Nat):Nat -> List UInt8
 | 0=>[]
 | i + 1=>numTo z low v i ++ [numByte z low v i]
theorem numTo_length (z:Nat) (low:Bool) (v:Nat):∀ i,(numTo z low v i).length=i
 | 0=>rfl
 | i + 1=>by rw [numTo,List.length_append,numTo_length z low v i];rfl
theorem Bld.heap {b:Nat} {l:List UInt8} {w w':World} (h:Bld b l w) (hb:∀ k,k < w.heap.size -> w'.heap[k]?=w.heap[k]?):Bld b l w':=by
 have H:∀ p,Lib.BuilderAtF 165 5 b b p (Lib.byteCells l) w -> Lib.BuilderAtF 165 5 b b p (Lib.byteCells l) w':=by
  rintro p ⟨h1,v,h2,h3,h4⟩
  have l2:=(Array.getElem?_eq_some_iff.1 h2).1
  refine ⟨h1,v,(hb b l2).trans h2,⟨h3.1,?_⟩,h4⟩
  rcases h3.2 with hn | ⟨g,cap,cur,fz,hv,hbg,hg,rest⟩
  · exact .inl hn
  · exact .inr ⟨g,cap,cur,fz,hv,hbg,(hb g (Array.getElem?_eq_some_iff.1 hg).1).trans hg,rest⟩
 rcases h with h | h
 · exact .inl (H _ h)
 · exact .inr (H _ h)
theorem Bld.below {b:Nat} {l:List UInt8} {w w':World} (h:Bld b l w) (hb:Below w.heap.size w w'):Bld b l w':=h.heap hb.block
theorem Put.below {b:Nat} {l:List UInt8} {w w' w'':World} (h:Put b l w w') (hb:Below w'.heap.size w' w''):Put b l w w'' :=
 ⟨h.1.below hb,h.2.1.trans (hb.mono (Nat.le_of_lt h.1.lt)),fun k o hk hkb ho=>by
  have h1:=h.2.2 k o hk hkb ho
  exact (hb.block k (Array.getElem?_eq_some_iff.1 h1).1).trans h1⟩
theorem Put.cells {b k:Nat} {l:List UInt8} {w w':World} {cs:Array Value} {t:TypeId} (h:Put b l w w') (hk:w.heap[k]?=some (.cells cs t)) (hne:k ≠ b) (ht:t ≠ 5):w'.heap[k]?=some (.cells cs t) :=
 h.2.2 k _ hk (fun e=>hne (Option.some.inj e)) (fun c fz e=>ht (by cases e;rfl))
theorem below_cells {k:Nat} {w w':World} {o:Obj} (h:Below w.heap.size w w') (hk:w.heap[k]?=some o):w'.heap[k]?=some o :=
 (h.block k (Array.getElem?_eq_some_iff.1 hk).1).trans hk
theorem byte_of_shift (v k:Nat):((v:Int) / 2 ^ k % 256)=((UInt8.ofNat (v / 2 ^ k)).toNat:Int):=by
 rw [UInt8.toNat_ofNat',show (2:Nat) ^ 8=256 from rfl]
 obtain ⟨p,hp⟩:∃ p:Nat,2 ^ k=p:=⟨_,rfl⟩
 have hp':(2:Int) ^ k=(p:Int):=by rw [<- hp,Int.natCast_pow];rfl
 rw [hp,hp',Int.natCast_emod,Int.natCast_ediv]
 rfl
theorem nput (z:Nat) (low:Bool) (b:Nat) (v:Nat) (l:List UInt8) (w:World) (hz:0 < z) (hz4:z <= 7) (h:Bld b l w) (hl:l.length <= 9000000) (_hv:v <= 9223372036854775807) :
 Calls prog 231 #[.agg #[.int .i64 (z:Int),.bool low],.pointer (some ⟨b,0,none⟩),.int .i64 (v:Int)] w fun e w'=>e=.returned (.tuple #[]) /\ Put b (l ++ numTo z low v z) w w':=by
 go_enter func231,ntmps231
 go_wp2
 go_loopw [9] (fun t9 wr=>∃ i:Nat,i <= z /\ t9=.int .i64 (i:Int) /\ Put b (l ++ numTo z low v i) w wr /\ wr.heap[w.heap.size]?=some (.cells #[.int .i64 (z:Int),.bool low] 208)) (fun t9 _=>z - (intOf t9).toNat)
 case atStart =>
  refine ⟨0,Nat.zero_le _,rfl,?_,heap_alloc_new _ _⟩
  rw [numTo,List.append_nil]
  exact (Put.refl h).alloc _
 case round =>
  obtain ⟨i,hi,rfl,hp,hn⟩:=hrel
  by_cases h1:i < z
  · have z1:decide ((i:Int) < (z:Int))=true:=by simp;omega
    have c0:wr.cell? ⟨w.heap.size,0,none⟩=some (.int .i64 (z:Int)):=ZC hn 0
    have c1:wr.cell? ⟨w.heap.size,1,none⟩=some (.bool low):=ZC hn 1
    obtain ⟨k,hk,hk56,hkb⟩:∃ k:Nat,sh z low i=(k:Int) /\ k <= 56 /\ numByte z low v i=UInt8.ofNat (v / 2 ^ k):=by
     unfold sh numByte
     cases low
     · exact ⟨8 * (z - 1 - i),by simp only [Bool.false_eq_true,if_false];omega,by omega,rfl⟩
     · exact ⟨8 * i,by simp only [if_true];omega,by omega,rfl⟩
    have HC:Hid (∀ w',Calls prog 232 #[.agg #[.int .i64 (z:Int),.bool low],.int .i64 (i:Int)] w' fun e w''=>e=.returned (.int .i64 (k:Int)) /\ Below w'.heap.size w' w''):=fun w'=>by rw [<- hk];exact shift_any _ _ _ w' (by omega) (by omega) (by omega) (by omega)
    have k0:(0:Int) <= (k:Int):=by omega
    go_wp2_with (first | (go_at_call 232;refine (HC.out _).mono ?_;rintro e w1 ⟨rfl,hb1⟩) | (go_at_call 234;refine (wb_any b _ _ w1 _ (byte_of_shift v k) (hp.1.below hb1) (by rw [List.length_append,numTo_length];omega)).mono ?_;rintro e w2 ⟨rfl,hp2⟩))
    have hne:w.heap.size ≠ b:=by have:=h.lt;omega
    refine ⟨⟨i + 1,by omega,congrArg (Value.int .i64) (by omega),?_,hp2.cells (below_cells hb1 hn) hne (by decide)⟩,?_⟩
    · have:=(hp.below hb1).trans hp2
      rw [numTo,hkb,<- List.append_assoc]
      exact this
    · show z - ((i:Int) + 1).toNat < z - ((i:Int)).toNat
      omega
  · have z1:decide ((i:Int) < (z:Int))=false:=by simp;omega
    go_wp2
    have e:i=z:=by omega
    subst e
    go_end0
    exact ⟨rfl,hp⟩
theorem wint (z:Nat) (low:Bool) (b:Nat) (v:Nat) (l:List UInt8) (w:World) (hz:0 < z) (hz4:z <= 7) (h:Bld b l w) (hl:l.length <= 9000000) (hv:v <= 9223372036854775807) :
 Calls prog 223 #[.pointer (some ⟨b,0,none⟩),.iface 208 (.agg #[.int .i64 (z:Int),.bool low]),.int .i64 (v:Int)] w fun e w'=>e=.returned (.tuple #[]) /\ Put b (l ++ numTo z low v z) w w':=by
 have hmt : ∀ w : World, (method 427 208 (.agg #[.int .i64 (z : Int), .bool low]) "loop.example/s03048/impl.put").run prog w = .ok (231, .agg #[.int .i64 (z : Int), .bool low]) w := fun _ => by kernel_rfl
 go_enter func223,ntmps223
 go_wp2_with (first | (go_at_call 231;refine (nput z low b v l w hz hz4 h hl hv).mono ?_;rintro e w2 ⟨rfl,hp2⟩))
 go_end0
 exact ⟨rfl,hp2⟩
theorem plain_put (n:Int) (b:Nat) (s:ByteArray) (l:List UInt8) (w:World) (h:Bld b l w) (hl:l.length + s.size <= 9000000) :
 Calls prog 239 #[.agg #[.int .i64 n],.pointer (some ⟨b,0,none⟩),.string s] w fun e w'=>e=.returned (.tuple #[]) /\ Put b (l ++ s.data.toList) w w':=by
 go_enter func239,ntmps239
 go_wp2_with (first | (go_at_call 241;refine (ws_any b l s _ (h.alloc _) (by omega)).mono ?_;rintro e w2 ⟨rfl,hp2⟩))
 go_end0
 exact ⟨rfl,((Put.refl h).alloc _).trans hp2⟩
theorem wplain (n:Int) (b:Nat) (s:ByteArray) (l:List UInt8) (w:World) (h:Bld b l w) (hl:l.length + s.size <= 9000000) :
 Calls prog 224 #[.pointer (some ⟨b,0,none⟩),.iface 214 (.agg #[.int .i64 n]),.string s] w fun e w'=>e=.returned (.tuple #[]) /\ Put b (l ++ s.data.toList) w w':=by
 have hmt : ∀ w : World, (method 427 214 (.agg #[.int .i64 n]) "loop.example/s03048/impl.put").run prog w = .ok (239, .agg #[.int .i64 n]) w := fun _ => by kernel_rfl
 go_enter func224,ntmps224
 go_wp2_with (first | (go_at_call 239;refine (plain_put n b s l w h hl).mono ?_;rintro e w2 ⟨rfl,hp2⟩))
 go_end0
 exact ⟨rfl,hp2⟩
theorem sized_put (z:Nat) (low:Bool) (b:Nat) (s:ByteArray) (l:List UInt8) (w:World) (hz:0 < z) (hz4:z <= 7) (h:Bld b l w) (hl:l.length + s.size <= 8000000) :
 Calls prog 243 #[.agg #[.int .i64 (z:Int),.bool low],.pointer (some ⟨b,0,none⟩),.string s] w fun e w'=>e=.returned (.tuple #[]) /\ Put b (l ++ numTo z low s.size z ++ s.data.toList) w w':=by
 go_enter func243,ntmps243
 go_wp2_with (first | (go_at_call 223;refine (wint z low b s.size l _ hz hz4 (h.alloc _) (by omega) (by omega)).mono ?_;rintro e w2 ⟨rfl,hp2⟩) | (go_at_call 224;refine (wplain _ b s _ _ hp2.1 (by rw [List.length_append,numTo_length];omega)).mono ?_;rintro e w3 ⟨rfl,hp3⟩))
 go_end0
 exact ⟨rfl,(((Put.refl h).alloc _).trans hp2).trans hp3⟩
theorem wsized (z:Nat) (low:Bool) (b:Nat) (s:ByteArray) (l:List UInt8) (w:World) (hz:0 < z) (hz4:z <= 7) (h:Bld b l w) (hl:l.length + s.size <= 8000000) :
 Calls prog 224 #[.pointer (some ⟨b,0,none⟩),.iface 261 (.agg #[.int .i64 (z:Int),.bool low]),.string s] w fun e w'=>e=.returned (.tuple #[]) /\ Put b (l ++ numTo z low s.size z ++ s.data.toList) w w':=by
 have hmt : ∀ w : World, (method 427 261 (.agg #[.int .i64 (z : Int), .bool low]) "loop.example/s03048/impl.put").run prog w = .ok (243, .agg #[.int .i64 (z : Int), .bool low]) w := fun _ => by kernel_rfl
 go_enter func224,ntmps224
 go_wp2_with (first | (go_at_call 243;refine (sized_put z low b s l w hz hz4 h hl).mono ?_;rintro e w2 ⟨rfl,hp2⟩))
 go_end0
 exact ⟨rfl,hp2⟩
theorem wint1 (b:Nat) (v:Nat) (l:List UInt8) (w:World) (h:Bld b l w) (hl:l.length <= 9000000) (hv:v <= 9223372036854775807) :
 Calls prog 223 #[.pointer (some ⟨b,0,none⟩),.iface 208 (.agg #[.int .i64 1,.bool false]),.int .i64 (v:Int)] w fun e w'=>e=.returned (.tuple #[]) /\ Put b (l ++ [UInt8.ofNat v]) w w':=by
 have:=wint 1 false b v l w (by omega) (by omega) h hl hv
 have e:numTo 1 false v 1=[UInt8.ofNat v]:=by simp [numTo,numByte]
 rw [e] at this
 exact this
theorem fresh_bld (w:World):Bld w.heap.size [] (w.alloc (.cells #[.pointer none,.slice none 0 0] 165)):=Lib.IsBuilderF.of (Lib.fresh_isBuilder 165 5 w)
theorem bstring (b:Nat) (l:List UInt8) (w:World) (h:Bld b l w) :
 Calls prog 114 #[.pointer (some ⟨b,0,none⟩)] w fun e w'=>e=.returned (.string ⟨l.toArray⟩) /\ Below b w w':=by
 refine (Tryz.Builder_String_any_k b b l w h (Nat.le_of_lt h.lt)).mono ?_
 rintro e w' ⟨rfl,_,hb,_⟩
 exact ⟨rfl,hb⟩
theorem fresh_bld1 (w:World) (o:Obj):Bld (w.heap.size + 1) [] ((w.alloc o).alloc (.cells #[.pointer none,.slice none 0 0] 165)):=by
 have:=fresh_bld (w.alloc o)
 rwa [show (w.alloc o).heap.size=w.heap.size + 1 by simp] at this
end Go.Proofs.YtibjhkpgaaapaaaGreatDoor
