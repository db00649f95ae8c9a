import Derived.Test.YtibjhkpgaaapaaaGreatDoorZiaw
import Derived.Test.YtibjhkpgaaapaaaGreatDoorZiak
import Derived.Deep.AppendLies
namespace Go.Proofs.YtibjhkpgaaapaaaGreatDoor
open Go.RowKit Go.Proofs.Sha Tryz
abbrev NodeT:=ByteArray × ByteArray × ByteArray × ByteArray
def flatN:List NodeT->List Value
 | []=>[]
 | p :: l=>.string p.1 :: .string p.2.1 :: .string p.2.2.1 :: .string p.2.2.2 :: flatN l
theorem flatN_app:∀l m:List NodeT,flatN (l++m)=flatN l++flatN m
 | [],m=>rfl
 | p :: l,m=>by simp only[List.cons_append,flatN,flatN_app l m]
def noNode:NodeT:=(⟨#[]⟩,⟨#[]⟩,⟨#[]⟩,⟨#[]⟩)
theorem flatN_get:∀ (l:List NodeT) (j:Nat),j<l.length->(flatN l)[j*4]?=some (.string (l.getD j noNode).1)/\(flatN l)[j*4+1]?=some (.string (l.getD j noNode).2.1)/\(flatN l)[j*4+2]?=some (.string (l.getD j noNode).2.2.1)/\(flatN l)[j*4+3]?=some (.string (l.getD j noNode).2.2.2)
 | [],j,h=>absurd h (Nat.not_lt_zero _)
 | p :: l,0,_=>⟨rfl,rfl,rfl,rfl⟩
 | p :: l,j+1,h=>by
  have:=flatN_get l j (by simpa using h)
  rw[show (j+1)*4=j*4+4 by omega]
  simpa[flatN] using this
def nodesP (wd:Nat):PT->List NodeT
 | .f k v l r=>(k,v,hashP wd l,hashP wd r) :: (nodesP wd l++nodesP wd r)
 | _=>[]
theorem qbi (wd:Nat):∀t:PT,(nodesP wd t).length=cP t
 | .e=>rfl
 | .s _=>rfl
 | .f k v l r=>by rw[nodesP,cP,List.length_cons,List.length_append,qbi wd l,qbi wd r];omega
def shapeP:PT->List UInt8
 | .e=>[69]
 | .s _=>[83]
 | .f _ _ l r=>70 :: (shapeP l++shapeP r)
theorem qcn:∀t:PT,(shapeP t).length=2*cP t+1
 | .e=>rfl
 | .s _=>rfl
 | .f k v l r=>by rw[shapeP,cP,List.length_cons,List.length_append,qcn l,qcn r];omega
theorem qcx {w:World}{base g n:Nat}{v:Value}{xs:List Value}(h:w.ownsRow base 73 4 v n xs)(hv:v.ownBlock=some g):base<=g/\g<w.heap.size/\∃cur,w.heap[g]?=some (.cells cur 73 (0,0)):=by
 rcases h.2 with ⟨rfl,_⟩|⟨g',cap,cur,rfl,hb,hg,_⟩
 ·cases hv
 ·obtain rfl:g'=g:=Option.some.inj hv;exact⟨hb,(zG hg).1,cur,hg⟩
theorem qdc {w w':World}{base n:Nat}{v:Value}{xs:List Value}(h:w.ownsRow base 73 4 v n xs)(hk:∀g,v.ownBlock=some g->g<w.heap.size->w'.heap[g]?=w.heap[g]?):w'.ownsRow base 73 4 v n xs:=by
 refine⟨h.1,?_⟩;rcases h.2 with ⟨h1,h2⟩|⟨g,cap,cur,hv,hb,hg,rest⟩
 ·exact .inl ⟨h1,h2⟩
 ·exact .inr ⟨g,cap,cur,hv,hb,(hk g (by rw[hv];rfl) (zG hg).1).trans hg,rest⟩
theorem own4_mono {w:World}{base base' n:Nat}{v:Value}{xs:List Value}(h:w.ownsRow base 73 4 v n xs)(hb:base'<=base):w.ownsRow base' 73 4 v n xs:=by
 refine⟨h.1,?_⟩;rcases h.2 with ⟨h1,h2⟩|⟨g,cap,cur,hv,hg,rest⟩
 ·exact .inl ⟨h1,h2⟩
 ·exact .inr ⟨g,cap,cur,hv,Nat.le_trans hb hg,rest⟩
structure NArg (a:Option Addr) (ns:List NodeT) (w:World):Prop where
 le:ns.length<=1000
 cells:0<ns.length->∃b,a=some ⟨b,0,none⟩/\b<w.heap.size/\∀j,j<ns.length->w.cell? ⟨b,j*4,none⟩=some (.string (ns.getD j noNode).1)/\w.cell? ⟨b,j*4+1,none⟩=some (.string (ns.getD j noNode).2.1)/\w.cell? ⟨b,j*4+2,none⟩=some (.string (ns.getD j noNode).2.2.1)/\w.cell? ⟨b,j*4+3,none⟩=some (.string (ns.getD j noNode).2.2.2)
theorem NArg.below {a:Option Addr}{ns:List NodeT}{w w':World}{B:Nat}(h:NArg a ns w)(hb:Below B w w')(hB:∀b,a=some ⟨b,0,none⟩->0<ns.length->b<B):NArg a ns w' :=
 ⟨h.le,λhn=>by
  obtain⟨b,e,hl,hc⟩:=h.cells hn
  have hbl:=hb.block b (hB b e hn)
  have hcell:∀i,w'.cell? ⟨b,i,none⟩=w.cell? ⟨b,i,none⟩:=λi=>by unfold World.cell?;simp only[hbl]
  exact⟨b,e,Nat.lt_of_lt_of_le hl hb.size,λj hj=>by simp only[hcell];exact hc j hj⟩⟩
theorem own4_narg {w:World}{base cap:Nat}{a:Option Addr}{ns:List NodeT}(h:w.ownsRow base 73 4 (.slice a ns.length cap) ns.length (flatN ns))(hs:ns.length<=1000):NArg a ns w:=by
 refine⟨hs,λhn=>?_⟩;rcases h.2 with ⟨e,h0⟩|⟨g,cap',cur,e,hb,hg,q1,q2,q3,q4⟩
 ·omega
 ·simp only[Value.slice.injEq] at e;obtain⟨rfl,_,_⟩:=e;refine⟨g,rfl,(zG hg).1,λj hj=>?_⟩;obtain⟨e0,e1,e2,e3⟩:=flatN_get ns j hj;rw[<-q4] at e0 e1 e2 e3;rw[List.getElem?_take,if_pos (by omega)] at e0 e1 e2 e3;exact⟨(ZC hg _).trans (by simpa using e0),(ZC hg _).trans (by simpa using e1),(ZC hg _).trans (by simpa using e2),(ZC hg _).trans (by simpa using e3)⟩
theorem info73:(prog.info? 73).map (λi=>(i.zero,i.size,i.bytes))=some (some (.agg #[.string ⟨#[]⟩,.string ⟨#[]⟩,.string ⟨#[]⟩,.string ⟨#[]⟩]),4,64):=by kernel_rfl
def RdAt (wd:Nat) (R:Option (PT × Nat × Nat)) (w:World) (e:Ending) (w':World):Prop :=
 (∀t a' c',R=some (t,a',c')->∃ (x y:ByteArray) (a:Option Addr) (cap:Nat),e=.returned (.agg #[.string x,.slice a (nodesP wd t).length cap,.string y,.int .i64 (a':Int)])/\Hid (x=hashP wd t)/\Hid (y.data.toList=shapeP t)/\w'.ownsRow w.heap.size 73 4 (.slice a (nodesP wd t).length cap) (nodesP wd t).length (flatN (nodesP wd t)))/\(R=none->e=.returned (.agg #[.string ⟨#[]⟩,.slice none 0 0,.string ⟨#[]⟩,.int .i64 (-1)]))/\Below w.heap.size w w'
theorem none_any (w:World):Calls prog 83 #[] w λe w'=>e=.returned (.agg #[.string ⟨#[]⟩,.slice none 0 0,.string ⟨#[]⟩,.int .i64 (-1)])/\Below w.heap.size w w':=by
 go_enter func83,ntmps83;go_wp2;have n:=heap_alloc_new w (.cells #[.string ⟨#[]⟩,.slice none 0 0,.string ⟨#[]⟩,.int .i64 (-1)] 65);have c0:=ZC n 0;have c1:=ZC n 1;have c2:=ZC n 2;have c3:=ZC n 3;refine bodyPost_ret (v:=.agg #[.string ⟨#[]⟩,.slice none 0 0,.string ⟨#[]⟩,.int .i64 (-1)]) ?_ rfl ⟨rfl,(Below.refl _ _).alloc (Nat.le_refl _) _⟩;simp[results,Tryz.results83,go_sem,asAddr,c0,c1,c2,c3]
structure LQ (w:World) (ga gb gr:Nat) (wd:Nat) (lo hi s over under:ByteArray) (W:World):Prop where
 sz:w.heap.size=ga
 o1:ga<gb
 o2:gb<gr
 bl:Below w.heap.size w W
 nq:W.heap[ga]?=some (.cells #[.int .i64 (wd:Int),.string lo,.string hi,.string s] 131)
 nb:W.heap[gb]?=some (.cells #[.string over,.string under] 94)
 nr:W.heap[gr]?=some (.cells #[.string ⟨#[]⟩,.slice none 0 0,.string ⟨#[]⟩,.int .i64 0] 65)
section
variable {w:World} {ga gb gr:Nat} {wd:Nat} {lo hi s over under:ByteArray} {W W':World}
theorem LQ.lt (h:LQ w ga gb gr wd lo hi s over under W):gr<W.heap.size:=(zG h.nr).1
theorem LQ.upto {B:Nat}(h:LQ w ga gb gr wd lo hi s over under W)(hb:Below B W W')(hB:gr<B):LQ w ga gb gr wd lo hi s over under W':=by
 have h1:=h.o1;have h2:=h.o2;have h3:=h.sz;exact⟨h3,h1,h2,h.bl.trans (hb.mono (by omega)),(hb.block _ (by omega)).trans h.nq,(hb.block _ (by omega)).trans h.nb,(hb.block _ hB).trans h.nr⟩
theorem LQ.below (h:LQ w ga gb gr wd lo hi s over under W)(hb:Below W.heap.size W W'):LQ w ga gb gr wd lo hi s over under W':=h.upto hb h.lt
theorem LQ.mk0 (w:World)(wd:Nat)(lo hi s over under:ByteArray):LQ w w.heap.size (w.heap.size+1) (w.heap.size+1+1) wd lo hi s over under (((w.alloc (.cells #[.int .i64 (wd:Int),.string lo,.string hi,.string s] 131)).alloc (.cells #[.string over,.string under] 94)).alloc (.cells #[.string ⟨#[]⟩,.slice none 0 0,.string ⟨#[]⟩,.int .i64 0] 65)):=by
 have e1:=heap_alloc_new w (.cells #[.int .i64 (wd:Int),.string lo,.string hi,.string s] 131);have e2:=heap_alloc_new (w.alloc (.cells #[.int .i64 (wd:Int),.string lo,.string hi,.string s] 131)) (.cells #[.string over,.string under] 94);have e3:=heap_alloc_new ((w.alloc (.cells #[.int .i64 (wd:Int),.string lo,.string hi,.string s] 131)).alloc (.cells #[.string over,.string under] 94)) (.cells #[.string ⟨#[]⟩,.slice none 0 0,.string ⟨#[]⟩,.int .i64 0] 65);simp only[World.size_alloc] at e1 e2 e3;refine⟨rfl,by omega,by omega,(((Below.refl _ _).alloc (Nat.le_refl _) _).alloc (by simp) _).alloc (by simp;omega) _,?_,?_,e3⟩
 ·rw[Below.heap_alloc _ _ _ (by simp <;> omega),Below.heap_alloc _ _ _ (by simp)];exact e1
 ·rw[Below.heap_alloc _ _ _ (by simp)];exact e2
theorem LQ.fin (h:LQ w ga gb gr wd lo hi s over under W)(v0 v1 v2 v3:Value) : ((((W.setCell ⟨gr,0,none⟩ v0).setCell ⟨gr,1,none⟩ v1).setCell ⟨gr,2,none⟩ v2).setCell ⟨gr,3,none⟩ v3).heap[gr]?=some (.cells #[v0,v1,v2,v3] 65)/\Below w.heap.size w ((((W.setCell ⟨gr,0,none⟩ v0).setCell ⟨gr,1,none⟩ v1).setCell ⟨gr,2,none⟩ v2).setCell ⟨gr,3,none⟩ v3)/\(∀k,k ≠ gr->((((W.setCell ⟨gr,0,none⟩ v0).setCell ⟨gr,1,none⟩ v1).setCell ⟨gr,2,none⟩ v2).setCell ⟨gr,3,none⟩ v3).heap[k]?=W.heap[k]?):=by
 have hg:w.heap.size<=gr:=by have:=h.sz;have:=h.o1;have:=h.o2;omega
 refine⟨heap_setCell_same _ gr 3 _ 65 _ (heap_setCell_same _ gr 2 _ 65 _ (heap_setCell_same _ gr 1 _ 65 _ (heap_setCell_same _ gr 0 _ 65 _ h.nr))),(((h.bl.setCell hg _).setCell hg _).setCell hg _).setCell hg _,λk hk=>?_⟩;rw[Below.heap_setCell _ _ _ _ (by exact hk),Below.heap_setCell _ _ _ _ (by exact hk),Below.heap_setCell _ _ _ _ (by exact hk),Below.heap_setCell _ _ _ _ (by exact hk)]
end
theorem retR {W:World}{A:Act}{gr:Nat}{v0 v1 v2 v3:Value}{R:Ending->World->Prop}(hp:A.tmps.getD 10 undef=.pointer (some ⟨gr,0,none⟩))(hd:A.defers=[])(h:W.heap[gr]?=some (.cells #[v0,v1,v2,v3] 65))(hR:R (.returned (.agg #[v0,v1,v2,v3])) W):bodyPost prog Tryz.f84 R .ret A W:=by
 have q0:=ZC h 0;have q1:=ZC h 1;have q2:=ZC h 2;have q3:=ZC h 3;refine bodyPost_ret (v:=.agg #[v0,v1,v2,v3]) ?_ hd hR;rw[qbf W (fn:=Tryz.f84) (p:=10) (ty:=65) rfl A.tmps _ hp];exact run_loadVar_mid W gr 0 65 [v0,v1,v2,v3] _ (λj u hj=>by
  match j,hj with
  | 0,hj=>simpa using q0.trans (by simpa using hj)
  | 1,hj=>simpa using q1.trans (by simpa using hj)
  | 2,hj=>simpa using q2.trans (by simpa using hj)
  | 3,hj=>simpa using q3.trans (by simpa using hj)) Tryz.underlying65 rfl (by kernel_rfl)
theorem LQ.none {w:World}{ga gb gr wd:Nat}{lo hi s over under:ByteArray}{W:World}(h:LQ w ga gb gr wd lo hi s over under W){A:Act}{R:Option (PT × Nat × Nat)}(hR:R=none)(hp:A.tmps.getD 10 undef=.pointer (some ⟨gr,0,Option.none⟩))(hd:A.defers=[]) : bodyPost prog Tryz.f84 (RdAt wd R w) .ret A ((((W.setCell ⟨gr,0,Option.none⟩ (.string ⟨#[]⟩)).setCell ⟨gr,1,Option.none⟩ (.slice Option.none 0 0)).setCell ⟨gr,2,Option.none⟩ (.string ⟨#[]⟩)).setCell ⟨gr,3,Option.none⟩ (.int .i64 (-1))):=by
 obtain⟨h1,h2,h3⟩:=h.fin (.string ⟨#[]⟩) (.slice Option.none 0 0) (.string ⟨#[]⟩) (.int .i64 (-1));subst hR;exact retR hp hd h1 ⟨λt a' c' h=>(by cases h),λ_=>rfl,h2⟩
theorem LQ.good {w:World}{ga gb gr wd:Nat}{lo hi s over under:ByteArray}{W:World}(h:LQ w ga gb gr wd lo hi s over under W){A:Act}{R:Option (PT × Nat × Nat)}{t:PT}{a' c':Nat}(hR:R=some (t,a',c'))(x y:ByteArray)(a:Option Addr)(cap n:Nat)(hx:x=hashP wd t)(hy:y.data.toList=shapeP t)(hn:(nodesP wd t).length=n)(ho:W.ownsRow w.heap.size 73 4 (.slice a n cap) n (flatN (nodesP wd t)))(ai:Int)(hai:ai=(a':Int))(hp:A.tmps.getD 10 undef=.pointer (some ⟨gr,0,Option.none⟩))(hd:A.defers=[]) : bodyPost prog Tryz.f84 (RdAt wd R w) .ret A ((((W.setCell ⟨gr,0,Option.none⟩ (.string x)).setCell ⟨gr,1,Option.none⟩ (.slice a n cap)).setCell ⟨gr,2,Option.none⟩ (.string y)).setCell ⟨gr,3,Option.none⟩ (.int .i64 ai)):=by
 obtain⟨h1,h2,h3⟩:=h.fin (.string x) (.slice a n cap) (.string y) (.int .i64 ai);subst hR;subst hn;refine retR hp hd h1 ⟨λt' a'' c'' h'=>?_,λh'=>(by cases h'),h2⟩;cases h';refine⟨x,y,a,cap,by rw[hai],hx,hy,qdc ho (λg hv hg=>h3 g (λe=>?_))⟩;obtain⟨_,_,cur,h9⟩:=qcx ho hv;rw[e,h.nr] at h9;simp only[Option.some.injEq,Obj.cells.injEq] at h9;exact absurd h9.2.1 (by decide)
end Go.Proofs.YtibjhkpgaaapaaaGreatDoor
