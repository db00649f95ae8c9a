import Derived.Test.YtibjhkpgaaapaaaGreatDoorZhbs
import Derived.Deep.DeepCutAuto
import Derived.Test.YtibjhkpgaaapaaaGreatDoorZhbk
import Derived.Test.YtibjhkpgaaapaaaGreatDoorZhbg
import Derived.Test.YtibjhkpgaaapaaaGreatDoorZhad
set_option maxRecDepth 100000
set_option maxHeartbeats 20000000
namespace Go.Proofs.YtibjhkpgaaapaaaGreatDoor
open Go.RowKit Go.Proofs.Sha Tryz
def butT (ys:List ByteArray) (y:Nat):Nat -> List ByteArray
 | 0=>[]
 | k + 1=>if k=y then butT ys y k else butT ys y k ++ [ys.getD k ⟨#[]⟩]
theorem butT_sm {ys:List ByteArray} {n s:Nat} (h:SmT ys n s) (y:Nat):∀ k,SmT (butT ys y k) k s
 | 0=>⟨Nat.le_refl _,fun x hx=>by cases hx⟩
 | k + 1=>by
  have ih:=butT_sm h y k
  rw [butT]
  split
  · exact ⟨Nat.le_succ_of_le ih.len,ih.sz⟩
  · exact ih.app (m:=1) ⟨Nat.le_refl _,fun x hx=>by rw [List.mem_singleton.1 hx];exact h.getD k⟩
theorem HS.put {fz:Nat -> Option Obj} {ex:Option Nat} {w0:World} {gp g wd:Nat} {ss ys roots:List ByteArray} {ap:Option Addr} {cp:Nat} {ao:Option Addr} {co:Nat} {ar:Option Addr} {cr:Nat} {W:World} (h:HS fz ex w0 gp g wd ss ys roots ap cp ao co ar cr W) {zs:List ByteArray} {a':Option Addr} {c':Nat} (hT:OwnT w0 zs a' zs.length c' W) (hd:∀ b,(Value.slice ar roots.length cr).ownBlock=some b -> (Value.slice a' zs.length c').ownBlock ≠ some b) (hob:∀ b,(Value.slice a' zs.length c').ownBlock=some b -> gp <= b):HS fz ex w0 gp g wd ss zs roots ap cp a' c' ar cr (W.setCell ⟨g,1,none⟩ (.slice a' zs.length c')):=by
 have hge:w0.heap.size <= g:=by have:=h.n0;have:=h.n1;omega
 have n1:=h.n1
 exact ⟨(Below.heap_setCell _ _ _ _ (by show gp ≠ g;omega)).trans h.par,(Below.heap_setCell _ _ _ _ (by show gp + 1 ≠ g;omega)).trans h.res,heap_setCell_same W g 1 _ 31 (.slice a' zs.length c') h.out,h.n0,h.n1,hT.set h.out hge _,h.rown.set h.out hge _,hd,fun q hq he=>(Below.heap_setCell _ _ _ _ (by show q ≠ g;omega)).trans (h.fr q hq he),h.rb,hob⟩
theorem HS.seti {fz:Nat -> Option Obj} {ex:Option Nat} {w0:World} {gp g wd:Nat} {ss ys roots:List ByteArray} {ap:Option Addr} {cp:Nat} {b co:Nat} {ar:Option Addr} {cr:Nat} {W:World} (h:HS fz ex w0 gp g wd ss ys roots ap cp (some ⟨b,0,none⟩) co ar cr W) (y:Nat) (t:ByteArray):HS fz ex w0 gp g wd ss (ys.set y t) roots ap cp (some ⟨b,0,none⟩) co ar cr (W.setCell ⟨b,y,none⟩ (.string t)):=by
 have hl:(ys.set y t).length=ys.length:=List.length_set ..
 obtain ⟨hb0,hb1,cur,hb2⟩:=ownG_cells h.oown.own (g:=b) rfl
 have hne:∀ q (cs:Array Value),W.heap[q]?=some (Obj.cells cs 31) -> (W.setCell ⟨b,y,none⟩ (.string t)).heap[q]?=some (Obj.cells cs 31):=fun q cs hq=>(Below.heap_setCell _ _ _ _ (by show q ≠ b;exact ne_of_type hq hb2 (by decide))).trans hq
 obtain ⟨k1,k2⟩:=h.oown.own.stored y (.string t)
 refine ⟨hne _ _ h.par,hne _ _ h.res,by rw [hl];exact hne _ _ h.out,h.n0,h.n1,⟨by rw [hl,List.map_set];exact k1,h.oown.bel.setCell (p:=⟨b,y,none⟩) hb0 _,rfl⟩,⟨ownG_kept h.rown.own (fun q hv _=>Below.heap_setCell _ _ _ _ (by show q ≠ b;intro e;subst e;exact h.dis q hv rfl)),h.rown.bel.setCell (p:=⟨b,y,none⟩) hb0 _,h.rown.len⟩,by rw [hl];exact h.dis,fun q hq he=>(Below.heap_setCell _ _ _ _ (by show q ≠ b;have:=h.ob b rfl;omega)).trans (h.fr q hq he),h.rb,by rw [hl];exact h.ob⟩
theorem HS.root {fz:Nat -> Option Obj} {ex:Option Nat} {w0:World} {gp g wd:Nat} {ss ys roots:List ByteArray} {ap:Option Addr} {cp:Nat} {ao:Option Addr} {co:Nat} {ar:Option Addr} {cr:Nat} {W:World} (h:HS fz ex w0 gp g wd ss ys roots ap cp ao co ar cr W) {w5:World} {o:Obj} {g5 c5:Nat} {v:ByteArray} (hown:w5.ownsRow w0.heap.size 9 1 (.slice (some ⟨g5,0,none⟩) (roots.length + 1) c5) (roots.length + 1) (roots.map Value.string ++ [.string v])) (hgrow:(W.alloc o).grownBy w5 (Value.slice ar roots.length cr).ownBlock) (hat:(Value.slice ar roots.length cr).ownBlock=some g5 \/ g5=W.heap.size + 1) :
 HS fz ex w0 gp g wd ss ys (roots ++ [v]) ap cp ao co (some ⟨g5,0,none⟩) c5 w5:=by
 have hlen:(roots ++ [v]).length=roots.length + 1:=by rw [List.length_append];rfl
 have hblk:∀ {q:Nat} {cs:Array Value},W.heap[q]?=some (Obj.cells cs 31) -> w5.heap[q]?=some (Obj.cells cs 31):=fun {q cs} hq=>by
  have hl:=(Array.getElem?_eq_some_iff.1 hq).1
  refine (hgrow.block q (by simp;omega) (fun e=>?_)).trans ((Below.heap_alloc W o q hl).trans hq)
  obtain ⟨_,_,cur,h9⟩:=ownG_cells h.rown.own e.symm
  rw [hq] at h9
  simp at h9
 have hT:=h.rown.more hown hgrow rfl
 refine ⟨hblk h.par,hblk h.res,hblk h.out,h.n0,h.n1,⟨ownG_kept h.oown.own (fun q hv hq=>?_),hT.bel,rfl⟩,by rw [hlen];exact hT,fun b hb he=>?_,fun q hq he=>?_,fun b hb hlt=>?_,h.ob⟩
 · exact (hgrow.block q (by simp;omega) (fun e=>h.dis q e.symm hv)).trans (Below.heap_alloc W o q hq)
 · have hq:g5=b:=Option.some.inj hb
   subst hq
   rcases hat with r | r
   · exact h.dis g5 r he
   · have:=(ownG_cells h.oown.own he).2.1
     omega
 · have hql:=(Array.getElem?_eq_some_iff.1 h.par).1
   exact (hgrow.block q (by simp;omega) (fun e=>he (h.rb q e.symm hq))).trans ((Below.heap_alloc W o q (by omega)).trans (h.fr q hq he))
 · have hq:g5=b:=Option.some.inj hb
   subst hq
   rcases hat with r | r
   · exact h.rb g5 r hlt
   · have hql:=(Array.getElem?_eq_some_iff.1 h.par).1
     omega
def NQ (gn:Nat) (k l r:ByteArray) (W:World):Prop:=W.heap[gn]?=some (.cells #[.string k,.string ⟨#[]⟩,.string l,.string r] 73)
theorem NQ.below {gn:Nat} {k l r:ByteArray} {W W':World} (h:NQ gn k l r W) (hb:Below W.heap.size W W'):NQ gn k l r W':=(hb.block gn (Array.getElem?_eq_some_iff.1 h).1).trans h
theorem NQ.all {gn:Nat} {k l r:ByteArray} {W:World} (h:NQ gn k l r W) (k' l' r':ByteArray):NQ gn k' l' r' ((((W.setCell ⟨gn,0,none⟩ (.string k')).setCell ⟨gn,1,none⟩ (.string ⟨#[]⟩)).setCell ⟨gn,2,none⟩ (.string l')).setCell ⟨gn,3,none⟩ (.string r')) :=
 heap_setCell_same _ gn 3 _ 73 (.string r') (heap_setCell_same _ gn 2 _ 73 (.string l') (heap_setCell_same _ gn 1 _ 73 (.string ⟨#[]⟩) (heap_setCell_same W gn 0 _ 73 (.string k') h)))
theorem NQ.at {gn:Nat} {k l r:ByteArray} {W:World} (h:NQ gn k l r W):W.cell? ⟨gn,0,none⟩=some (.string k) /\ W.cell? ⟨gn,1,none⟩=some (.string ⟨#[]⟩) /\ W.cell? ⟨gn,2,none⟩=some (.string l) /\ W.cell? ⟨gn,3,none⟩=some (.string r) /\ ∀ j,W.frozen? ⟨gn,j,none⟩=false :=
 ⟨ZC h 0,ZC h 1,ZC h 2,ZC h 3,fun j=>by rw [World.frozen?,show W.heap[gn]?=_ from h];rfl⟩
section
variable {fz:Nat -> Option Obj} {ex:Option Nat} {w0:World} {gp g wd:Nat} {ss ys roots:List ByteArray} {ap:Option Addr} {cp:Nat} {ao:Option Addr} {co:Nat} {ar:Option Addr} {cr:Nat} {W:World}
theorem HS.setn (h:HS fz ex w0 gp g wd ss ys roots ap cp ao co ar cr W) {gn:Nat} {k l r:ByteArray} (hn:NQ gn k l r W) (hg:w0.heap.size <= gn) (hgg:gp <= gn) (o:Nat) (u:Value):HS fz ex w0 gp g wd ss ys roots ap cp ao co ar cr (W.setCell ⟨gn,o,none⟩ u):=by
 have hne:∀ q (cs:Array Value),W.heap[q]?=some (Obj.cells cs 31) -> (W.setCell ⟨gn,o,none⟩ u).heap[q]?=some (Obj.cells cs 31):=fun q cs hq=>(Below.heap_setCell _ _ _ _ (by show q ≠ gn;exact ne_of_type hq hn (by decide))).trans hq
 have ho:∀ {xs:List ByteArray} {a:Option Addr} {m c:Nat},OwnT w0 xs a m c W -> OwnT w0 xs a m c (W.setCell ⟨gn,o,none⟩ u):=fun {xs a m c} hT=>⟨ownG_kept hT.own (fun q hv _=>Below.heap_setCell _ _ _ _ (by show q ≠ gn;obtain ⟨_,_,cur,h9⟩:=ownG_cells hT.own hv;exact ne_of_type h9 hn (by decide))),hT.bel.setCell (p:=⟨gn,o,none⟩) hg _,hT.len⟩
 exact ⟨hne _ _ h.par,hne _ _ h.res,hne _ _ h.out,h.n0,h.n1,ho h.oown,ho h.rown,h.dis,fun q hq he=>(Below.heap_setCell _ _ _ _ (by show q ≠ gn;omega)).trans (h.fr q hq he),h.rb,h.ob⟩
theorem HS.grow (h:HS fz ex w0 gp g wd ss ys roots ap cp ao co ar cr W) {w5:World} {o:Obj} {g5 c5:Nat} {v:ByteArray} (hown:w5.ownsRow w0.heap.size 9 1 (.slice (some ⟨g5,0,none⟩) (ys.length + 1) c5) (ys.length + 1) (ys.map Value.string ++ [.string v])) (hgrow:(W.alloc o).grownBy w5 (Value.slice ao ys.length co).ownBlock) (hat:(Value.slice ao ys.length co).ownBlock=some g5 \/ g5=W.heap.size + 1) :
 HS fz ex w0 gp g wd ss ys roots ap cp ao co ar cr (W.alloc o) /\ HS fz ex w0 gp g wd ss (ys ++ [v]) roots ap cp (some ⟨g5,0,none⟩) c5 ar cr (w5.setCell ⟨g,1,none⟩ (.slice (some ⟨g5,0,none⟩) (ys.length + 1) c5)) /\ w5.heap[g]?=some (.cells #[.int .i64 (wd:Int),.slice ao ys.length co] 31):=by
 have hlen:(ys ++ [v]).length=ys.length + 1:=by rw [List.length_append];rfl
 have hblk:∀ {q:Nat} {cs:Array Value},W.heap[q]?=some (Obj.cells cs 31) -> w5.heap[q]?=some (Obj.cells cs 31):=fun {q cs} hq=>by
  have hl:=(Array.getElem?_eq_some_iff.1 hq).1
  refine (hgrow.block q (by simp;omega) (fun e=>?_)).trans ((Below.heap_alloc W o q hl).trans hq)
  obtain ⟨_,_,cur,h9⟩:=ownG_cells h.oown.own e.symm
  rw [hq] at h9
  simp at h9
 have hT:=h.oown.more hown hgrow rfl
 have hge:w0.heap.size <= g:=by have:=h.n0;have:=h.n1;omega
 have n1:=h.n1
 have hR:OwnT w0 roots ar roots.length cr w5:=⟨ownG_kept h.rown.own (fun q hv hq=>(hgrow.block q (by simp;omega) (fun e=>h.dis q hv e.symm)).trans (Below.heap_alloc W o q hq)),hT.bel,rfl⟩
 refine ⟨h.below ((Below.refl _ _).alloc (Nat.le_refl _) _),⟨(Below.heap_setCell _ _ _ _ (by show gp ≠ g;omega)).trans (hblk h.par),(Below.heap_setCell _ _ _ _ (by show gp + 1 ≠ g;omega)).trans (hblk h.res),by rw [hlen];exact heap_setCell_same w5 g 1 _ 31 _ (hblk h.out),h.n0,h.n1,by rw [hlen];exact hT.set (hblk h.out) hge _,hR.set (hblk h.out) hge _,fun b hb he=>?_,fun q hq he=>(Below.heap_setCell _ _ _ _ (by show q ≠ g;omega)).trans ((hgrow.block q (by have:=(Array.getElem?_eq_some_iff.1 h.par).1;simp;omega) (fun e=>by have:=h.ob q e.symm;omega)).trans ((Below.heap_alloc W o q (by have:=(Array.getElem?_eq_some_iff.1 h.par).1;omega)).trans (h.fr q hq he))),h.rb,fun b hb=>?_⟩,hblk h.out⟩
 · have hq:g5=b:=Option.some.inj he
   subst hq
   rcases hat with r | r
   · exact h.dis g5 hb r
   · have:=(ownG_cells h.rown.own hb).2.1
     omega
 · have hq:g5=b:=Option.some.inj hb
   subst hq
   rcases hat with r | r
   · exact h.ob g5 r
   · have hql:=(Array.getElem?_eq_some_iff.1 h.par).1
     omega
end
theorem hurt_all (a:Option Addr) (xs:List Nat) (cap p wd:Nat) (ss roots:List ByteArray) (x y:Nat) (hss:SmT ss 500 10000) (hr:SmT roots 4 32)
 (HT:(∀ w,BL a xs w -> Calls prog 58 #[.slice a xs.length cap,.int .i64 (p:Int),.int .i64 6] w fun e w'=>e=.returned (.tuple #[.int .i64 (x:Int),.int .i64 ((p + 1:Nat):Int)]) /\ Below w.heap.size w w')) (HT2:(∀ w,BL a xs w -> Calls prog 58 #[.slice a xs.length cap,.int .i64 ((p + 1:Nat):Int),.int .i64 (ss.length:Int)] w fun e w'=>e=.returned (.tuple #[.int .i64 (y:Int),.int .i64 ((p + 1 + 1:Nat):Int)]) /\ Below w.heap.size w w')) (hw1:1 <= wd) (hw2:wd <= 32) (HDg:Hid DigSaid) (ss' roots':List ByteArray) (z:Nat)
 (hc:Hid ((ss.length=0 /\ ss=ss' /\ roots=roots' /\ p + 1 + 1=z) \/ (0 < ss.length /\ y < ss.length /\ ((x < 2 /\ butT ss y ss.length=ss' /\ roots=roots' /\ p + 1 + 1=z) \/ (x=2 /\ ∃ t:ByteArray,t.size <= 10001 /\ (∀ w,BL a xs w -> Calls prog 60 #[.slice a xs.length cap,.int .i64 ((p + 1 + 1:Nat):Int),.string (ss.getD y ⟨#[]⟩)] w fun e w'=>e=.returned (.string t) /\ Below w.heap.size w w') /\ ss.set y t=ss' /\ roots ++ [hashT wd t]=roots' /\ p + 1 + 1=z) \/ ∃ key l1 r1 E:ByteArray,E.size <= 10001 /\ (∀ w,BL a xs w -> Calls prog 135 #[.slice a xs.length cap,.int .i64 ((p + 1 + 1:Nat):Int)] w fun e w'=>e=.returned (.tuple #[.string key,.int .i64 ((p + 1 + 1 + 1:Nat):Int)]) /\ Below w.heap.size w w') /\ hashT wd (ss.getD y ⟨#[]⟩)=l1 /\ Hid (∀ w',Calls prog 40 #[.agg #[.string key,.string ⟨#[]⟩,.string l1,.string r1],.int .i64 (wd:Int)] w' fun e w''=>e=.returned (.string E) /\ Below w'.heap.size w' w'') /\ ss ++ [E]=ss' /\ roots ++ [hashT wd E]=roots' /\ p + 1 + 1 + 1=z /\ ((3 < x /\ r1=⟨#[]⟩) \/ (x=3 /\ hashT wd (ss.getD ((y * 3 + 1) % ss.length) ⟨#[]⟩)=r1)))))) :
 ∀ w0 w ap cp ar cr,BL a xs w0 -> SArg ap ss w -> OwnT w0 roots ar roots.length cr w -> Calls prog 157 #[.slice a xs.length cap,.int .i64 (p:Int),.agg #[.int .i64 (wd:Int),.slice ap ss.length cp],.slice ar roots.length cr] w (HGot (fun q=>w.heap[q]?) (Value.slice ar roots.length cr).ownBlock w.heap.size wd ss' roots' z w0):=by
 intro w0 w ap cp ar cr hB hS hR
 obtain ⟨fz,hfz⟩:∃ fz:Nat -> Option Obj,(fun q=>w.heap[q]?)=fz:=⟨_,rfl⟩
 rw [hfz]
 have hfq:Hid (∀ q:Nat,w.heap[q]?=fz q):=fun q=>congrFun hfz q
 clear hfz
 obtain ⟨ex,hex⟩:∃ ex,(Value.slice ar roots.length cr).ownBlock=ex:=⟨_,rfl⟩
 rw [hex]
 have hexh:Hid ((Value.slice ar roots.length cr).ownBlock=ex):=hex
 clear hex
 obtain ⟨gz,hgz⟩:∃ g,w.heap.size=g:=⟨_,rfl⟩
 rw [hgz]
 have hgzl:gz <= w.heap.size:=Nat.le_of_eq hgz.symm
 clear hgz
 have HC:Hid (∀ w',Below w.heap.size w w' -> Calls prog 80 #[.agg #[.int .i64 (wd:Int),.slice ap ss.length cp]] w' fun e w''=>∃ a' c',e=.returned (.agg #[.int .i64 (wd:Int),.slice a' ss.length c']) /\ OwnT w' ss a' ss.length c' w''):=fun w' hb=>copyPool_any (wd:Int) ap ss cp w' (hS.below hb)
 have hBw:=hB.below hR.bel
 have hBh:Hid (BL a xs w):=hBw
 have HT':Hid (∀ w',Below w.heap.size w w' -> Calls prog 58 #[.slice a xs.length cap,.int .i64 (p:Int),.int .i64 6] w' fun e w''=>e=.returned (.tuple #[.int .i64 (x:Int),.int .i64 ((p + 1:Nat):Int)]) /\ Below w'.heap.size w' w''):=fun w' hb=>HT w' (hBw.below hb)
 have HT2':Hid (∀ w',Below w.heap.size w w' -> Calls prog 58 #[.slice a xs.length cap,.int .i64 ((p + 1:Nat):Int),.int .i64 (ss.length:Int)] w' fun e w''=>e=.returned (.tuple #[.int .i64 (y:Int),.int .i64 ((p + 1 + 1:Nat):Int)]) /\ Below w'.heap.size w' w''):=fun w' hb=>HT2 w' (hBw.below hb)
 clear HT HT2
 have hslen:ss.length <= 500:=hss.len
 have hrlen:roots.length <= 4:=hr.len
 obtain ⟨L,hLL⟩:∃ L,xs.length=L:=⟨_,rfl⟩
 rw [hLL] at HT' HT2' hc ⊢
 obtain ⟨q2,hq2⟩:∃ q,p + 1 + 1=q:=⟨_,rfl⟩
 rw [hq2] at HT2' hc
 obtain ⟨q1,hq1⟩:∃ q,p + 1=q:=⟨_,rfl⟩
 rw [hq1] at HT' HT2'
 have hqq:p ≠ q1:=by omega
 clear hq1 hLL
 obtain ⟨N,hN⟩:∃ N,ss.length=N:=⟨_,rfl⟩
 rw [hN] at HT2' HC hslen hc ⊢
 obtain ⟨R,hRn⟩:∃ R,roots.length=R:=⟨_,rfl⟩
 rw [hRn] at hrlen ⊢
 have hA:Below w.heap.size w ((w.alloc (.cells #[.int .i64 (wd:Int),.slice ap N cp] 31)).alloc (.cells #[.int .i64 0,.slice none 0 0] 31)):=((Below.refl _ _).alloc (Nat.le_refl _) _).alloc (by simp) _
 have nA0:((w.alloc (.cells #[.int .i64 (wd:Int),.slice ap N cp] 31)).alloc (.cells #[.int .i64 0,.slice none 0 0] 31)).heap[w.heap.size]?=some (.cells #[.int .i64 (wd:Int),.slice ap N cp] 31):=(Below.heap_alloc _ _ _ (by simp)).trans (heap_alloc_new w _)
 have nA1:((w.alloc (.cells #[.int .i64 (wd:Int),.slice ap N cp] 31)).alloc (.cells #[.int .i64 0,.slice none 0 0] 31)).heap[w.heap.size + 1]?=some (.cells #[.int .i64 0,.slice none 0 0] 31):=by
  have:=heap_alloc_new (w.alloc (.cells #[.int .i64 (wd:Int),.slice ap N cp] 31)) (.cells #[.int .i64 0,.slice none 0 0] 31)
  rw [World.size_alloc] at this
  exact this
 have hgw:w0.heap.size <= w.heap.size:=hR.bel.size
 clear hBw hB hS
 go_enter func157,ntmps157
 go_upto_region 2 with fail
 generalize (w.alloc (.cells #[.int .i64 (wd:Int),.slice ap N cp] 31)).alloc (.cells #[.int .i64 0,.slice none 0 0] 31)=wA at hA nA0 nA1 ⊢
 obtain ⟨gp,hgp⟩:∃ g,w.heap.size=g:=⟨_,rfl⟩
 rw [hgp] at nA0 nA1 hgw
 try rw [hgp]
 have cA0:=ZC nA0 0
 have cA1:=ZC nA0 1
 go_upto_region 3 with (first | (go_at_call_of 58 (Value.int .i64 (p:Int));refine (HT'.out _ hA).mono ?_;rintro e w1 ⟨rfl,hb1⟩;have hbw1:=hA.trans (hb1.mono hA.size)))
 have nB0:=pblk_below hb1 nA0
 have nB1:=pblk_below hb1 nA1
 clear cA0 cA1 nA0 nA1
 have cA0:=ZC nB0 0
 have cA1:=ZC nB0 1
 go_upto_region 4 with (first | (go_at_call_of 58 (Value.int .i64 (q1:Int));refine (HT2'.out _ hbw1).mono ?_;rintro e w2 ⟨rfl,hb2⟩;have hbw2:=hbw1.trans (hb2.mono hbw1.size)))
 have nC0:=pblk_below hb2 nB0
 have nC1:=pblk_below hb2 nB1
 clear cA0 cA1 nB0 nB1
 have cA0:=ZC nC0 0
 have cA1:=ZC nC0 1
 go_upto_region 5 with (first | (go_at_call 80;refine (HC.out _ hbw2).mono ?_;rintro e w3 ⟨ao,co,rfl,hT3⟩))
 have al3:Below w3.heap.size w3 (w3.alloc (.cells #[.int .i64 (wd:Int),.slice ao N co] 31)):=(Below.refl _ _).alloc (Nat.le_refl _) _
 have hb23:Below w2.heap.size w2 (w3.alloc (.cells #[.int .i64 (wd:Int),.slice ao N co] 31)):=hT3.bel.trans (al3.mono hT3.bel.size)
 have hbw4:=hbw2.trans (hb23.mono hbw2.size)
 have hH:HS fz ex w0 gp w3.heap.size wd ss ss roots ap cp ao co ar cr (w3.alloc (.cells #[.int .i64 (wd:Int),.slice ao N co] 31)):=by
  refine ⟨by rw [hN];exact pblk_below hb23 nC0,pblk_below hb23 nC1,by rw [hN];exact heap_alloc_new w3 _,hgw,?_,?_,hR.below (hgp ▸ hbw4),fun b hb he=>?_,fun q hq he=>(hbw4.block q (by omega)).trans (hfq.out q),fun b hb _=>hexh.out.symm.trans hb,fun b hb=>?_⟩
  · have h1:=(Array.getElem?_eq_some_iff.1 nC1).1
    have:=hT3.bel.size
    omega
  · have h1:=OwnT.up (w:=w0) (hT3.below al3) (hR.bel.trans (hbw2.mono hR.bel.size))
    rw [hN]
    exact h1
  · have h1:=(ownG_cells hR.own hb).2.1
    rw [hN] at he
    have h2:=(ownG_cells hT3.own he).1
    have:=hbw2.size
    omega
  · rw [hN] at hb
    have h2:=(ownG_cells hT3.own hb).1
    have:=hbw2.size
    omega
 generalize w3.alloc (.cells #[.int .i64 (wd:Int),.slice ao N co] 31)=w4 at al3 hb23 hbw4 hH ⊢
 obtain ⟨g,hg⟩:∃ g,w3.heap.size=g:=⟨_,rfl⟩
 rw [hg] at hH
 try rw [hg]
 clear hg hT3 hb23 al3 nC0 nC1 cA0 cA1 hb1 hb2 hbw1 hbw2 HC HT' HT2' hA hqq
 have o0:=ZC hH.out 0
 have o1:=ZC hH.out 1
 rw [hN] at o1 o0
 rcases hc.out with ⟨h0,rfl,rfl,rfl⟩ | ⟨h0,hy,⟨hx2,rfl,rfl,rfl⟩ | ⟨hx2,t,ht,HSp,rfl,rfl,rfl⟩ | ⟨key,l1,r1,E,hE,HKy,hl1,HEn,rfl,rfl,rfl,⟨hx2,hr1⟩ | ⟨hx2,hr1⟩⟩⟩ <;> clear hc
 · clear hBh HDg
   have hfin:Hid (HGot fz ex gz wd ss roots q2 w0 _ _):=hH.fin (z:=q2) hss hr (by omega) (by omega) (by omega) (by omega) (by omega)
   have m1:=hH.m1
   rw [hN,hRn] at hfin
   rw [hN] at m1
   have e0:=ZC hH.res 0
   have e1:=ZC hH.res 1
   have ef:∀ j,w4.frozen? ⟨gp + 1,j,none⟩=false:=fun j=>by rw [World.frozen?,hH.res];rfl
   have zN:((N:Int) == 0)=true:=by simp;omega
   clear h0
   clear hH
   go_wp2_with fail
   exact retPT Tryz.results157 rfl rfl rfl rfl m1 hfin.out
 · clear hBh HDg
   have zN:((N:Int) == 0)=false:=by simp;omega
   have zx:decide ((x:Int) < 2)=true:=by simp;omega
   have hy':y < N:=by omega
   have alR:Below w4.heap.size w4 (w4.alloc (.cells #[] 9)):=(Below.refl _ _).alloc (Nat.le_refl _) _
   have hO:OwnT w4 [] (some ⟨w4.heap.size,0,none⟩) 0 0 (w4.alloc (.cells #[] 9)):=⟨⟨rfl,.inr ⟨_,0,#[],rfl,Nat.le_refl _,heap_alloc_new w4 _,by simp⟩⟩,alR,rfl⟩
   obtain ⟨i0,hi0,hz0,hz1,hz2⟩:=info_parts2 info9
   have hsa:SArg ao ss w4:=hH.oown.sarg hss (by omega) (by omega)
   go_upto_region 9 with fail
   generalize w4.alloc (.cells #[] 9)=w5 at alR hO ⊢
   clear o0 o1 alR
   obtain ⟨g4,hg4⟩:∃ g,w4.heap.size=g:=⟨_,rfl⟩
   rw [hg4] at hO
   try rw [hg4]
   have hNl:Hid (ss.length=N):=hN
   clear hN
   go_wp2_with fail
   go_loopw [14,15] (fun t14 t15 wr=>∃ k:Nat,k <= N /\ t15=.int .i64 (k:Int) /\ ∃ (a':Option Addr) (m c':Nat),t14=.slice a' m c' /\ OwnT w4 (butT ss y k) a' m c' wr) (fun _ t15 _=>N - (intOf t15).toNat)
   case atStart=>exact ⟨0,Nat.zero_le _,rfl,_,_,_,rfl,hO⟩
   case round =>
    clear hO
    obtain ⟨k,hk,rfl,a',m,c',rfl,hT⟩:=hrel
    have hHr:=hH.below hT.bel
    have o0:=ZC hHr.out 0
    have o1:=ZC hHr.out 1
    rw [hNl.out] at o0 o1
    have own:=hT.own
    have hbs:=hT.bel.size
    by_cases hlt:k < N
    · have z1:decide ((k:Int) < (N:Int))=true:=by simp;omega
      have hx0:(0:Int) <= (k:Int):=Int.natCast_nonneg _
      have hx1:(k:Int) < (N:Int):=by omega
      have hml:m <= 1048576:=by have:=hT.len;have:=(butT_sm hss y k).len;omega
      by_cases hky:k=y
      · have htk:Hid (butT ss y (k + 1)=butT ss y k):=by show _=_;rw [butT,if_pos hky]
        have z2:((k:Int) == (y:Int))=true:=by simp;omega
        have z3:((k:Int) != (y:Int))=false:=by simp;omega
        clear hHr
        go_wp2_with fail
        go_roundw
        case rel=>exact ⟨k + 1,hlt,by go_num,_,_,_,rfl,by rw [htk.out];exact hT⟩
        case measure=>simp [intOf];omega
      · have htk:Hid (butT ss y (k + 1)=butT ss y k ++ [ss.getD k ⟨#[]⟩]):=by show _=_;rw [butT,if_neg hky]
        have z2:((k:Int) == (y:Int))=false:=by simp;omega
        have z3:((k:Int) != (y:Int))=true:=by simp;omega
        obtain ⟨b1,off1,rfl,hbl1,hc⟩:=(hsa.below hT.bel).at_ (by rw [hNl.out];omega)
        have hc1:=hc k (by rw [hNl.out];exact hlt)
        generalize ss.getD k ⟨#[]⟩=u at hc1 htk
        clear hc hHr hsa
        go_wp2_with (at_builtin;refine wpList_append_lies _ rfl (.tmp 57) (.tmp 63) 25 rfl w4.heap.size 9 i0 (.string ⟨#[]⟩) 1 16 Tryz.underlying25 hi0 hz0 hz1 hz2 rfl (by decide) (.slice a' m c') m ((butT ss y k).map Value.string) rfl (own.alloc _) ⟨wr.heap.size,0,none⟩ 1 1 [.string u] rfl rfl (World.news_of_block (heap_alloc_new wr _)) (by simp [Value.oneCell']) (by decide) (by unfold maxLen;omega) (by omega) (by simp;omega) (wr.heap.size + 1) (by simp) ?_;intro g5 c5 w5 hown5 hgrow5 hat5 hlt5)
        go_roundw
        case rel=>exact ⟨k + 1,hlt,by go_num,_,_,_,rfl,by rw [htk.out];exact hT.more hown5 hgrow5 rfl⟩
        case measure=>simp [intOf];omega
    · obtain rfl:k=N:=by omega
      have z1:decide ((k:Int) < (k:Int))=false:=by simp
      have hl:=hT.len
      subst hl
      have hT0:OwnT w0 (butT ss y k) a' (butT ss y k).length c' wr:=hT.up (hR.bel.trans (hbw4.mono hR.bel.size))
      have hdd:∀ b,(Value.slice ar roots.length cr).ownBlock=some b -> (Value.slice a' (butT ss y k).length c').ownBlock ≠ some b:=fun b hb he=>by
       have h1:=(ownG_cells hH.rown.own hb).2.1
       have h2:=(ownG_cells hT.own he).1
       omega
      have hob:∀ b,(Value.slice a' (butT ss y k).length c').ownBlock=some b -> gp <= b:=fun b hb=>by
       have h2:=(ownG_cells hT.own hb).1
       have h3:=(Array.getElem?_eq_some_iff.1 hH.par).1
       omega
      have hP:=hHr.put hT0 hdd hob
      have gf:∀ j,wr.frozen? ⟨g,j,none⟩=false:=fun j=>by rw [World.frozen?,hHr.out];rfl
      clear hT0 hdd hob hT own hHr hH hsa
      go_upto_region 15 with fail
      have hbt:=butT_sm hss y k
      generalize wr.setCell ⟨g,1,none⟩ (.slice a' (butT ss y k).length c')=w6 at hP ⊢
      have hfin:Hid (HGot fz ex gz wd (butT ss y k) roots q2 w0 _ _):=hP.fin (z:=q2) hbt hr (by omega) (by omega) (by omega) (by omega) (by omega)
      have m1:=hP.m1
      rw [hRn] at hfin
      have e0:=ZC hP.res 0
      have e1:=ZC hP.res 1
      have ef:∀ j,w6.frozen? ⟨gp + 1,j,none⟩=false:=fun j=>by rw [World.frozen?,hP.res];rfl
      have p0:=ZC hP.out 0
      have p1:=ZC hP.out 1
      clear hP o0 o1 gf hbt
      generalize (butT ss y k).length=M at m1 hfin p0 p1 ⊢
      go_wp2_with fail
      exact retPT Tryz.results157 rfl rfl rfl rfl m1 hfin.out
 · have HSp':Hid (∀ w',Below w.heap.size w w' -> Calls prog 60 #[.slice a L cap,.int .i64 (q2:Int),.string (ss.getD y ⟨#[]⟩)] w' fun e w''=>e=.returned (.string t) /\ Below w'.heap.size w' w''):=fun w' hb=>HSp w' (hBh.out.below hb)
   clear HSp hBh
   have zN:((N:Int) == 0)=false:=by simp;omega
   have zx:decide ((x:Int) < 2)=false:=by simp;omega
   have zx2:((x:Int) == 2)=true:=by simp;omega
   have hy':y < N:=by omega
   have hx0:(0:Int) <= (y:Int):=Int.natCast_nonneg _
   have hx1:(y:Int) < (N:Int):=by omega
   obtain ⟨b,c9,hao,hb0,hb1⟩:=hH.oown.own.form (by omega)
   simp only [Value.slice.injEq] at hao
   obtain ⟨rfl,_,rfl⟩:=hao
   have hcy:w4.cell? ⟨b,y,none⟩=some (.string (ss.getD y ⟨#[]⟩)):=by
    rw [hH.oown.own.cellAt y (by omega),List.getElem?_map,List.getElem?_eq_getElem (by omega)]
    simp [List.getD_eq_getElem?_getD,List.getElem?_eq_getElem (show y < ss.length by omega)]
   generalize ss.getD y ⟨#[]⟩=u at hcy HSp'
   go_upto_region 17 with fail
   have hbd:Below w4.heap.size w4 w4.drew:=(Below.refl _ _).drew
   have HS17:Hid (∀ W,Below w4.heap.size w4 W -> W.cell? ⟨g,1,none⟩=some (.slice (some ⟨b,0,none⟩) N co)):=fun W hW=>by
    have:=ZC (hH.below hW).out 1
    rw [hN] at this
    exact this
   have hcy2:w4.drew.cell? ⟨b,y,none⟩=some (.string u):=hcy
   clear hcy o0 o1
   refine wp_region_held_drew (S:=fun W=>W.cell? ⟨g,1,none⟩=some (.slice (some ⟨b,0,none⟩) N co)) (by kernel_rfl) (HS17.out _ hbd) (fun hHeld=>?_)
   refine tkI 0 ?_
   simp only [Act.put,zq]
   refine tkI 1 ?_
   simp only [Act.put,zq]
   refine tkI 2 ?_
   simp only [Act.put,zq]
   refine tkI 3 ?_
   simp only [Act.put,zq]
   refine tkI 4 ?_
   simp only [Act.put,zq]
   refine tkI 5 ?_
   simp only [Act.put,zq]
   refine tkI 6 ?_
   simp only [Act.put,zq]
   refine tkI 7 ?_
   simp only [Act.put,zq]
   refine tkI 8 ?_
   simp only [Act.put,zq]
   refine rdH 9 (fun K hK=>?_)
   go_simp
   refine hK.out _ _ (HS17.out _ hbd) (fun hHeld=>?_)
   clear hK K
   refine rdH 10 (fun K hK=>?_)
   go_simp
   refine (HSp'.out _ (hbw4.trans (hbd.mono hbw4.size))).mono ?_
   rintro e w5 ⟨rfl,hb5⟩
   have hb5':=hbd.trans hb5
   refine hK.out _ _ (HS17.out _ hb5') (fun hHeld=>?_)
   clear hK K
   refine tkI 11 ?_
   simp only [Act.put,zq]
   have hH5:=hH.below hb5'
   have hH6:=hH5.seti y t
   have hcy5:w5.cell? ⟨b,y,none⟩=some (.string u):=(hb5.cell (p:=⟨b,y,none⟩) (by exact hb1)).trans hcy2
   have hfy5:w5.frozen? ⟨b,y,none⟩=false:=hH5.oown.own.frozenAt y
   have s1:=HS17.out _ hb5'
   have hS6:(w5.setCell ⟨b,y,none⟩ (.string t)).cell? ⟨g,1,none⟩=some (.slice (some ⟨b,0,none⟩) N co):=by
    have:=ZC hH6.out 1
    rw [List.length_set,hN] at this
    exact this
   refine rdH 12 (fun K hK=>?_)
   go_simp
   refine hK.out _ _ (hS6) (fun hHeld=>?_)
   clear hK K
   refine wpAnyH_done (by kernel_rfl) ?_ _
   generalize w5.setCell ⟨b,y,none⟩ (.string t)=w6 at hH6 hS6 ⊢
   have hyl:(ss.set y t).length=N:=by rw [List.length_set,hN]
   have hysm:SmT (ss.set y t) 500 10001:=⟨by rw [List.length_set];exact hss.len,fun x hx=>by
    rcases List.mem_or_eq_of_mem_set hx with q | q
    · have:=hss.sz x q;omega
    · rw [q];exact ht⟩
   have HS18:Hid (∀ (W:World) (rs:List ByteArray) (ar:Option Addr) (cr:Nat),HS fz ex w0 gp g wd ss (ss.set y t) rs ap cp (some ⟨b,0,none⟩) co ar cr W -> W.cell? ⟨g,0,none⟩=some (.int .i64 (wd:Int)) /\ W.cell? ⟨g,1,none⟩=some (.slice (some ⟨b,0,none⟩) N co) /\ W.cell? ⟨b,y,none⟩=some (.string t) /\ W.cell? ⟨gp,0,none⟩=some (.int .i64 (wd:Int))):=fun W rs ar cr hW=>by
    have h1:=ZC hW.out 1
    rw [hyl] at h1
    refine ⟨ZC hW.out 0,h1,?_,ZC hW.par 0⟩
    rw [hW.oown.own.cellAt y (by omega),List.map_set,List.getElem?_set_self (by rw [List.length_map];omega)]
   have HTx:Hid (∀ w',Calls prog 39 #[.string t] w' fun y w''=>y=.returned (.string (txt t)) /\ w''=w'):=fun w'=>ltxt_any t w' (by omega)
   have HD2:Hid (∀ w',Calls prog 23 #[.string (txt t),.int .i64 (wd:Int)] w' fun y w''=>y=.returned (.string (hashT wd t)) /\ Below w'.heap.size w' w''):=fun w'=>by
    have:=HDg.out (txt t) wd w' (by rw [txt_size];omega) hw1 hw2
    rw [txt_list] at this
    exact this
   have hhs:(hashT wd t).size <= 32:=by
    have:(hashT wd t).size <= wd:=List.length_take_le _ _
    omega
   have hsl:Hid (ss.set y t=ss.set y t):=rfl
   clear hH hH5 hcy2 hcy5 hfy5 s1 hS6 hb5 hb5' HS17 HSp' hbd HDg
   obtain ⟨i0,hi0,hz0,hz1,hz2⟩:=info_parts2 info9
   have hbd6:Below w6.heap.size w6 w6.drew:=(Below.refl _ _).drew
   have hH7:=hH6.below hbd6
   clear hH6
   go_upto_region 18 with fail
   refine wp_region_held_drew (S:=fun W=>W.cell? ⟨g,0,none⟩=some (.int .i64 (wd:Int)) /\ W.cell? ⟨g,1,none⟩=some (.slice (some ⟨b,0,none⟩) N co) /\ W.cell? ⟨b,y,none⟩=some (.string t) /\ W.cell? ⟨gp,0,none⟩=some (.int .i64 (wd:Int))) (by kernel_rfl) (HS18.out _ _ _ _ hH7) (fun hHeld=>?_)
   refine tkI 0 ?_
   simp only [Act.put,zq]
   refine tkI 1 ?_
   simp only [Act.put,zq]
   refine tkI 2 ?_
   simp only [Act.put,zq]
   refine tkI 3 ?_
   simp only [Act.put,zq]
   refine tkI 4 ?_
   simp only [Act.put,zq]
   refine tkI 5 ?_
   simp only [Act.put,zq]
   refine tkI 6 ?_
   simp only [Act.put,zq]
   refine tkI 8 ?_
   simp only [Act.put,zq]
   refine tkI 9 ?_
   simp only [Act.put,zq]
   refine tkI 13 ?_
   simp only [Act.put,zq]
   refine rdH 7 (fun K hK=>?_)
   go_simp
   refine (HTx.out _).mono ?_
   rintro e w7 ⟨rfl,rfl⟩
   refine hK.out _ _ (HS18.out _ _ _ _ hH7) (fun hHeld=>?_)
   clear hK K
   refine rdH 10 (fun K hK=>?_)
   go_simp
   refine (HD2.out _).mono ?_
   rintro e w8 ⟨rfl,hb8⟩
   have hH8:=hH7.below hb8
   refine hK.out _ _ (HS18.out _ _ _ _ hH8) (fun hHeld=>?_)
   clear hK K
   have al8:Below w8.heap.size w8 (w8.alloc (.cells #[.string (hashT wd t)] 9)):=(Below.refl _ _).alloc (Nat.le_refl _) _
   have hH9:=hH8.below al8
   have own8:=hH8.rown.own
   rw [hRn] at own8
   have hbs8:=hH8.rown.bel.size
   refine rdH 11 (fun K hK=>?_)
   go_simp
   refine hK.out _ _ (HS18.out _ _ _ _ hH9) (fun hHeld=>?_)
   clear hK K
   refine rdH 12 (fun K hK=>?_)
   refine step_append_lies _ rfl (.tmp 85) (.tmp 95) 25 rfl w0.heap.size 9 i0 (.string ⟨#[]⟩) 1 16 Tryz.underlying25 hi0 hz0 hz1 hz2 rfl (by decide) (.slice ar R cr) R (roots.map Value.string) rfl (own8.alloc _) ⟨w8.heap.size,0,none⟩ 1 1 [.string (hashT wd t)] rfl rfl (World.news_of_block (heap_alloc_new w8 _)) (by simp [Value.oneCell']) (by decide) (by unfold maxLen;omega) (by omega) (by simp;omega) (w8.heap.size + 1) (by simp) ?_
   intro g10 c10 w10 hown10 hgrow10 hat10 hlt10
   rw [<- hRn] at hown10 hgrow10 hat10
   have hH10:=hH8.root hown10 hgrow10 hat10
   refine hK.out _ _ (HS18.out _ _ _ _ hH10) (fun hHeld=>?_)
   clear hK K hown10 hgrow10 hat10 hH8 hH9 own8
   have hfin:Hid (HGot fz ex gz wd (ss.set y t) (roots ++ [hashT wd t]) q2 w0 _ _):=hH10.fin (z:=q2) hysm (hr.app (m:=1) ⟨Nat.le_refl _,fun x hx=>by rw [List.mem_singleton.1 hx];exact hhs⟩) (by omega) (by omega) (by omega) (by omega) (by omega)
   have hrl:(roots ++ [hashT wd t]).length=R + 1:=by rw [List.length_append,hRn];rfl
   have m1:=hH10.m1
   rw [hyl] at hfin m1
   rw [hrl] at hfin
   have e0:=ZC hH10.res 0
   have e1:=ZC hH10.res 1
   have ef:∀ j,w10.frozen? ⟨gp + 1,j,none⟩=false:=fun j=>by rw [World.frozen?,hH10.res];rfl
   have hSf:((w10.setCell ⟨gp + 1,0,none⟩ (.int .i64 (wd:Int))).setCell ⟨gp + 1,1,none⟩ (.slice (some ⟨b,0,none⟩) N co)).cell? ⟨g,0,none⟩=some (.int .i64 (wd:Int)) /\ ((w10.setCell ⟨gp + 1,0,none⟩ (.int .i64 (wd:Int))).setCell ⟨gp + 1,1,none⟩ (.slice (some ⟨b,0,none⟩) N co)).cell? ⟨g,1,none⟩=some (.slice (some ⟨b,0,none⟩) N co) /\ ((w10.setCell ⟨gp + 1,0,none⟩ (.int .i64 (wd:Int))).setCell ⟨gp + 1,1,none⟩ (.slice (some ⟨b,0,none⟩) N co)).cell? ⟨b,y,none⟩=some (.string t) /\ ((w10.setCell ⟨gp + 1,0,none⟩ (.int .i64 (wd:Int))).setCell ⟨gp + 1,1,none⟩ (.slice (some ⟨b,0,none⟩) N co)).cell? ⟨gp,0,none⟩=some (.int .i64 (wd:Int)):=by
    have n1:=hH10.n1
    obtain ⟨_,_,cur,hb9⟩:=ownG_cells hH10.oown.own (g:=b) rfl
    have nb:gp + 1 ≠ b:=ne_of_type hH10.res hb9 (by decide)
    obtain ⟨q0,q1,q2,q3⟩:=HS18.out _ _ _ _ hH10
    refine ⟨?_,?_,?_,?_⟩ <;> rw [World.cell?_setCell_far _ _ _ _ (by first | (show gp + 1 ≠ g;omega) | (show gp + 1 ≠ b;exact nb) | (show gp + 1 ≠ gp;omega)),World.cell?_setCell_far _ _ _ _ (by first | (show gp + 1 ≠ g;omega) | (show gp + 1 ≠ b;exact nb) | (show gp + 1 ≠ gp;omega))] <;> assumption
   clear hH10
   refine rdH 14 (fun K hK=>?_)
   go_simp
   refine hK.out _ _ (hSf) (fun hHeld=>?_)
   clear hK K
   refine rdH 15 (fun K hK=>?_)
   go_simp
   refine hK.out _ _ (hSf) (fun hHeld=>?_)
   clear hK K
   refine rdH 16 (fun K hK=>?_)
   go_simp
   refine hK.out _ _ (hSf) (fun hHeld=>?_)
   clear hK K
   refine wpAnyH_done (by kernel_rfl) ?_ _
   go_wp2_with fail
   exact retPT Tryz.results157 rfl rfl rfl rfl m1 hfin.out
 · have HKy':Hid (∀ w',Below w.heap.size w w' -> Calls prog 135 #[.slice a L cap,.int .i64 (q2:Int)] w' fun e w''=>e=.returned (.tuple #[.string key,.int .i64 ((q2 + 1:Nat):Int)]) /\ Below w'.heap.size w' w''):=fun w' hb=>HKy w' (hBh.out.below hb)
   clear HKy hBh
   subst hr1
   have zN:((N:Int) == 0)=false:=by simp;omega
   have zx:decide ((x:Int) < 2)=false:=by simp;omega
   have zx2:((x:Int) == 2)=false:=by simp;omega
   have zx3:((x:Int) == 3)=false:=by simp;omega
   have hy':y < N:=by omega
   have hx0:(0:Int) <= (y:Int):=Int.natCast_nonneg _
   have hx1:(y:Int) < (N:Int):=by omega
   obtain ⟨b,c9,hao,hb0,hb1⟩:=hH.oown.own.form (by omega)
   simp only [Value.slice.injEq] at hao
   obtain ⟨rfl,_,rfl⟩:=hao
   have HS19:Hid (∀ W:World,HS fz ex w0 gp g wd ss ss roots ap cp (some ⟨b,0,none⟩) co ar cr W -> W.cell? ⟨g,1,none⟩=some (.slice (some ⟨b,0,none⟩) N co) /\ W.cell? ⟨b,y,none⟩=some (.string (ss.getD y ⟨#[]⟩)) /\ W.cell? ⟨gp,0,none⟩=some (.int .i64 (wd:Int))):=fun W hW=>by
    have h1:=ZC hW.out 1
    rw [hN] at h1
    refine ⟨h1,?_,ZC hW.par 0⟩
    rw [hW.oown.own.cellAt y (by omega),List.getElem?_map,List.getElem?_eq_getElem (by omega)]
    simp [List.getD_eq_getElem?_getD,List.getElem?_eq_getElem (show y < ss.length by omega)]
   have hus:=hss.getD y
   have HD1:Hid (∀ w',Calls prog 23 #[.string (txt (ss.getD y ⟨#[]⟩)),.int .i64 (wd:Int)] w' fun y w''=>y=.returned (.string l1) /\ Below w'.heap.size w' w''):=fun w'=>by
    have:=HDg.out (txt (ss.getD y ⟨#[]⟩)) wd w' (by rw [txt_size];omega) hw1 hw2
    rw [txt_list] at this
    rw [<- hl1]
    exact this
   have HTx1:Hid (∀ w',Calls prog 39 #[.string (ss.getD y ⟨#[]⟩)] w' fun e w''=>e=.returned (.string (txt (ss.getD y ⟨#[]⟩))) /\ w''=w'):=fun w'=>ltxt_any _ w' (by omega)
   have HTx:Hid (∀ w',Calls prog 39 #[.string E] w' fun y w''=>y=.returned (.string (txt E)) /\ w''=w'):=fun w'=>ltxt_any E w' (by omega)
   have HD2:Hid (∀ w',Calls prog 23 #[.string (txt E),.int .i64 (wd:Int)] w' fun y w''=>y=.returned (.string (hashT wd E)) /\ Below w'.heap.size w' w''):=fun w'=>by
    have:=HDg.out (txt E) wd w' (by rw [txt_size];omega) hw1 hw2
    rw [txt_list] at this
    exact this
   have hhs:(hashT wd E).size <= 32:=by
    have:(hashT wd E).size <= wd:=List.length_take_le _ _
    omega
   have hysm:SmT (ss ++ [E]) (500 + 1) 10001:=SmT.app ⟨hss.len,fun x hx=>by have:=hss.sz x hx;omega⟩ ⟨Nat.le_refl _,fun x hx=>by rw [List.mem_singleton.1 hx];omega⟩
   generalize ss.getD y ⟨#[]⟩=u at HS19 HD1 HTx1 hus
   obtain ⟨i0,hi0,hz0,hz1,hz2⟩:=info_parts2 info9
   have hbd:Below w4.heap.size w4 w4.drew:=(Below.refl _ _).drew
   have hbw4d:=hbw4.trans (hbd.mono hbw4.size)
   have hH4:=hH.below hbd
   obtain ⟨q3,hq3⟩:∃ q,q2 + 1=q:=⟨_,rfl⟩
   rw [hq3] at HKy'
   go_upto_region 19 with fail
   clear hH o0 o1 hl1
   go_cut [16] (fun s16 wx=>∃ gn:Nat,s16=.pointer (some ⟨gn,0,none⟩) /\ NQ gn ⟨#[]⟩ l1 ⟨#[]⟩ wx /\ w0.heap.size <= gn /\ gp <= gn /\ HS fz ex w0 gp g wd ss ss roots ap cp (some ⟨b,0,none⟩) co ar cr wx /\ Below w.heap.size w wx)
   case first =>
    refine wp_region_held_drew (S:=fun W=>W.cell? ⟨g,1,none⟩=some (.slice (some ⟨b,0,none⟩) N co) /\ W.cell? ⟨b,y,none⟩=some (.string u) /\ W.cell? ⟨gp,0,none⟩=some (.int .i64 (wd:Int))) (by kernel_rfl) (HS19.out _ hH4) (fun hHeld=>?_)
    generalize w4.drew=w4d at hH4 hbw4d hHeld hbd ⊢
    refine tkI 0 ?_
    simp only [Act.put,zq]
    refine tkI 1 ?_
    simp only [Act.put,zq]
    refine tkI 2 ?_
    simp only [Act.put,zq]
    refine tkI 3 ?_
    simp only [Act.put,zq]
    refine tkI 4 ?_
    simp only [Act.put,zq]
    refine tkI 6 ?_
    simp only [Act.put,zq]
    refine tkI 7 ?_
    simp only [Act.put,zq]
    refine wpAnyH_ready (rs:=[5,10]) (by kernel_rfl) (by simp) ?_
    refine AllReadyH.cons rfl (fun K hK=>?_) (AllReadyH.cons rfl (fun K hK=>?_) AllReadyH.nil)
    · go_simp
      refine (HTx1.out _).mono ?_
      rintro e wt ⟨rfl,hwt⟩
      subst wt
      refine hK.out _ _ (HS19.out _ hH4) (fun hHeld=>?_)
      clear hK K
      refine wpAnyH_ready (rs:=[8,10]) (by kernel_rfl) (by simp) ?_
      refine AllReadyH.cons rfl (fun K hK=>?_) (AllReadyH.cons rfl (fun K hK=>?_) AllReadyH.nil)
      · go_simp
        refine (HD1.out _).mono ?_
        rintro e w6 ⟨rfl,hbq⟩
        have hHw6:=hH4.below hbq
        refine hK.out _ _ (HS19.out _ hHw6) (fun hHeld=>?_)
        clear hK K
        refine tkI 9 ?_
        simp only [Act.put,zq]
        have al6:Below w6.heap.size w6 (w6.alloc (.cells #[.string ⟨#[]⟩,.string ⟨#[]⟩,.string ⟨#[]⟩,.string ⟨#[]⟩] 73)):=(Below.refl _ _).alloc (Nat.le_refl _) _
        have hH7:=hHw6.below al6
        have nn:=heap_alloc_new w6 (.cells #[.string ⟨#[]⟩,.string ⟨#[]⟩,.string ⟨#[]⟩,.string ⟨#[]⟩] 73)
        have hbF0:Below w4d.heap.size w4d (w6.alloc (.cells #[.string ⟨#[]⟩,.string ⟨#[]⟩,.string ⟨#[]⟩,.string ⟨#[]⟩] 73)):=hbq.trans (al6.mono hbq.size)
        refine rdH 10 (fun K hK=>?_)
        go_simp
        refine hK.out _ _ (HS19.out _ hH7) (fun hHeld=>?_)
        clear hK K
        generalize w6.alloc (.cells #[.string ⟨#[]⟩,.string ⟨#[]⟩,.string ⟨#[]⟩,.string ⟨#[]⟩] 73)=w7 at hbF0 nn ⊢
        have hgn:w4d.heap.size <= w6.heap.size:=hbq.size
        obtain ⟨gn,hgn'⟩:∃ q,w6.heap.size=q:=⟨_,rfl⟩
        rw [hgn'] at nn hgn
        try rw [hgn']
        have hNF0:NQ gn ⟨#[]⟩ ⟨#[]⟩ ⟨#[]⟩ w7:=nn
        clear nn hgn' al6 hH7 hHw6 hbq
        have hNF:=hNF0.all ⟨#[]⟩ l1 ⟨#[]⟩
        have hbF:Below w4d.heap.size w4d _:=set4_below (gn:=gn) hbF0 hgn (.string ⟨#[]⟩) (.string ⟨#[]⟩) (.string l1) (.string ⟨#[]⟩)
        have hHF:=hH4.below hbF
        obtain ⟨n0,n1,n2,n3,nf⟩:=hNF0.at
        refine rdH 11 (fun K hK=>?_)
        go_simp
        refine hK.out _ _ (HS19.out _ hHF) (fun hHeld=>?_)
        clear hK K
        refine wpAnyH_done (by kernel_rfl) ?_ _
        generalize ((((w7.setCell ⟨gn,0,none⟩ (.string ⟨#[]⟩)).setCell ⟨gn,1,none⟩ (.string ⟨#[]⟩)).setCell ⟨gn,2,none⟩ (.string l1)).setCell ⟨gn,3,none⟩ (.string ⟨#[]⟩))=WF at hNF hbF hHF ⊢
        have hbwF:=hbw4d.trans (hbF.mono hbw4d.size)
        clear n0 n1 n2 n3 nf hNF0 hbF0 hbF hHeld
        have hgn0:w0.heap.size <= gn:=by have:=hH4.oown.bel.size;omega
        have hgpn:gp <= gn:=by have:=(Array.getElem?_eq_some_iff.1 hH4.par).1;omega
        clear hgn hH4
        go_wp2_with fail
        go_meet
        exact ⟨gn,rfl,hNF,hgn0,hgpn,hHF,hbwF⟩
      · have al5:Below w4d.heap.size w4d (w4d.alloc (.cells #[.string ⟨#[]⟩,.string ⟨#[]⟩,.string ⟨#[]⟩,.string ⟨#[]⟩] 73)):=(Below.refl _ _).alloc (Nat.le_refl _) _
        have hH5:=hH4.below al5
        have nn:=heap_alloc_new w4d (.cells #[.string ⟨#[]⟩,.string ⟨#[]⟩,.string ⟨#[]⟩,.string ⟨#[]⟩] 73)
        go_simp
        refine hK.out _ _ (HS19.out _ hH5) (fun hHeld=>?_)
        clear hK K
        generalize w4d.alloc (.cells #[.string ⟨#[]⟩,.string ⟨#[]⟩,.string ⟨#[]⟩,.string ⟨#[]⟩] 73)=w5 at al5 hH5 nn ⊢
        obtain ⟨gn,hgn'⟩:∃ q,w4d.heap.size=q:=⟨_,rfl⟩
        rw [hgn'] at nn
        try rw [hgn']
        have hgn:w4d.heap.size <= gn:=Nat.le_of_eq hgn'
        have nq5:NQ gn ⟨#[]⟩ ⟨#[]⟩ ⟨#[]⟩ w5:=nn
        clear nn hgn'
        refine rdH 8 (fun K hK=>?_)
        go_simp
        refine (HD1.out _).mono ?_
        rintro e w6 ⟨rfl,hbq⟩
        have hHw6:=hH5.below hbq
        refine hK.out _ _ (HS19.out _ hHw6) (fun hHeld=>?_)
        clear hK K
        refine tkI 9 ?_
        simp only [Act.put,zq]
        have hNF0:=nq5.below hbq
        have hbF0:Below w4d.heap.size w4d w6:=al5.trans (hbq.mono al5.size)
        clear nq5 hHw6 hbq al5 hH5
        have hNF:=hNF0.all ⟨#[]⟩ l1 ⟨#[]⟩
        have hbF:Below w4d.heap.size w4d _:=set4_below (gn:=gn) hbF0 hgn (.string ⟨#[]⟩) (.string ⟨#[]⟩) (.string l1) (.string ⟨#[]⟩)
        have hHF:=hH4.below hbF
        obtain ⟨n0,n1,n2,n3,nf⟩:=hNF0.at
        refine rdH 11 (fun K hK=>?_)
        go_simp
        refine hK.out _ _ (HS19.out _ hHF) (fun hHeld=>?_)
        clear hK K
        refine wpAnyH_done (by kernel_rfl) ?_ _
        generalize ((((w6.setCell ⟨gn,0,none⟩ (.string ⟨#[]⟩)).setCell ⟨gn,1,none⟩ (.string ⟨#[]⟩)).setCell ⟨gn,2,none⟩ (.string l1)).setCell ⟨gn,3,none⟩ (.string ⟨#[]⟩))=WF at hNF hbF hHF ⊢
        have hbwF:=hbw4d.trans (hbF.mono hbw4d.size)
        clear n0 n1 n2 n3 nf hNF0 hbF0 hbF hHeld
        have hgn0:w0.heap.size <= gn:=by have:=hH4.oown.bel.size;omega
        have hgpn:gp <= gn:=by have:=(Array.getElem?_eq_some_iff.1 hH4.par).1;omega
        clear hgn hH4
        go_wp2_with fail
        go_meet
        exact ⟨gn,rfl,hNF,hgn0,hgpn,hHF,hbwF⟩
    · have al5:Below w4d.heap.size w4d (w4d.alloc (.cells #[.string ⟨#[]⟩,.string ⟨#[]⟩,.string ⟨#[]⟩,.string ⟨#[]⟩] 73)):=(Below.refl _ _).alloc (Nat.le_refl _) _
      have hH5:=hH4.below al5
      have nn:=heap_alloc_new w4d (.cells #[.string ⟨#[]⟩,.string ⟨#[]⟩,.string ⟨#[]⟩,.string ⟨#[]⟩] 73)
      go_simp
      refine hK.out _ _ (HS19.out _ hH5) (fun hHeld=>?_)
      clear hK K
      generalize w4d.alloc (.cells #[.string ⟨#[]⟩,.string ⟨#[]⟩,.string ⟨#[]⟩,.string ⟨#[]⟩] 73)=w5 at al5 hH5 nn ⊢
      obtain ⟨gn,hgn'⟩:∃ q,w4d.heap.size=q:=⟨_,rfl⟩
      rw [hgn'] at nn
      try rw [hgn']
      have hgn:w4d.heap.size <= gn:=Nat.le_of_eq hgn'
      have nq5:NQ gn ⟨#[]⟩ ⟨#[]⟩ ⟨#[]⟩ w5:=nn
      clear nn hgn'
      refine rdH 5 (fun K hK=>?_)
      go_simp
      refine (HTx1.out _).mono ?_
      rintro e wt ⟨rfl,hwt⟩
      subst wt
      refine hK.out _ _ (HS19.out _ hH5) (fun hHeld=>?_)
      clear hK K
      refine rdH 8 (fun K hK=>?_)
      go_simp
      refine (HD1.out _).mono ?_
      rintro e w6 ⟨rfl,hbq⟩
      have hHw6:=hH5.below hbq
      refine hK.out _ _ (HS19.out _ hHw6) (fun hHeld=>?_)
      clear hK K
      refine tkI 9 ?_
      simp only [Act.put,zq]
      have hNF0:=nq5.below hbq
      have hbF0:Below w4d.heap.size w4d w6:=al5.trans (hbq.mono al5.size)
      clear nq5 hHw6 hbq al5 hH5
      have hNF:=hNF0.all ⟨#[]⟩ l1 ⟨#[]⟩
      have hbF:Below w4d.heap.size w4d _:=set4_below (gn:=gn) hbF0 hgn (.string ⟨#[]⟩) (.string ⟨#[]⟩) (.string l1) (.string ⟨#[]⟩)
      have hHF:=hH4.below hbF
      obtain ⟨n0,n1,n2,n3,nf⟩:=hNF0.at
      refine rdH 11 (fun K hK=>?_)
      go_simp
      refine hK.out _ _ (HS19.out _ hHF) (fun hHeld=>?_)
      clear hK K
      refine wpAnyH_done (by kernel_rfl) ?_ _
      generalize ((((w6.setCell ⟨gn,0,none⟩ (.string ⟨#[]⟩)).setCell ⟨gn,1,none⟩ (.string ⟨#[]⟩)).setCell ⟨gn,2,none⟩ (.string l1)).setCell ⟨gn,3,none⟩ (.string ⟨#[]⟩))=WF at hNF hbF hHF ⊢
      have hbwF:=hbw4d.trans (hbF.mono hbw4d.size)
      clear n0 n1 n2 n3 nf hNF0 hbF0 hbF hHeld
      have hgn0:w0.heap.size <= gn:=by have:=hH4.oown.bel.size;omega
      have hgpn:gp <= gn:=by have:=(Array.getElem?_eq_some_iff.1 hH4.par).1;omega
      clear hgn hH4
      go_wp2_with fail
      go_meet
      exact ⟨gn,rfl,hNF,hgn0,hgpn,hHF,hbwF⟩
   case rest =>
   obtain ⟨gn,rfl,hNF,hgn0,hgpn,hHF,hbwF⟩:=hcut
   clear hbw4d hbd hH4
   go_upto_region 21 with (first | (go_at_call 135;refine (HKy'.out _ hbwF).mono ?_;rintro e wk ⟨rfl,hbk⟩))
   have hbwk:=hbwF.trans (hbk.mono hbwF.size)
   have hNk:=hNF.below hbk
   have hHk:=hHF.below hbk
   obtain ⟨n0,n1,n2,n3,nf⟩:=hNk.at
   have hNl:NQ gn key l1 ⟨#[]⟩ (wk.setCell ⟨gn,0,none⟩ (.string key)):=heap_setCell_same wk gn 0 _ 73 (.string key) hNk
   have hHl:=hHk.setn hNk hgn0 hgpn 0 (.string key)
   clear hbwF hNF hHF hbk
   go_upto_region 22 with fail
   generalize wk.setCell ⟨gn,0,none⟩ (.string key)=wl at hNl hHl ⊢
   clear n0 n1 n2 n3 nf hNk hHk
   obtain ⟨n0,n1,n2,n3,nf⟩:=hNl.at
   have p0:=ZC hHl.par 0
   go_upto_region 25 with (first | (go_at_call 40;refine (HEn.out _).mono ?_;rintro e wm ⟨rfl,hbm⟩))
   have hHm:=hHl.below hbm
   clear n0 n1 n2 n3 nf hHl p0 hbm hNl
   have o1:=ZC hHm.out 1
   rw [hN] at o1
   have own:=hHm.oown.own
   rw [hN] at own
   have hbs:=hHm.oown.bel.size
   have gf:∀ j,wm.frozen? ⟨g,j,none⟩=false:=fun j=>by rw [World.frozen?,hHm.out];rfl
   go_upto_region 26 with (at_builtin;go_loud (refine wpList_append_lies _ rfl (.tmp 139) (.tmp 141) 25 rfl w0.heap.size 9 i0 (.string ⟨#[]⟩) 1 16 Tryz.underlying25 hi0 hz0 hz1 hz2 rfl (by decide) (.slice (some ⟨b,0,none⟩) N co) N (ss.map Value.string) rfl (own.alloc _) ⟨wm.heap.size,0,none⟩ 1 1 [.string E] rfl rfl (World.news_of_block (heap_alloc_new wm _)) (by simp [Value.oneCell']) (by decide) (by unfold maxLen;omega) (by omega) (by simp;omega) (wm.heap.size + 1) (by simp) ?_;intro g5 c5 w5 hown5 hgrow5 hat5 hlt5;rw [<- hN] at hown5 hgrow5 hat5;obtain ⟨_,hH6,hg6⟩:=hHm.grow hown5 hgrow5 hat5;have gf6:∀ j,w5.frozen? ⟨g,j,none⟩=false:=fun j=>(by rw [World.frozen?,hg6] <;> rfl);have q1:=ZC hg6 1;rw [hN] at hH6 q1))
   generalize w5.setCell ⟨g,1,none⟩ (.slice (some ⟨g5,0,none⟩) (N + 1) c5)=w6 at hH6 ⊢
   clear hHm o1 own gf hown5 hgrow5 hat5 gf6 q1 hg6 hbs
   have hyl:(ss ++ [E]).length=N + 1:=by rw [List.length_append,hN];rfl
   have HS26:Hid (∀ (W:World) (rs:List ByteArray) (ar:Option Addr) (cr:Nat),HS fz ex w0 gp g wd ss (ss ++ [E]) rs ap cp (some ⟨g5,0,none⟩) c5 ar cr W -> W.cell? ⟨g,0,none⟩=some (.int .i64 (wd:Int)) /\ W.cell? ⟨g,1,none⟩=some (.slice (some ⟨g5,0,none⟩) (N + 1) c5) /\ W.cell? ⟨gp,0,none⟩=some (.int .i64 (wd:Int))):=fun W rs ar cr hW=>by
    have h1:=ZC hW.out 1
    rw [hyl] at h1
    exact ⟨ZC hW.out 0,h1,ZC hW.par 0⟩
   have hbd6:Below w6.heap.size w6 w6.drew:=(Below.refl _ _).drew
   have hH7:=hH6.below hbd6
   clear hH6
   refine wp_region_held_drew (S:=fun W=>W.cell? ⟨g,0,none⟩=some (.int .i64 (wd:Int)) /\ W.cell? ⟨g,1,none⟩=some (.slice (some ⟨g5,0,none⟩) (N + 1) c5) /\ W.cell? ⟨gp,0,none⟩=some (.int .i64 (wd:Int))) (by kernel_rfl) (HS26.out _ _ _ _ hH7) (fun hHeld=>?_)
   refine tkI 0 ?_
   simp only [Act.put,zq]
   refine tkI 1 ?_
   simp only [Act.put,zq]
   refine tkI 2 ?_
   simp only [Act.put,zq]
   refine tkI 4 ?_
   simp only [Act.put,zq]
   refine tkI 5 ?_
   simp only [Act.put,zq]
   refine tkI 9 ?_
   simp only [Act.put,zq]
   refine rdH 3 (fun K hK=>?_)
   go_simp
   refine (HTx.out _).mono ?_
   rintro e w7 ⟨rfl,rfl⟩
   refine hK.out _ _ (HS26.out _ _ _ _ hH7) (fun hHeld=>?_)
   clear hK K
   refine rdH 6 (fun K hK=>?_)
   go_simp
   refine (HD2.out _).mono ?_
   rintro e w8 ⟨rfl,hb8⟩
   have hH8:=hH7.below hb8
   refine hK.out _ _ (HS26.out _ _ _ _ hH8) (fun hHeld=>?_)
   clear hK K
   have al8:Below w8.heap.size w8 (w8.alloc (.cells #[.string (hashT wd E)] 9)):=(Below.refl _ _).alloc (Nat.le_refl _) _
   have hH9:=hH8.below al8
   have own8:=hH8.rown.own
   rw [hRn] at own8
   have hbs8:=hH8.rown.bel.size
   refine rdH 7 (fun K hK=>?_)
   go_simp
   refine hK.out _ _ (HS26.out _ _ _ _ hH9) (fun hHeld=>?_)
   clear hK K
   refine rdH 8 (fun K hK=>?_)
   refine step_append_lies _ rfl (.tmp 145) (.tmp 151) 25 rfl w0.heap.size 9 i0 (.string ⟨#[]⟩) 1 16 Tryz.underlying25 hi0 hz0 hz1 hz2 rfl (by decide) (.slice ar R cr) R (roots.map Value.string) rfl (own8.alloc _) ⟨w8.heap.size,0,none⟩ 1 1 [.string (hashT wd E)] rfl rfl (World.news_of_block (heap_alloc_new w8 _)) (by simp [Value.oneCell']) (by decide) (by unfold maxLen;omega) (by omega) (by simp;omega) (w8.heap.size + 1) (by simp) ?_
   intro g10 c10 w10 hown10 hgrow10 hat10 hlt10
   rw [<- hRn] at hown10 hgrow10 hat10
   have hH10:=hH8.root hown10 hgrow10 hat10
   refine hK.out _ _ (HS26.out _ _ _ _ hH10) (fun hHeld=>?_)
   clear hK K hown10 hgrow10 hat10 hH8 hH9 own8
   have hfin:Hid (HGot fz ex gz wd (ss ++ [E]) (roots ++ [hashT wd E]) q3 w0 _ _):=hH10.fin (z:=q3) hysm (hr.app (m:=1) ⟨Nat.le_refl _,fun x hx=>by rw [List.mem_singleton.1 hx];exact hhs⟩) (by omega) (by omega) (by omega) (by omega) (by omega)
   have hrl:(roots ++ [hashT wd E]).length=R + 1:=by rw [List.length_append,hRn];rfl
   have m1:=hH10.m1
   rw [hyl] at hfin m1
   rw [hrl] at hfin
   have e0:=ZC hH10.res 0
   have e1:=ZC hH10.res 1
   have ef:∀ j,w10.frozen? ⟨gp + 1,j,none⟩=false:=fun j=>by rw [World.frozen?,hH10.res];rfl
   have hSf:((w10.setCell ⟨gp + 1,0,none⟩ (.int .i64 (wd:Int))).setCell ⟨gp + 1,1,none⟩ (.slice (some ⟨g5,0,none⟩) (N + 1) c5)).cell? ⟨g,0,none⟩=some (.int .i64 (wd:Int)) /\ ((w10.setCell ⟨gp + 1,0,none⟩ (.int .i64 (wd:Int))).setCell ⟨gp + 1,1,none⟩ (.slice (some ⟨g5,0,none⟩) (N + 1) c5)).cell? ⟨g,1,none⟩=some (.slice (some ⟨g5,0,none⟩) (N + 1) c5) /\ ((w10.setCell ⟨gp + 1,0,none⟩ (.int .i64 (wd:Int))).setCell ⟨gp + 1,1,none⟩ (.slice (some ⟨g5,0,none⟩) (N + 1) c5)).cell? ⟨gp,0,none⟩=some (.int .i64 (wd:Int)):=by
    have n1:=hH10.n1
    obtain ⟨q0,q1,q3⟩:=HS26.out _ _ _ _ hH10
    refine ⟨?_,?_,?_⟩ <;> rw [World.cell?_setCell_far _ _ _ _ (by first | (show gp + 1 ≠ g;omega) | (show gp + 1 ≠ gp;omega)),World.cell?_setCell_far _ _ _ _ (by first | (show gp + 1 ≠ g;omega) | (show gp + 1 ≠ gp;omega))] <;> assumption
   clear hH10
   refine rdH 10 (fun K hK=>?_)
   go_simp
   refine hK.out _ _ (hSf) (fun hHeld=>?_)
   clear hK K
   refine rdH 11 (fun K hK=>?_)
   go_simp
   refine hK.out _ _ (hSf) (fun hHeld=>?_)
   clear hK K
   refine rdH 12 (fun K hK=>?_)
   go_simp
   refine hK.out _ _ (hSf) (fun hHeld=>?_)
   clear hK K
   refine wpAnyH_done (by kernel_rfl) ?_ _
   go_wp2_with fail
   exact retPT Tryz.results157 rfl rfl rfl rfl m1 (by rw [hq3];exact hfin.out)
 · have HKy':Hid (∀ w',Below w.heap.size w w' -> Calls prog 135 #[.slice a L cap,.int .i64 (q2:Int)] w' fun e w''=>e=.returned (.tuple #[.string key,.int .i64 ((q2 + 1:Nat):Int)]) /\ Below w'.heap.size w' w''):=fun w' hb=>HKy w' (hBh.out.below hb)
   clear HKy hBh
   have zN:((N:Int) == 0)=false:=by simp;omega
   have zx:decide ((x:Int) < 2)=false:=by simp;omega
   have zx2:((x:Int) == 2)=false:=by simp;omega
   have zx3:((x:Int) == 3)=true:=by simp;omega
   clear hx2
   have hy':y < N:=by omega
   have hx0:(0:Int) <= (y:Int):=Int.natCast_nonneg _
   have hx1:(y:Int) < (N:Int):=by omega
   obtain ⟨b,c9,hao,hb0,hb1⟩:=hH.oown.own.form (by omega)
   simp only [Value.slice.injEq] at hao
   obtain ⟨rfl,_,rfl⟩:=hao
   have HS19:Hid (∀ W:World,HS fz ex w0 gp g wd ss ss roots ap cp (some ⟨b,0,none⟩) co ar cr W -> W.cell? ⟨g,1,none⟩=some (.slice (some ⟨b,0,none⟩) N co) /\ W.cell? ⟨b,y,none⟩=some (.string (ss.getD y ⟨#[]⟩)) /\ W.cell? ⟨gp,0,none⟩=some (.int .i64 (wd:Int))):=fun W hW=>by
    have h1:=ZC hW.out 1
    rw [hN] at h1
    refine ⟨h1,?_,ZC hW.par 0⟩
    rw [hW.oown.own.cellAt y (by omega),List.getElem?_map,List.getElem?_eq_getElem (by omega)]
    simp [List.getD_eq_getElem?_getD,List.getElem?_eq_getElem (show y < ss.length by omega)]
   have hus:=hss.getD y
   have HD1:Hid (∀ w',Calls prog 23 #[.string (txt (ss.getD y ⟨#[]⟩)),.int .i64 (wd:Int)] w' fun y w''=>y=.returned (.string l1) /\ Below w'.heap.size w' w''):=fun w'=>by
    have:=HDg.out (txt (ss.getD y ⟨#[]⟩)) wd w' (by rw [txt_size];omega) hw1 hw2
    rw [txt_list] at this
    rw [<- hl1]
    exact this
   have HTx1:Hid (∀ w',Calls prog 39 #[.string (ss.getD y ⟨#[]⟩)] w' fun e w''=>e=.returned (.string (txt (ss.getD y ⟨#[]⟩))) /\ w''=w'):=fun w'=>ltxt_any _ w' (by omega)
   have HTx:Hid (∀ w',Calls prog 39 #[.string E] w' fun y w''=>y=.returned (.string (txt E)) /\ w''=w'):=fun w'=>ltxt_any E w' (by omega)
   have HD2:Hid (∀ w',Calls prog 23 #[.string (txt E),.int .i64 (wd:Int)] w' fun y w''=>y=.returned (.string (hashT wd E)) /\ Below w'.heap.size w' w''):=fun w'=>by
    have:=HDg.out (txt E) wd w' (by rw [txt_size];omega) hw1 hw2
    rw [txt_list] at this
    exact this
   have hhs:(hashT wd E).size <= 32:=by
    have:(hashT wd E).size <= wd:=List.length_take_le _ _
    omega
   have hysm:SmT (ss ++ [E]) (500 + 1) 10001:=SmT.app ⟨hss.len,fun x hx=>by have:=hss.sz x hx;omega⟩ ⟨Nat.le_refl _,fun x hx=>by rw [List.mem_singleton.1 hx];omega⟩
   have hz2:(y * 3 + 1) % N < N:=Nat.mod_lt _ (by omega)
   have yn:¬ N=0:=by omega
   have yr:(((y * 3 + 1:Nat):Int)).tmod (N:Int)=(((y * 3 + 1) % N:Nat):Int):=by rw [Int.tmod_eq_emod_of_nonneg (by omega)];exact (Int.natCast_emod _ _).symm
   generalize (y * 3 + 1) % N=z2 at hz2 hr1 yr
   obtain ⟨k0,hk0⟩:∃ k0,y * 3=k0:=⟨_,rfl⟩
   have ym:IntKind.i64.wrap ((y:Int) * 3)=(k0:Int):=by rw [wrap_i64_in _ (by omega) (by omega)];omega
   rw [hk0] at yr
   obtain ⟨k1,hk1⟩:∃ k1,k0 + 1=k1:=⟨_,rfl⟩
   have ya:IntKind.i64.wrap ((k0:Int) + 1)=(k1:Int):=by rw [wrap_i64_in _ (by omega) (by omega)];omega
   rw [hk1] at yr
   clear hk0 hk1
   have hy0:(0:Int) <= (z2:Int):=Int.natCast_nonneg _
   have hy1:(z2:Int) < (N:Int):=by omega
   have HS23:Hid (∀ W:World,HS fz ex w0 gp g wd ss ss roots ap cp (some ⟨b,0,none⟩) co ar cr W -> W.cell? ⟨g,1,none⟩=some (.slice (some ⟨b,0,none⟩) N co) /\ W.cell? ⟨b,z2,none⟩=some (.string (ss.getD z2 ⟨#[]⟩)) /\ W.cell? ⟨gp,0,none⟩=some (.int .i64 (wd:Int))):=fun W hW=>by
    have h1:=ZC hW.out 1
    rw [hN] at h1
    refine ⟨h1,?_,ZC hW.par 0⟩
    rw [hW.oown.own.cellAt z2 (by omega),List.getElem?_map,List.getElem?_eq_getElem (by omega)]
    simp [List.getD_eq_getElem?_getD,List.getElem?_eq_getElem (show z2 < ss.length by omega)]
   have hus2:=hss.getD z2
   have HD3:Hid (∀ w',Calls prog 23 #[.string (txt (ss.getD z2 ⟨#[]⟩)),.int .i64 (wd:Int)] w' fun y w''=>y=.returned (.string r1) /\ Below w'.heap.size w' w''):=fun w'=>by
    have:=HDg.out (txt (ss.getD z2 ⟨#[]⟩)) wd w' (by rw [txt_size];omega) hw1 hw2
    rw [txt_list] at this
    rw [<- hr1]
    exact this
   have HTx3:Hid (∀ w',Calls prog 39 #[.string (ss.getD z2 ⟨#[]⟩)] w' fun e w''=>e=.returned (.string (txt (ss.getD z2 ⟨#[]⟩))) /\ w''=w'):=fun w'=>ltxt_any _ w' (by omega)
   obtain ⟨u2,hu2⟩:∃ u,ss.getD z2 ⟨#[]⟩=u:=⟨_,rfl⟩
   rw [hu2] at HS23 HD3 HTx3
   clear hr1 hus2 hu2
   generalize ss.getD y ⟨#[]⟩=u at HS19 HD1 HTx1 hus
   obtain ⟨i0,hi0,hz0,hz1,hz2⟩:=info_parts2 info9
   have hbd:Below w4.heap.size w4 w4.drew:=(Below.refl _ _).drew
   have hbw4d:=hbw4.trans (hbd.mono hbw4.size)
   have hH4:=hH.below hbd
   obtain ⟨q3,hq3⟩:∃ q,q2 + 1=q:=⟨_,rfl⟩
   rw [hq3] at HKy'
   go_upto_region 19 with fail
   clear hH o0 o1 hl1
   go_cut [16] (fun s16 wx=>∃ gn:Nat,s16=.pointer (some ⟨gn,0,none⟩) /\ NQ gn ⟨#[]⟩ l1 ⟨#[]⟩ wx /\ w0.heap.size <= gn /\ gp <= gn /\ HS fz ex w0 gp g wd ss ss roots ap cp (some ⟨b,0,none⟩) co ar cr wx /\ Below w.heap.size w wx)
   case first =>
    refine wp_region_held_drew (S:=fun W=>W.cell? ⟨g,1,none⟩=some (.slice (some ⟨b,0,none⟩) N co) /\ W.cell? ⟨b,y,none⟩=some (.string u) /\ W.cell? ⟨gp,0,none⟩=some (.int .i64 (wd:Int))) (by kernel_rfl) (HS19.out _ hH4) (fun hHeld=>?_)
    generalize w4.drew=w4d at hH4 hbw4d hHeld hbd ⊢
    refine tkI 0 ?_
    simp only [Act.put,zq]
    refine tkI 1 ?_
    simp only [Act.put,zq]
    refine tkI 2 ?_
    simp only [Act.put,zq]
    refine tkI 3 ?_
    simp only [Act.put,zq]
    refine tkI 4 ?_
    simp only [Act.put,zq]
    refine tkI 6 ?_
    simp only [Act.put,zq]
    refine tkI 7 ?_
    simp only [Act.put,zq]
    refine wpAnyH_ready (rs:=[5,10]) (by kernel_rfl) (by simp) ?_
    refine AllReadyH.cons rfl (fun K hK=>?_) (AllReadyH.cons rfl (fun K hK=>?_) AllReadyH.nil)
    · go_simp
      refine (HTx1.out _).mono ?_
      rintro e wt ⟨rfl,hwt⟩
      subst wt
      refine hK.out _ _ (HS19.out _ hH4) (fun hHeld=>?_)
      clear hK K
      refine wpAnyH_ready (rs:=[8,10]) (by kernel_rfl) (by simp) ?_
      refine AllReadyH.cons rfl (fun K hK=>?_) (AllReadyH.cons rfl (fun K hK=>?_) AllReadyH.nil)
      · go_simp
        refine (HD1.out _).mono ?_
        rintro e w6 ⟨rfl,hbq⟩
        have hHw6:=hH4.below hbq
        refine hK.out _ _ (HS19.out _ hHw6) (fun hHeld=>?_)
        clear hK K
        refine tkI 9 ?_
        simp only [Act.put,zq]
        have al6:Below w6.heap.size w6 (w6.alloc (.cells #[.string ⟨#[]⟩,.string ⟨#[]⟩,.string ⟨#[]⟩,.string ⟨#[]⟩] 73)):=(Below.refl _ _).alloc (Nat.le_refl _) _
        have hH7:=hHw6.below al6
        have nn:=heap_alloc_new w6 (.cells #[.string ⟨#[]⟩,.string ⟨#[]⟩,.string ⟨#[]⟩,.string ⟨#[]⟩] 73)
        have hbF0:Below w4d.heap.size w4d (w6.alloc (.cells #[.string ⟨#[]⟩,.string ⟨#[]⟩,.string ⟨#[]⟩,.string ⟨#[]⟩] 73)):=hbq.trans (al6.mono hbq.size)
        refine rdH 10 (fun K hK=>?_)
        go_simp
        refine hK.out _ _ (HS19.out _ hH7) (fun hHeld=>?_)
        clear hK K
        generalize w6.alloc (.cells #[.string ⟨#[]⟩,.string ⟨#[]⟩,.string ⟨#[]⟩,.string ⟨#[]⟩] 73)=w7 at hbF0 nn ⊢
        have hgn:w4d.heap.size <= w6.heap.size:=hbq.size
        obtain ⟨gn,hgn'⟩:∃ q,w6.heap.size=q:=⟨_,rfl⟩
        rw [hgn'] at nn hgn
        try rw [hgn']
        have hNF0:NQ gn ⟨#[]⟩ ⟨#[]⟩ ⟨#[]⟩ w7:=nn
        clear nn hgn' al6 hH7 hHw6 hbq
        have hNF:=hNF0.all ⟨#[]⟩ l1 ⟨#[]⟩
        have hbF:Below w4d.heap.size w4d _:=set4_below (gn:=gn) hbF0 hgn (.string ⟨#[]⟩) (.string ⟨#[]⟩) (.string l1) (.string ⟨#[]⟩)
        have hHF:=hH4.below hbF
        obtain ⟨n0,n1,n2,n3,nf⟩:=hNF0.at
        refine rdH 11 (fun K hK=>?_)
        go_simp
        refine hK.out _ _ (HS19.out _ hHF) (fun hHeld=>?_)
        clear hK K
        refine wpAnyH_done (by kernel_rfl) ?_ _
        generalize ((((w7.setCell ⟨gn,0,none⟩ (.string ⟨#[]⟩)).setCell ⟨gn,1,none⟩ (.string ⟨#[]⟩)).setCell ⟨gn,2,none⟩ (.string l1)).setCell ⟨gn,3,none⟩ (.string ⟨#[]⟩))=WF at hNF hbF hHF ⊢
        have hbwF:=hbw4d.trans (hbF.mono hbw4d.size)
        clear n0 n1 n2 n3 nf hNF0 hbF0 hbF hHeld
        have hgn0:w0.heap.size <= gn:=by have:=hH4.oown.bel.size;omega
        have hgpn:gp <= gn:=by have:=(Array.getElem?_eq_some_iff.1 hH4.par).1;omega
        clear hgn hH4
        go_wp2_with fail
        go_meet
        exact ⟨gn,rfl,hNF,hgn0,hgpn,hHF,hbwF⟩
      · have al5:Below w4d.heap.size w4d (w4d.alloc (.cells #[.string ⟨#[]⟩,.string ⟨#[]⟩,.string ⟨#[]⟩,.string ⟨#[]⟩] 73)):=(Below.refl _ _).alloc (Nat.le_refl _) _
        have hH5:=hH4.below al5
        have nn:=heap_alloc_new w4d (.cells #[.string ⟨#[]⟩,.string ⟨#[]⟩,.string ⟨#[]⟩,.string ⟨#[]⟩] 73)
        go_simp
        refine hK.out _ _ (HS19.out _ hH5) (fun hHeld=>?_)
        clear hK K
        generalize w4d.alloc (.cells #[.string ⟨#[]⟩,.string ⟨#[]⟩,.string ⟨#[]⟩,.string ⟨#[]⟩] 73)=w5 at al5 hH5 nn ⊢
        obtain ⟨gn,hgn'⟩:∃ q,w4d.heap.size=q:=⟨_,rfl⟩
        rw [hgn'] at nn
        try rw [hgn']
        have hgn:w4d.heap.size <= gn:=Nat.le_of_eq hgn'
        have nq5:NQ gn ⟨#[]⟩ ⟨#[]⟩ ⟨#[]⟩ w5:=nn
        clear nn hgn'
        refine rdH 8 (fun K hK=>?_)
        go_simp
        refine (HD1.out _).mono ?_
        rintro e w6 ⟨rfl,hbq⟩
        have hHw6:=hH5.below hbq
        refine hK.out _ _ (HS19.out _ hHw6) (fun hHeld=>?_)
        clear hK K
        refine tkI 9 ?_
        simp only [Act.put,zq]
        have hNF0:=nq5.below hbq
        have hbF0:Below w4d.heap.size w4d w6:=al5.trans (hbq.mono al5.size)
        clear nq5 hHw6 hbq al5 hH5
        have hNF:=hNF0.all ⟨#[]⟩ l1 ⟨#[]⟩
        have hbF:Below w4d.heap.size w4d _:=set4_below (gn:=gn) hbF0 hgn (.string ⟨#[]⟩) (.string ⟨#[]⟩) (.string l1) (.string ⟨#[]⟩)
        have hHF:=hH4.below hbF
        obtain ⟨n0,n1,n2,n3,nf⟩:=hNF0.at
        refine rdH 11 (fun K hK=>?_)
        go_simp
        refine hK.out _ _ (HS19.out _ hHF) (fun hHeld=>?_)
        clear hK K
        refine wpAnyH_done (by kernel_rfl) ?_ _
        generalize ((((w6.setCell ⟨gn,0,none⟩ (.string ⟨#[]⟩)).setCell ⟨gn,1,none⟩ (.string ⟨#[]⟩)).setCell ⟨gn,2,none⟩ (.string l1)).setCell ⟨gn,3,none⟩ (.string ⟨#[]⟩))=WF at hNF hbF hHF ⊢
        have hbwF:=hbw4d.trans (hbF.mono hbw4d.size)
        clear n0 n1 n2 n3 nf hNF0 hbF0 hbF hHeld
        have hgn0:w0.heap.size <= gn:=by have:=hH4.oown.bel.size;omega
        have hgpn:gp <= gn:=by have:=(Array.getElem?_eq_some_iff.1 hH4.par).1;omega
        clear hgn hH4
        go_wp2_with fail
        go_meet
        exact ⟨gn,rfl,hNF,hgn0,hgpn,hHF,hbwF⟩
    · have al5:Below w4d.heap.size w4d (w4d.alloc (.cells #[.string ⟨#[]⟩,.string ⟨#[]⟩,.string ⟨#[]⟩,.string ⟨#[]⟩] 73)):=(Below.refl _ _).alloc (Nat.le_refl _) _
      have hH5:=hH4.below al5
      have nn:=heap_alloc_new w4d (.cells #[.string ⟨#[]⟩,.string ⟨#[]⟩,.string ⟨#[]⟩,.string ⟨#[]⟩] 73)
      go_simp
      refine hK.out _ _ (HS19.out _ hH5) (fun hHeld=>?_)
      clear hK K
      generalize w4d.alloc (.cells #[.string ⟨#[]⟩,.string ⟨#[]⟩,.string ⟨#[]⟩,.string ⟨#[]⟩] 73)=w5 at al5 hH5 nn ⊢
      obtain ⟨gn,hgn'⟩:∃ q,w4d.heap.size=q:=⟨_,rfl⟩
      rw [hgn'] at nn
      try rw [hgn']
      have hgn:w4d.heap.size <= gn:=Nat.le_of_eq hgn'
      have nq5:NQ gn ⟨#[]⟩ ⟨#[]⟩ ⟨#[]⟩ w5:=nn
      clear nn hgn'
      refine rdH 5 (fun K hK=>?_)
      go_simp
      refine (HTx1.out _).mono ?_
      rintro e wt ⟨rfl,hwt⟩
      subst wt
      refine hK.out _ _ (HS19.out _ hH5) (fun hHeld=>?_)
      clear hK K
      refine rdH 8 (fun K hK=>?_)
      go_simp
      refine (HD1.out _).mono ?_
      rintro e w6 ⟨rfl,hbq⟩
      have hHw6:=hH5.below hbq
      refine hK.out _ _ (HS19.out _ hHw6) (fun hHeld=>?_)
      clear hK K
      refine tkI 9 ?_
      simp only [Act.put,zq]
      have hNF0:=nq5.below hbq
      have hbF0:Below w4d.heap.size w4d w6:=al5.trans (hbq.mono al5.size)
      clear nq5 hHw6 hbq al5 hH5
      have hNF:=hNF0.all ⟨#[]⟩ l1 ⟨#[]⟩
      have hbF:Below w4d.heap.size w4d _:=set4_below (gn:=gn) hbF0 hgn (.string ⟨#[]⟩) (.string ⟨#[]⟩) (.string l1) (.string ⟨#[]⟩)
      have hHF:=hH4.below hbF
      obtain ⟨n0,n1,n2,n3,nf⟩:=hNF0.at
      refine rdH 11 (fun K hK=>?_)
      go_simp
      refine hK.out _ _ (HS19.out _ hHF) (fun hHeld=>?_)
      clear hK K
      refine wpAnyH_done (by kernel_rfl) ?_ _
      generalize ((((w6.setCell ⟨gn,0,none⟩ (.string ⟨#[]⟩)).setCell ⟨gn,1,none⟩ (.string ⟨#[]⟩)).setCell ⟨gn,2,none⟩ (.string l1)).setCell ⟨gn,3,none⟩ (.string ⟨#[]⟩))=WF at hNF hbF hHF ⊢
      have hbwF:=hbw4d.trans (hbF.mono hbw4d.size)
      clear n0 n1 n2 n3 nf hNF0 hbF0 hbF hHeld
      have hgn0:w0.heap.size <= gn:=by have:=hH4.oown.bel.size;omega
      have hgpn:gp <= gn:=by have:=(Array.getElem?_eq_some_iff.1 hH4.par).1;omega
      clear hgn hH4
      go_wp2_with fail
      go_meet
      exact ⟨gn,rfl,hNF,hgn0,hgpn,hHF,hbwF⟩
   case rest =>
   obtain ⟨gn,rfl,hNF,hgn0,hgpn,hHF,hbwF⟩:=hcut
   clear hbw4d hbd hH4
   go_upto_region 21 with (first | (go_at_call 135;refine (HKy'.out _ hbwF).mono ?_;rintro e wk ⟨rfl,hbk⟩))
   have hbwk:=hbwF.trans (hbk.mono hbwF.size)
   have hNk:=hNF.below hbk
   have hHk:=hHF.below hbk
   obtain ⟨n0,n1,n2,n3,nf⟩:=hNk.at
   have hNl:NQ gn key l1 ⟨#[]⟩ (wk.setCell ⟨gn,0,none⟩ (.string key)):=heap_setCell_same wk gn 0 _ 73 (.string key) hNk
   have hHl:=hHk.setn hNk hgn0 hgpn 0 (.string key)
   clear hbwF hNF hHF hbk
   go_upto_region 22 with fail
   generalize wk.setCell ⟨gn,0,none⟩ (.string key)=wl at hNl hHl ⊢
   clear n0 n1 n2 n3 nf hNk hHk
   have hHd:=hHl.below (Below.refl wl.heap.size wl).drew
   have hNd:=hNl.below (Below.refl wl.heap.size wl).drew
   clear hHl hNl
   go_upto_region 23 with fail
   refine wp_region_held_drew (S:=fun W=>W.cell? ⟨g,1,none⟩=some (.slice (some ⟨b,0,none⟩) N co) /\ W.cell? ⟨b,z2,none⟩=some (.string u2) /\ W.cell? ⟨gp,0,none⟩=some (.int .i64 (wd:Int))) (by kernel_rfl) (HS23.out _ hHd) (fun hHeld=>?_)
   refine tkI 0 ?_
   simp only [Act.put,zq]
   refine tkI 1 ?_
   simp only [Act.put,zq]
   refine tkI 2 ?_
   simp only [Act.put,zq]
   refine tkI 3 ?_
   simp only [Act.put,zq]
   refine tkI 4 ?_
   simp only [Act.put,zq]
   refine tkI 5 ?_
   simp only [Act.put,zq]
   refine tkI 6 ?_
   simp only [Act.put,zq]
   refine tkI 7 ?_
   simp only [Act.put,zq]
   refine tkI 8 ?_
   simp only [Act.put,zq]
   refine tkI 9 ?_
   simp only [Act.put,zq]
   refine tkI 10 ?_
   simp only [Act.put,zq]
   refine tkI 12 ?_
   simp only [Act.put,zq]
   refine tkI 13 ?_
   simp only [Act.put,zq]
   refine rdH 11 (fun K hK=>?_)
   go_simp
   refine (HTx3.out _).mono ?_
   rintro e wt ⟨rfl,rfl⟩
   refine hK.out _ _ (HS23.out _ hHd) (fun hHeld=>?_)
   clear hK K
   refine rdH 14 (fun K hK=>?_)
   go_simp
   refine (HD3.out _).mono ?_
   rintro e ws ⟨rfl,hbs2⟩
   have hHs:=hHd.below hbs2
   have hNs:=hNd.below hbs2
   refine hK.out _ _ (HS23.out _ hHs) (fun hHeld=>?_)
   clear hK K
   refine tkI 15 ?_
   simp only [Act.put,zq]
   obtain ⟨n0,n1,n2,n3,nf⟩:=hNs.at
   have hNl:NQ gn key l1 r1 (ws.setCell ⟨gn,3,none⟩ (.string r1)):=heap_setCell_same ws gn 3 _ 73 (.string r1) hNs
   have hHl:=hHs.setn hNs hgn0 hgpn 3 (.string r1)
   refine rdH 16 (fun K hK=>?_)
   go_simp
   refine hK.out _ _ (HS23.out _ hHl) (fun hHeld=>?_)
   clear hK K
   refine wpAnyH_done (by kernel_rfl) ?_ _
   generalize ws.setCell ⟨gn,3,none⟩ (.string r1)=wl2 at hNl hHl ⊢
   clear n0 n1 n2 n3 nf hNs hHs hHd hNd hbs2 hHeld
   obtain ⟨n0,n1,n2,n3,nf⟩:=hNl.at
   have p0:=ZC hHl.par 0
   go_upto_region 25 with (first | (go_at_call 40;refine (HEn.out _).mono ?_;rintro e wm ⟨rfl,hbm⟩))
   have hHm:=hHl.below hbm
   clear n0 n1 n2 n3 nf hHl p0 hbm hNl
   have o1:=ZC hHm.out 1
   rw [hN] at o1
   have own:=hHm.oown.own
   rw [hN] at own
   have hbs:=hHm.oown.bel.size
   have gf:∀ j,wm.frozen? ⟨g,j,none⟩=false:=fun j=>by rw [World.frozen?,hHm.out];rfl
   go_upto_region 26 with (at_builtin;go_loud (refine wpList_append_lies _ rfl (.tmp 139) (.tmp 141) 25 rfl w0.heap.size 9 i0 (.string ⟨#[]⟩) 1 16 Tryz.underlying25 hi0 hz0 hz1 hz2 rfl (by decide) (.slice (some ⟨b,0,none⟩) N co) N (ss.map Value.string) rfl (own.alloc _) ⟨wm.heap.size,0,none⟩ 1 1 [.string E] rfl rfl (World.news_of_block (heap_alloc_new wm _)) (by simp [Value.oneCell']) (by decide) (by unfold maxLen;omega) (by omega) (by simp;omega) (wm.heap.size + 1) (by simp) ?_;intro g5 c5 w5 hown5 hgrow5 hat5 hlt5;rw [<- hN] at hown5 hgrow5 hat5;obtain ⟨_,hH6,hg6⟩:=hHm.grow hown5 hgrow5 hat5;have gf6:∀ j,w5.frozen? ⟨g,j,none⟩=false:=fun j=>(by rw [World.frozen?,hg6] <;> rfl);have q1:=ZC hg6 1;rw [hN] at hH6 q1))
   generalize w5.setCell ⟨g,1,none⟩ (.slice (some ⟨g5,0,none⟩) (N + 1) c5)=w6 at hH6 ⊢
   clear hHm o1 own gf hown5 hgrow5 hat5 gf6 q1 hg6 hbs
   have hyl:(ss ++ [E]).length=N + 1:=by rw [List.length_append,hN];rfl
   have HS26:Hid (∀ (W:World) (rs:List ByteArray) (ar:Option Addr) (cr:Nat),HS fz ex w0 gp g wd ss (ss ++ [E]) rs ap cp (some ⟨g5,0,none⟩) c5 ar cr W -> W.cell? ⟨g,0,none⟩=some (.int .i64 (wd:Int)) /\ W.cell? ⟨g,1,none⟩=some (.slice (some ⟨g5,0,none⟩) (N + 1) c5) /\ W.cell? ⟨gp,0,none⟩=some (.int .i64 (wd:Int))):=fun W rs ar cr hW=>by
    have h1:=ZC hW.out 1
    rw [hyl] at h1
    exact ⟨ZC hW.out 0,h1,ZC hW.par 0⟩
   have hbd6:Below w6.heap.size w6 w6.drew:=(Below.refl _ _).drew
   have hH7:=hH6.below hbd6
   clear hH6
   refine wp_region_held_drew (S:=fun W=>W.cell? ⟨g,0,none⟩=some (.int .i64 (wd:Int)) /\ W.cell? ⟨g,1,none⟩=some (.slice (some ⟨g5,0,none⟩) (N + 1) c5) /\ W.cell? ⟨gp,0,none⟩=some (.int .i64 (wd:Int))) (by kernel_rfl) (HS26.out _ _ _ _ hH7) (fun hHeld=>?_)
   refine tkI 0 ?_
   simp only [Act.put,zq]
   refine tkI 1 ?_
   simp only [Act.put,zq]
   refine tkI 2 ?_
   simp only [Act.put,zq]
   refine tkI 4 ?_
   simp only [Act.put,zq]
   refine tkI 5 ?_
   simp only [Act.put,zq]
   refine tkI 9 ?_
   simp only [Act.put,zq]
   refine rdH 3 (fun K hK=>?_)
   go_simp
   refine (HTx.out _).mono ?_
   rintro e w7 ⟨rfl,rfl⟩
   refine hK.out _ _ (HS26.out _ _ _ _ hH7) (fun hHeld=>?_)
   clear hK K
   refine rdH 6 (fun K hK=>?_)
   go_simp
   refine (HD2.out _).mono ?_
   rintro e w8 ⟨rfl,hb8⟩
   have hH8:=hH7.below hb8
   refine hK.out _ _ (HS26.out _ _ _ _ hH8) (fun hHeld=>?_)
   clear hK K
   have al8:Below w8.heap.size w8 (w8.alloc (.cells #[.string (hashT wd E)] 9)):=(Below.refl _ _).alloc (Nat.le_refl _) _
   have hH9:=hH8.below al8
   have own8:=hH8.rown.own
   rw [hRn] at own8
   have hbs8:=hH8.rown.bel.size
   refine rdH 7 (fun K hK=>?_)
   go_simp
   refine hK.out _ _ (HS26.out _ _ _ _ hH9) (fun hHeld=>?_)
   clear hK K
   refine rdH 8 (fun K hK=>?_)
   refine step_append_lies _ rfl (.tmp 145) (.tmp 151) 25 rfl w0.heap.size 9 i0 (.string ⟨#[]⟩) 1 16 Tryz.underlying25 hi0 hz0 hz1 hz2 rfl (by decide) (.slice ar R cr) R (roots.map Value.string) rfl (own8.alloc _) ⟨w8.heap.size,0,none⟩ 1 1 [.string (hashT wd E)] rfl rfl (World.news_of_block (heap_alloc_new w8 _)) (by simp [Value.oneCell']) (by decide) (by unfold maxLen;omega) (by omega) (by simp;omega) (w8.heap.size + 1) (by simp) ?_
   intro g10 c10 w10 hown10 hgrow10 hat10 hlt10
   rw [<- hRn] at hown10 hgrow10 hat10
   have hH10:=hH8.root hown10 hgrow10 hat10
   refine hK.out _ _ (HS26.out _ _ _ _ hH10) (fun hHeld=>?_)
   clear hK K hown10 hgrow10 hat10 hH8 hH9 own8
   have hfin:Hid (HGot fz ex gz wd (ss ++ [E]) (roots ++ [hashT wd E]) q3 w0 _ _):=hH10.fin (z:=q3) hysm (hr.app (m:=1) ⟨Nat.le_refl _,fun x hx=>by rw [List.mem_singleton.1 hx];exact hhs⟩) (by omega) (by omega) (by omega) (by omega) (by omega)
   have hrl:(roots ++ [hashT wd E]).length=R + 1:=by rw [List.length_append,hRn];rfl
   have m1:=hH10.m1
   rw [hyl] at hfin m1
   rw [hrl] at hfin
   have e0:=ZC hH10.res 0
   have e1:=ZC hH10.res 1
   have ef:∀ j,w10.frozen? ⟨gp + 1,j,none⟩=false:=fun j=>by rw [World.frozen?,hH10.res];rfl
   have hSf:((w10.setCell ⟨gp + 1,0,none⟩ (.int .i64 (wd:Int))).setCell ⟨gp + 1,1,none⟩ (.slice (some ⟨g5,0,none⟩) (N + 1) c5)).cell? ⟨g,0,none⟩=some (.int .i64 (wd:Int)) /\ ((w10.setCell ⟨gp + 1,0,none⟩ (.int .i64 (wd:Int))).setCell ⟨gp + 1,1,none⟩ (.slice (some ⟨g5,0,none⟩) (N + 1) c5)).cell? ⟨g,1,none⟩=some (.slice (some ⟨g5,0,none⟩) (N + 1) c5) /\ ((w10.setCell ⟨gp + 1,0,none⟩ (.int .i64 (wd:Int))).setCell ⟨gp + 1,1,none⟩ (.slice (some ⟨g5,0,none⟩) (N + 1) c5)).cell? ⟨gp,0,none⟩=some (.int .i64 (wd:Int)):=by
    have n1:=hH10.n1
    obtain ⟨q0,q1,q3⟩:=HS26.out _ _ _ _ hH10
    refine ⟨?_,?_,?_⟩ <;> rw [World.cell?_setCell_far _ _ _ _ (by first | (show gp + 1 ≠ g;omega) | (show gp + 1 ≠ gp;omega)),World.cell?_setCell_far _ _ _ _ (by first | (show gp + 1 ≠ g;omega) | (show gp + 1 ≠ gp;omega))] <;> assumption
   clear hH10
   refine rdH 10 (fun K hK=>?_)
   go_simp
   refine hK.out _ _ (hSf) (fun hHeld=>?_)
   clear hK K
   refine rdH 11 (fun K hK=>?_)
   go_simp
   refine hK.out _ _ (hSf) (fun hHeld=>?_)
   clear hK K
   refine rdH 12 (fun K hK=>?_)
   go_simp
   refine hK.out _ _ (hSf) (fun hHeld=>?_)
   clear hK K
   refine wpAnyH_done (by kernel_rfl) ?_ _
   go_wp2_with fail
   exact retPT Tryz.results157 rfl rfl rfl rfl m1 (by rw [hq3];exact hfin.out)
end Go.Proofs.YtibjhkpgaaapaaaGreatDoor
