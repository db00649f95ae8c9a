import Derived.Test.YtibjhkpgaaapaaaGreatDoorZhak
import Derived.Deep.RegionLaw
import Derived.Test.YtibjhkpgaaapaaaGreatDoorZhad
import Derived.Deep.MidRow
set_option maxRecDepth 100000
set_option maxHeartbeats 2000000
namespace Go.Proofs.YtibjhkpgaaapaaaGreatDoor
open Go.RowKit Go.Proofs.Sha Tryz
def Is53 (k:Nat) (w:World):Prop:=∃ cur t,w.heap[k]?=some (.cells cur 81 t)
structure Fr (base:Nat) (N:Nat -> Prop) (w w':World):Prop where
 os:w'.os=w.os
 tape:w'.tape=w.tape
 output:w'.output=w.output
 size:w.heap.size <= w'.heap.size
 block:∀ k,k < w.heap.size -> ¬ N k -> ¬ (base <= k /\ Is53 k w) -> w'.heap[k]?=w.heap[k]?
section
variable {base:Nat} {N N':Nat -> Prop} {w w' w1 w2:World}
theorem Fr.refl (base:Nat) (N:Nat -> Prop) (w:World):Fr base N w w:=⟨rfl,rfl,rfl,Nat.le_refl _,fun _ _ _ _=>rfl⟩
theorem Fr.trans (h:Fr base N w w1) (k:Fr base N' w1 w2) (hN:∀ q,q < w.heap.size -> N' q -> N q):Fr base N w w2:=by
 refine ⟨k.os.trans h.os,k.tape.trans h.tape,k.output.trans h.output,Nat.le_trans h.size k.size,fun q hq h1 h2=>?_⟩
 have e:=h.block q hq h1 h2
 refine (k.block q (Nat.lt_of_lt_of_le hq h.size) (fun x=>h1 (hN q hq x)) (fun x=>h2 ⟨x.1,?_⟩)).trans e
 obtain ⟨cur,t,hx⟩:=x.2
 exact ⟨cur,t,e.symm.trans hx⟩
theorem Fr.mono (h:Fr base N w w1) (hN:∀ q,q < w.heap.size -> N q -> N' q):Fr base N' w w1:=⟨h.os,h.tape,h.output,h.size,fun q hq h1 h2=>h.block q hq (fun x=>h1 (hN q hq x)) h2⟩
theorem Fr.of_below (h:Below w.heap.size w w1):Fr base N w w1:=⟨h.os,h.tape,h.output,h.size,fun q hq _ _=>h.block q hq⟩
theorem Fr.of_grown {v:Value} {m:Nat} {xs:List Value} (h:w.grownBy w1 v.ownBlock) (ho:w.ownsRow base 81 2 v m xs):Fr base N w w1 :=
 ⟨h.os,h.tape,h.output,h.size,fun q hq _ h2=>h.block q hq (fun e=>h2 (by obtain ⟨e1,_,cur,e3⟩:=own2_cells ho e.symm;exact ⟨e1,cur,_,e3⟩))⟩
theorem Fr.setCell (h:Fr base N w w1) (g o:Nat) (v:Value) (hg:N g \/ w.heap.size <= g):Fr base N w (w1.setCell ⟨g,o,none⟩ v):=by
 have hb:Below g w1 (w1.setCell ⟨g,o,none⟩ v):=Below.setCell (p:=⟨g,o,none⟩) (Below.refl g w1) (Nat.le_refl g) v
 refine ⟨hb.os.trans h.os,hb.tape.trans h.tape,hb.output.trans h.output,Nat.le_trans h.size hb.size,fun q hq h1 h2=>?_⟩
 rw [Below.heap_setCell _ _ _ _ (by show q ≠ g;intro e;subst e;rcases hg with hg | hg;exact h1 hg;omega)]
 exact h.block q hq h1 h2
theorem Fr.keep {q:Nat} {cs:Array Value} {t:TypeId} {z:Nat × Nat} (h:Fr base N w w1) (hq:w.heap[q]?=some (.cells cs t z)) (h1:¬ N q) (ht:t ≠ 81 \/ q < base):w1.heap[q]?=some (.cells cs t z):=by
 refine (h.block q (Array.getElem?_eq_some_iff.1 hq).1 h1 ?_).trans hq
 rintro ⟨h2,cur,z',h3⟩
 rw [hq] at h3
 rcases ht with ht | ht
 · simp only [Option.some.injEq,Obj.cells.injEq] at h3
   exact ht h3.2.1
 · omega
end
structure LS (c base:Nat) (ps:List PairT) (a:Option Addr) (cap:Nat) (w:World):Prop where
 blk:w.heap[c]?=some (.cells #[.slice a ps.length cap] 35)
 own:w.ownsRow base 81 2 (.slice a ps.length cap) ps.length (flatP ps)
 hb:base <= w.heap.size
theorem LS.below {c base:Nat} {ps:List PairT} {a:Option Addr} {cap:Nat} {w w':World} (h:LS c base ps a cap w) (hb:Below w.heap.size w w'):LS c base ps a cap w' :=
 ⟨(hb.block c (Array.getElem?_eq_some_iff.1 h.blk).1).trans h.blk,own2_kept h.own (fun g _ hg=>hb.block g hg),Nat.le_trans h.hb hb.size⟩
def NBk (g:Nat) (k v l r:ByteArray) (w:World):Prop:=w.heap[g]?=some (.cells #[.string k,.string v,.string l,.string r] 73)
theorem NBk.below {g:Nat} {k v l r:ByteArray} {w w':World} (h:NBk g k v l r w) (hb:Below w.heap.size w w'):NBk g k v l r w':=(hb.block g (Array.getElem?_eq_some_iff.1 h).1).trans h
theorem NBk.all {g:Nat} {k v l r:ByteArray} {w:World} (h:NBk g k v l r w) (x y z u:ByteArray):NBk g x y z u ((((w.setCell ⟨g,0,none⟩ (.string x)).setCell ⟨g,1,none⟩ (.string y)).setCell ⟨g,2,none⟩ (.string z)).setCell ⟨g,3,none⟩ (.string u)) :=
 heap_setCell_same _ g 3 _ 73 _ (heap_setCell_same _ g 2 _ 73 _ (heap_setCell_same _ g 1 _ 73 _ (heap_setCell_same _ g 0 _ 73 _ h)))
theorem NBk.fr {g j:Nat} {k v l r:ByteArray} {w:World} (h:NBk g k v l r w):w.frozen? ⟨g,j,none⟩=false:=by rw [World.frozen?,show w.heap[g]?=_ from h];rfl
structure NBc (g:Nat) (k v l r:ByteArray) (w:World):Prop where
 c0:w.cell? ⟨g,0,none⟩=some (.string k)
 c1:w.cell? ⟨g,1,none⟩=some (.string v)
 c2:w.cell? ⟨g,2,none⟩=some (.string l)
 c3:w.cell? ⟨g,3,none⟩=some (.string r)
 f0:w.frozen? ⟨g,0,none⟩=false
 f1:w.frozen? ⟨g,1,none⟩=false
 f2:w.frozen? ⟨g,2,none⟩=false
 f3:w.frozen? ⟨g,3,none⟩=false
theorem NBk.at {g:Nat} {k v l r:ByteArray} {w:World} (h:NBk g k v l r w):NBc g k v l r w :=
 ⟨ZC h 0,ZC h 1,ZC h 2,ZC h 3,h.fr,h.fr,h.fr,h.fr⟩
theorem retN {fn:Func} {R:Ending -> World -> Prop} {A:Act} {p q:Tmp} {gb:Nat} {k v l r:ByteArray} {c:Int} {W:World} (hres:fn.results=#[.cell p 73,.tmp q]) (hp:A.tmps.getD p undef=.pointer (some ⟨gb,0,none⟩)) (hq:A.tmps.getD q undef=.int .i64 c) (hd:A.defers=[]) (n:NBk gb k v l r W)
 (h:R (.returned (nodeT ((k,v,l,r),c))) W):bodyPost prog fn R Exit.ret A W:=by
 obtain ⟨c0,c1,c2,c3,_,_,_,_⟩:=n.at
 have hp':A.tmps[p]?.getD undef=.pointer (some ⟨gb,0,none⟩):=by simpa using hp
 have hq':A.tmps[q]?.getD undef=.int .i64 c:=by simpa using hq
 refine bodyPost_ret (v:=nodeT ((k,v,l,r),c)) ?_ hd h
 unfold nodeT
 simp [results,hres,go_sem,asAddr,hp',hq',c0,c1,c2,c3]
structure P2 (w:World) (ga gb:Nat) (n:Int) (a:Option Addr) (m c:Nat) (W:World):Prop where
 sz:w.heap.size=ga
 nx:gb=ga + 1
 bl:Below ga w W
 na:W.heap[ga]?=some (.cells #[.int .i64 n,.slice a m c] 31)
 nb:NBk gb ⟨#[]⟩ ⟨#[]⟩ ⟨#[]⟩ ⟨#[]⟩ W
section
variable {w:World} {ga gb:Nat} {n:Int} {a:Option Addr} {m c:Nat} {W W':World}
theorem P2.mk0 (w:World) (n:Int) (a:Option Addr) (m c:Nat):P2 w w.heap.size (w.heap.size + 1) n a m c ((w.alloc (.cells #[.int .i64 n,.slice a m c] 31)).alloc (.cells #[.string ⟨#[]⟩,.string ⟨#[]⟩,.string ⟨#[]⟩,.string ⟨#[]⟩] 73)):=by
 refine ⟨rfl,rfl,((Below.refl _ w).alloc (Nat.le_refl _) _).alloc (by simp) _,?_,?_⟩
 · exact (((Below.refl _ (w.alloc (.cells #[.int .i64 n,.slice a m c] 31))).alloc (Nat.le_refl _) _).block _ (by simp)).trans (heap_alloc_new w _)
 · have:=heap_alloc_new (w.alloc (.cells #[.int .i64 n,.slice a m c] 31)) (.cells #[.string ⟨#[]⟩,.string ⟨#[]⟩,.string ⟨#[]⟩,.string ⟨#[]⟩] 73)
   rw [World.size_alloc] at this
   exact this
theorem P2.below (h:P2 w ga gb n a m c W) (hb:Below W.heap.size W W'):P2 w ga gb n a m c W' :=
 ⟨h.sz,h.nx,h.bl.trans (hb.mono (by have:=h.bl.size;have:=h.sz;omega)),(hb.block ga (Array.getElem?_eq_some_iff.1 h.na).1).trans h.na,h.nb.below hb⟩
theorem P2.fin (h:P2 w ga gb n a m c W) (x y z u:ByteArray):Below w.heap.size w ((((W.setCell ⟨gb,0,none⟩ (.string x)).setCell ⟨gb,1,none⟩ (.string y)).setCell ⟨gb,2,none⟩ (.string z)).setCell ⟨gb,3,none⟩ (.string u)):=by
 have hge:ga <= gb:=by have:=h.nx;omega
 rw [h.sz]
 exact (((h.bl.setCell hge _).setCell hge _).setCell hge _).setCell hge _
theorem P2.set4 (h:P2 w ga gb n a m c W) {g:Nat} (hg:gb < g) (x y z u:Value):P2 w ga gb n a m c ((((W.setCell ⟨g,0,none⟩ x).setCell ⟨g,1,none⟩ y).setCell ⟨g,2,none⟩ z).setCell ⟨g,3,none⟩ u):=by
 have hge:gb + 1 <= g:=hg
 have hb:Below (gb + 1) W ((((W.setCell ⟨g,0,none⟩ x).setCell ⟨g,1,none⟩ y).setCell ⟨g,2,none⟩ z).setCell ⟨g,3,none⟩ u):=((((Below.refl _ W).setCell hge _).setCell hge _).setCell hge _).setCell hge _
 have hx:=h.nx
 exact ⟨h.sz,h.nx,h.bl.trans (hb.mono (by omega)),(hb.block ga (by omega)).trans h.na,(hb.block gb (by omega)).trans h.nb⟩
theorem P2.bw (h:P2 w ga gb n a m c W):Below w.heap.size w W:=by rw [h.sz];exact h.bl
end
theorem Fr.base {base base':Nat} {N:Nat -> Prop} {w w':World} (h:Fr base N w w') (hb:base' <= base):Fr base' N w w':=⟨h.os,h.tape,h.output,h.size,fun q hq h1 h2=>h.block q hq h1 (fun x=>h2 ⟨Nat.le_trans hb x.1,x.2⟩)⟩
def LinkAt (l over under:ByteArray) (par:Option Addr) (p:Option Addr) (w:World):Prop:=(emp l=true /\ p=none) \/ (emp l=false /\ ∃ q,p=some ⟨q,0,none⟩ /\ BR q l over under par w)
theorem LinkAt.below {l over under:ByteArray} {par p:Option Addr} {w w':World} (h:LinkAt l over under par p w) (hb:Below w.heap.size w w'):LinkAt l over under par p w':=by
 rcases h with h | ⟨h1,q,h2,h3⟩
 · exact .inl h
 · exact .inr ⟨h1,q,h2,(hb.block q (Array.getElem?_eq_some_iff.1 h3).1).trans h3⟩
theorem RKb.below {g:Nat} {k:ByteArray} {w w':World} (h:RKb g k w) (hb:Below w.heap.size w w'):RKb g k w':=(hb.block g (Array.getElem?_eq_some_iff.1 h).1).trans h
theorem emp_nil {l:ByteArray} (h:emp l=true):l=⟨#[]⟩:=by
 unfold emp at h
 have h:l.data.size=0:=by simpa using h
 obtain ⟨d⟩:=l
 congr 1
 exact Array.eq_empty_of_size_eq_zero h
theorem branchAt_any (l over under:ByteArray) (par:Option Addr) (w:World):Calls prog 148 #[.string l,.agg #[.string over,.string under,.pointer par]] w fun e w'=>∃ p,e=.returned (.pointer p) /\ LinkAt l over under par p w' /\ (∀ q,p=some q -> w.heap.size <= q.block) /\ Below w.heap.size w w':=by
 cases he:emp l with
 | true =>
  obtain rfl:=emp_nil he
  refine (branchAt_none over under par w).mono ?_
  rintro e w' ⟨rfl,hb⟩
  exact ⟨none,rfl,.inl ⟨he,rfl⟩,fun q hq=>(by cases hq),hb⟩
 | false =>
  refine (branchAt_some l over under par w he).mono ?_
  rintro e w' ⟨⟨b,rfl,hb0,hB⟩,hb⟩
  exact ⟨_,rfl,.inr ⟨he,b,rfl,hB⟩,fun q hq=>(by cases hq;exact hb0),hb⟩
def FillPost (b:Nat) (hash over under:ByteArray) (par:Option Addr) (k v l r:ByteArray) (w w':World):Prop :=
 Fr w.heap.size (fun q=>q=b) w w' /\ ∃ pl pr gl gr,BF b hash over under par k v l r pl pr w' /\ LinkAt l over k (some ⟨gl,0,none⟩) pl w' /\ RKb gl k w' /\ LinkAt r k under (some ⟨gr,0,none⟩) pr w' /\ RKb gr k w' /\ (∀ q,pl=some q -> w.heap.size <= q.block) /\ (∀ q,pr=some q -> w.heap.size <= q.block) /\ (∀ q q',pl=some q -> pr=some q' -> q.block < q'.block)
theorem Fr.grown {b:Nat} {w w':World} (h:Fr w.heap.size (fun q=>q=b) w w'):w.grownBy w' (some b):=⟨h.os,h.tape,h.output,h.size,fun q hq hn=>h.block q hq (fun e=>hn (by rw [e])) (fun x=>absurd x.1 (by omega))⟩
theorem Fr.set1 {b:Nat} (w:World) (o:Nat) (v:Value):Fr w.heap.size (fun q=>q=b) w (w.setCell ⟨b,o,none⟩ v):=(Fr.refl _ _ _).setCell b o v (.inl rfl)
theorem Fr.step {b:Nat} {w w1 w2:World} (h:Fr w.heap.size (fun q=>q=b) w w1) (k:Fr w1.heap.size (fun q=>q=b) w1 w2):Fr w.heap.size (fun q=>q=b) w w2:=h.trans (k.base h.size) (fun _ _ q=>q)
theorem ParAt.fr {par:Option Addr} {pk:ByteArray} {base:Nat} {N:Nat -> Prop} {w w':World} (h:ParAt par pk w) (f:Fr base N w w') (hN:∀ g,RKb g pk w -> ¬ N g):ParAt par pk w':=by
 rcases h with h | ⟨h1,g,h2,h3⟩
 · exact .inl h
 · exact .inr ⟨h1,g,h2,f.keep h3 (hN g h3) (.inl (by decide))⟩
theorem rk_ne {g b:Nat} {k:ByteArray} {w:World} {cs:Array Value} (h:RKb g k w) (hb:w.heap[b]?=some (.cells cs 225)):g ≠ b:=by
 intro e
 subst e
 have h:w.heap[g]?=_:=h
 rw [hb] at h
 simp at h
theorem rk_one (k:ByteArray):∀ v ∈ rkL k,v.oneCell'=true:=by
 unfold rkL
 intro v hv
 rcases List.mem_append.1 hv with h | h
 · obtain ⟨x,_,rfl⟩:=List.mem_map.1 h;rfl
 · rw [List.mem_singleton] at h;subst h;rfl
theorem fillB_any (b:Nat) (hash over under pk:ByteArray) (par:Option Addr) (k v l r:ByteArray) (w:World) (hB:BR b hash over under par w) (hP:ParAt par pk w) (HR:Hid (∀ w',Below w.heap.size w w' -> Calls prog 166 #[Value.string k] w' fun e w''=>e=.returned (.agg (rkL k).toArray) /\ Below w'.heap.size w' w'')) :
 Calls prog 191 #[.pointer (some ⟨b,0,none⟩),.agg #[.string k,.string v,.string l,.string r]] w fun e w'=>e=.returned (.bool (insW over under k && parW hgW pk k)) /\ FillPost b hash over under par k v l r w w':=by
 obtain ⟨L,hL⟩:∃ L,rkL k=L:=⟨_,rfl⟩
 have hl33:L.length=33:=by rw [<- hL,rkL_len]
 have h1c:∀ v ∈ L,v.oneCell'=true:=by rw [<- hL];exact rk_one k
 have hblt:=(Array.getElem?_eq_some_iff.1 hB).1
 rw [hL] at HR
 have nA:=heap_alloc_new w (.cells #[.string k,.string v,.string l,.string r] 73)
 have hA:Below w.heap.size w (w.alloc (.cells #[.string k,.string v,.string l,.string r] 73)):=(Below.refl _ _).alloc (Nat.le_refl _) _
 obtain ⟨gn,hgn⟩:∃ gn,w.heap.size=gn:=⟨_,rfl⟩
 go_enter func191,ntmps191
 go_upto_region 1 with fail
 generalize w.alloc (.cells #[.string k,.string v,.string l,.string r] 73)=WA at nA hA ⊢
 rw [hgn] at nA
 have hgl:w.heap.size <= gn:=Nat.le_of_eq hgn
 clear hgn
 have a0:=ZC nA 0
 go_upto_region 2 with (first | (go_at_call 166;refine (HR.out _ hA).mono ?_;rintro e w1 ⟨rfl,hb1⟩) | (refine wpList_alloc_row _ rfl (some 5) rfl 249 249 rfl zerosR allocR ?_;intro gt w2 hr2 hb2) | (refine wpList_store_whole _ rfl rfl 249 (.tmp 5) (.tmp 8) rfl w1.heap.size gt 33 zerosR L rfl rfl hr2 hl33 size125 h1c ?_;intro w3 hr3 hg3))
 have hs1:=hb1.size
 have hs2:=hb2.size
 have hsA:=hA.size
 have h03:Below w.heap.size w w3:=((hA.trans (hb1.mono hsA)).trans (hb2.mono (by omega))).trans (below_of_grown hg3 (by have:=hr2.ge;omega) (by omega))
 have hgna:gn < WA.heap.size:=(Array.getElem?_eq_some_iff.1 nA).1
 have n3:NBk gn k v l r w3:=(hg3.block gn (by omega) (by intro e;have:=Option.some.inj e;have:=hr2.ge;omega)).trans ((hb2.block gn (by omega)).trans ((hb1.block gn hgna).trans nA))
 have b3:BR b hash over under par w3:=(h03.block b hblt).trans hB
 have hgt:gn ≠ gt /\ w.heap.size <= gt:=by have:=hr2.ge;omega
 have p3:ParAt par pk w3:=by
  rcases hP with h | ⟨h1,g,h2,h3⟩
  · exact .inl h
  · exact .inr ⟨h1,g,h2,(h03.block g (Array.getElem?_eq_some_iff.1 h3).1).trans h3⟩
 have hR3:Row w3 w.heap.size gt 33 33 L:=hr3.mono (by omega)
 clear hr3 hg3 hr2 hb2 hb1 hs1 hs2 a0 nA hA HR hB hP hgna
 clear hsA
 clear w2 w1 WA
 have d0:=ZC n3 0
 have d1:=ZC n3 1
 have d2:=ZC n3 2
 have d3:=ZC n3 3
 have e4:=ZC b3 4
 have e5:=ZC b3 5
 have e6:=ZC b3 6
 have e7:=ZC b3 7
 have fb:∀ j,w3.frozen? ⟨b,j,none⟩=false:=fun j=>by rw [World.frozen?,show w3.heap[b]?=_ from b3];rfl
 go_upto_region 3 with fail
 have b4:=heap_setCell_same _ b 7 _ 225 (.string r) (heap_setCell_same _ b 6 _ 225 (.string l) (heap_setCell_same _ b 5 _ 225 (.string v) (heap_setCell_same _ b 4 _ 225 (.string k) b3)))
 have f34:Fr w3.heap.size (fun q=>q=b) w3 ((((w3.setCell ⟨b,4,none⟩ (.string k)).setCell ⟨b,5,none⟩ (.string v)).setCell ⟨b,6,none⟩ (.string l)).setCell ⟨b,7,none⟩ (.string r)):=(((Fr.set1 w3 4 _).step (Fr.set1 _ 5 _)).step (Fr.set1 _ 6 _)).step (Fr.set1 _ 7 _)
 generalize (((w3.setCell ⟨b,4,none⟩ (.string k)).setCell ⟨b,5,none⟩ (.string v)).setCell ⟨b,6,none⟩ (.string l)).setCell ⟨b,7,none⟩ (.string r)=W4 at b4 f34 ⊢
 have b4:BF b hash over under par k v l r none none W4:=b4
 have f4:Fr w.heap.size (fun q=>q=b) w W4:=(Fr.of_below h03).step f34
 have n4:NBk gn k v l r W4:=f34.keep n3 (by omega) (.inl (by decide))
 have r4:Row W4 w.heap.size gt 33 33 L:=hR3.kept f34.grown (by intro e;have:=Option.some.inj e;omega)
 have p4:ParAt par pk W4:=p3.fr f34 (fun g hg=>rk_ne hg b3)
 clear f34 b3 n3 hR3 p3 h03 d0 d1 d2 d3 e4 e5 e6 e7 fb
 clear w3
 have HL:Hid (∀ w',Calls prog 172 #[.agg #[.string over,.string under,.pointer par],.agg L.toArray] w' fun e w''=>(∃ g,e=.returned (.agg #[.string over,.string k,.pointer (some ⟨g,0,none⟩)]) /\ w'.heap.size <= g /\ RKb g k w'') /\ Below w'.heap.size w' w''):=fun w'=>by rw [<- hL];exact leftOf_any over under k par w'
 have HR2:Hid (∀ w',Calls prog 173 #[.agg #[.string over,.string under,.pointer par],.agg L.toArray] w' fun e w''=>(∃ g,e=.returned (.agg #[.string k,.string under,.pointer (some ⟨g,0,none⟩)]) /\ w'.heap.size <= g /\ RKb g k w'') /\ Below w'.heap.size w' w''):=fun w'=>by rw [<- hL];exact rightOf_any over under k par w'
 have HF:Hid (∀ w',ParAt par pk w' -> Calls prog 171 #[.agg #[.string over,.string under,.pointer par],.agg L.toArray] w' fun e w''=>e=.returned (.bool (insW over under k && parW hgW pk k)) /\ Below w'.heap.size w' w''):=fun w' hp=>by rw [<- hL];exact fits_any over under k pk par w' hp
 have HB:Hid (∀ (s x y:ByteArray) (g:Nat) (w':World),Calls prog 148 #[.string s,.agg #[.string x,.string y,.pointer (some ⟨g,0,none⟩)]] w' fun e w''=>∃ p,e=.returned (.pointer p) /\ LinkAt s x y (some ⟨g,0,none⟩) p w'' /\ (∀ q,p=some q -> w'.heap.size <= q.block) /\ Below w'.heap.size w' w''):=fun s x y g w'=>branchAt_any s x y _ w'
 clear hL
 have HS4:Hid (∀ W',Below W4.heap.size W4 W' -> W'.cell? ⟨gn,2,none⟩=some (.string l) /\ W'.cell? ⟨b,1,none⟩=some (.string over) /\ W'.cell? ⟨b,2,none⟩=some (.string under) /\ W'.cell? ⟨b,3,none⟩=some (.pointer par) /\ W'.rangeAt gt 0 L):=fun W' hW'=>by
  have x1:=n4.below hW'
  have x2:=(hW'.block b (Array.getElem?_eq_some_iff.1 b4).1).trans b4
  exact ⟨ZC x1 2,ZC x2 1,ZC x2 2,ZC x2 3,(r4.below hW').range⟩
 have hd4:Below W4.heap.size W4 W4.drew:=(Below.refl _ _).drew
 refine wp_region_held_drew (S:=fun W'=>W'.cell? ⟨gn,2,none⟩=some (.string l) /\ W'.cell? ⟨b,1,none⟩=some (.string over) /\ W'.cell? ⟨b,2,none⟩=some (.string under) /\ W'.cell? ⟨b,3,none⟩=some (.pointer par) /\ W'.rangeAt gt 0 L) (by kernel_rfl) (HS4.out _ hd4) (fun hHeld=>?_)
 refine tkI 0 ?_
 simp only [Act.put,zq]
 refine tkI 1 ?_
 simp only [Act.put,zq]
 refine tkI 2 ?_
 simp only [Act.put,zq]
 refine tkI 3 ?_
 simp only [Act.put,zq]
 refine tkI 4 ?_
 simp only [Act.put,zq]
 refine tkI 5 ?_
 simp only [Act.put,zq]
 refine tkI 6 ?_
 simp only [Act.put,zq]
 refine tkH (i:=7) (v:=_) rfl (yieldsIf_load_mid (by rfl) _ _ rfl _ _ rfl L _ (fun w h=>h.2.2.2.2) Tryz.underlying249 rfl (by rw [hl33];exact size125)) ?_
 simp only [Act.put,zq]
 refine rdH 8 (fun K hK=>?_)
 go_simp
 refine (HL.out _).mono ?_
 rintro e w5 ⟨⟨gl,rfl,hgl5,hk5⟩,hb5⟩
 have hb5':=hd4.trans hb5
 refine hK.out _ _ (HS4.out _ hb5') (fun hHeld=>?_)
 clear hK K
 refine rdH 9 (fun K hK=>?_)
 go_simp
 refine (HB.out _ _ _ _ _).mono ?_
 rintro e w6 ⟨pl,rfl,hl6,hq6,hb6⟩
 have hb6':=hb5'.trans (hb6.mono hb5'.size)
 have x6:BF b hash over under par k v l r none none w6:=(hb6'.block b (Array.getElem?_eq_some_iff.1 b4).1).trans b4
 have c8:=ZC x6 8
 have fz8:w6.frozen? ⟨b,8,none⟩=false:=by rw [World.frozen?,show w6.heap[b]?=_ from x6];rfl
 refine hK.out _ _ (HS4.out _ hb6') (fun hHeld=>?_)
 clear hK K
 refine tkI 10 ?_
 simp only [Act.put,zq]
 refine tkI 11 ?_
 simp only [Act.put,zq]
 refine rdH 12 (fun K hK=>?_)
 go_simp
 have y6:=heap_setCell_same _ b 8 _ 225 (.pointer pl) x6
 have fs6:Fr w6.heap.size (fun q=>q=b) w6 (w6.setCell ⟨b,8,none⟩ (.pointer pl)):=Fr.set1 _ _ _
 obtain ⟨W7,hV⟩:∃ V,w6.setCell ⟨b,8,none⟩ (.pointer pl)=V:=⟨_,rfl⟩
 have hsz6:w6.heap.size <= W7.heap.size:=by rw [<- hV];exact fs6.size
 rw [hV] at y6 fs6
 have b7:BF b hash over under par k v l r pl none W7:=y6
 have n7:NBk gn k v l r W7:=fs6.keep (n4.below hb6') (by omega) (.inl (by decide))
 have r7:Row W7 w.heap.size gt 33 33 L:=(r4.below hb6').kept fs6.grown (by intro e;have:=Option.some.inj e;omega)
 have p7:ParAt par pk W7:=(p4.fr (Fr.of_below (base:=0) (N:=fun _=>False) hb6') (fun _ _ h=>h)).fr fs6 (fun g hg=>rk_ne hg x6)
 have f7:Fr w.heap.size (fun q=>q=b) w W7:=(f4.step (Fr.of_below hb6')).step fs6
 rw [hV]
 refine hK.out _ _ (⟨ZC n7 2,ZC b7 1,ZC b7 2,ZC b7 3,r7.range⟩) (fun hHeld=>?_)
 clear hK K
 refine wpAnyH_done (by kernel_rfl) ?_ _
 have l7:LinkAt l over k (some ⟨gl,0,none⟩) pl W7:=by
  rcases hl6 with h | ⟨h1,q,h2,h3⟩
  · exact .inl h
  · exact .inr ⟨h1,q,h2,fs6.keep h3 (by have h7:w5.heap.size <= q:=hq6 _ h2;have h9:=hb5'.size;have h8:=(Array.getElem?_eq_some_iff.1 b4).1;omega) (.inl (by decide))⟩
 have k7:RKb gl k W7:=fs6.keep (hk5.below hb6) (rk_ne (hk5.below hb6) x6) (.inl (by decide))
 have hq7:∀ q,pl=some q -> W4.heap.size <= q.block /\ q.block < W7.heap.size:=fun q hq=>by
  have h2:=hb5'.size
  rcases hl6 with ⟨_,h⟩ | ⟨_,q',h,h4⟩
  · rw [h] at hq;cases hq
  · have h1:w5.heap.size <= q':=hq6 _ h
    rw [h] at hq;cases hq;have:=(Array.getElem?_eq_some_iff.1 h4).1;exact ⟨(show W4.heap.size <= q' by omega),(show q' < W7.heap.size by omega)⟩
 have hs47:w.heap.size <= W4.heap.size:=f4.size
 clear hl6 hq6 hk5 x6 c8 fz8 hV b4 n4 r4 p4 f4 fs6 hb6 hb6' hb5 hb5' HS4 hd4 hgl5 hsz6 y6
 have HS7:Hid (∀ W',Below W7.heap.size W7 W' -> W'.cell? ⟨gn,3,none⟩=some (.string r) /\ W'.cell? ⟨b,1,none⟩=some (.string over) /\ W'.cell? ⟨b,2,none⟩=some (.string under) /\ W'.cell? ⟨b,3,none⟩=some (.pointer par) /\ W'.rangeAt gt 0 L):=fun W' hW'=>by
  have x1:=n7.below hW'
  have x2:=(hW'.block b (Array.getElem?_eq_some_iff.1 b7).1).trans b7
  exact ⟨ZC x1 3,ZC x2 1,ZC x2 2,ZC x2 3,(r7.below hW').range⟩
 have hd7:Below W7.heap.size W7 W7.drew:=(Below.refl _ _).drew
 go_upto_region 4 with fail
 refine wp_region_held_drew (S:=fun W'=>W'.cell? ⟨gn,3,none⟩=some (.string r) /\ W'.cell? ⟨b,1,none⟩=some (.string over) /\ W'.cell? ⟨b,2,none⟩=some (.string under) /\ W'.cell? ⟨b,3,none⟩=some (.pointer par) /\ W'.rangeAt gt 0 L) (by kernel_rfl) (HS7.out _ hd7) (fun hHeld=>?_)
 refine tkI 0 ?_
 simp only [Act.put,zq]
 refine tkI 1 ?_
 simp only [Act.put,zq]
 refine tkI 2 ?_
 simp only [Act.put,zq]
 refine tkI 3 ?_
 simp only [Act.put,zq]
 refine tkI 4 ?_
 simp only [Act.put,zq]
 refine tkI 5 ?_
 simp only [Act.put,zq]
 refine tkI 6 ?_
 simp only [Act.put,zq]
 refine tkH (i:=7) (v:=_) rfl (yieldsIf_load_mid (by rfl) _ _ rfl _ _ rfl L _ (fun w h=>h.2.2.2.2) Tryz.underlying249 rfl (by rw [hl33];exact size125)) ?_
 simp only [Act.put,zq]
 refine rdH 8 (fun K hK=>?_)
 go_simp
 refine (HR2.out _).mono ?_
 rintro e w8 ⟨⟨gr,rfl,hgl8,hk8⟩,hb8⟩
 have hb8':=hd7.trans hb8
 refine hK.out _ _ (HS7.out _ hb8') (fun hHeld=>?_)
 clear hK K
 refine rdH 9 (fun K hK=>?_)
 go_simp
 refine (HB.out _ _ _ _ _).mono ?_
 rintro e w9 ⟨pr,rfl,hl9,hq9,hb9⟩
 have hb9':=hb8'.trans (hb9.mono hb8'.size)
 have x9:BF b hash over under par k v l r pl none w9:=(hb9'.block b (Array.getElem?_eq_some_iff.1 b7).1).trans b7
 have c9:=ZC x9 9
 have fz9:w9.frozen? ⟨b,9,none⟩=false:=by rw [World.frozen?,show w9.heap[b]?=_ from x9];rfl
 refine hK.out _ _ (HS7.out _ hb9') (fun hHeld=>?_)
 clear hK K
 refine tkI 10 ?_
 simp only [Act.put,zq]
 refine tkI 11 ?_
 simp only [Act.put,zq]
 refine rdH 12 (fun K hK=>?_)
 go_simp
 have y9:=heap_setCell_same _ b 9 _ 225 (.pointer pr) x9
 have fs9:Fr w9.heap.size (fun q=>q=b) w9 (w9.setCell ⟨b,9,none⟩ (.pointer pr)):=Fr.set1 _ _ _
 obtain ⟨WV,hV⟩:∃ V,w9.setCell ⟨b,9,none⟩ (.pointer pr)=V:=⟨_,rfl⟩
 have hsz9:w9.heap.size <= WV.heap.size:=by rw [<- hV];exact fs9.size
 rw [hV] at y9 fs9
 have bV:BF b hash over under par k v l r pl pr WV:=y9
 have nV:NBk gn k v l r WV:=fs9.keep (n7.below hb9') (by omega) (.inl (by decide))
 have rV:Row WV w.heap.size gt 33 33 L:=(r7.below hb9').kept fs9.grown (by intro e;have:=Option.some.inj e;omega)
 have pV:ParAt par pk WV:=(p7.fr (Fr.of_below (base:=0) (N:=fun _=>False) hb9') (fun _ _ h=>h)).fr fs9 (fun g hg=>rk_ne hg x9)
 have fV:Fr w.heap.size (fun q=>q=b) w WV:=(f7.step (Fr.of_below hb9')).step fs9
 rw [hV]
 refine hK.out _ _ (⟨ZC nV 3,ZC bV 1,ZC bV 2,ZC bV 3,rV.range⟩) (fun hHeld=>?_)
 clear hK K
 refine wpAnyH_done (by kernel_rfl) ?_ _
 have lV:LinkAt r k under (some ⟨gr,0,none⟩) pr WV:=by
  rcases hl9 with h | ⟨h1,q,h2,h3⟩
  · exact .inl h
  · exact .inr ⟨h1,q,h2,fs9.keep h3 (by have h7:w8.heap.size <= q:=hq9 _ h2;have h9:=hb8'.size;have h8:=(Array.getElem?_eq_some_iff.1 b7).1;omega) (.inl (by decide))⟩
 have kV:RKb gr k WV:=fs9.keep (hk8.below hb9) (rk_ne (hk8.below hb9) x9) (.inl (by decide))
 have hqV:∀ q,pr=some q -> W7.heap.size <= q.block /\ q.block < WV.heap.size:=fun q hq=>by
  have h2:=hb8'.size
  rcases hl9 with ⟨_,h⟩ | ⟨_,q',h,h4⟩
  · rw [h] at hq;cases hq
  · have h1:w8.heap.size <= q':=hq9 _ h
    rw [h] at hq;cases hq;have:=(Array.getElem?_eq_some_iff.1 h4).1;exact ⟨(show W7.heap.size <= q' by omega),(show q' < WV.heap.size by omega)⟩
 have hn9:∀ q,pl=some q -> q.block ≠ b:=fun q hq e=>by have:=(hq7 q hq).1;omega
 have l7':LinkAt l over k (some ⟨gl,0,none⟩) pl WV:=by
  rcases l7 with h | ⟨h1,q,h2,h3⟩
  · exact .inl h
  · exact .inr ⟨h1,q,h2,fs9.keep ((hb9'.block q (Array.getElem?_eq_some_iff.1 h3).1).trans h3) (hn9 _ h2) (.inl (by decide))⟩
 have k7':RKb gl k WV:=fs9.keep (k7.below hb9') (rk_ne (k7.below hb9') x9) (.inl (by decide))
 have hsV:=fV.size
 have hs7V:=f7.size
 clear hl9 hq9 hk8 x9 c9 fz9 hV b7 n7 r7 p7 f7 fs9 hb9 hb9' hb8 hb8' HS7 hd7 hgl8 hsz9 y9 l7 k7
 have HSV:Hid (∀ W',Below WV.heap.size WV W' -> W'.cell? ⟨gn,3,none⟩=some (.string r) /\ W'.cell? ⟨b,1,none⟩=some (.string over) /\ W'.cell? ⟨b,2,none⟩=some (.string under) /\ W'.cell? ⟨b,3,none⟩=some (.pointer par) /\ W'.rangeAt gt 0 L):=fun W' hW'=>by
  have x1:=nV.below hW'
  have x2:=(hW'.block b (Array.getElem?_eq_some_iff.1 bV).1).trans bV
  exact ⟨ZC x1 3,ZC x2 1,ZC x2 2,ZC x2 3,(rV.below hW').range⟩
 have hdV:Below WV.heap.size WV WV.drew:=(Below.refl _ _).drew
 have FP:Hid (∀ W',Below WV.heap.size WV W' -> FillPost b hash over under par k v l r w W'):=fun W' hW'=>⟨fV.step (Fr.of_below hW'),pl,pr,gl,gr,(hW'.block b (Array.getElem?_eq_some_iff.1 bV).1).trans bV,l7'.below hW',k7'.below hW',lV.below hW',kV.below hW',fun q hq=>Nat.le_trans hs47 (hq7 q hq).1,fun q hq=>Nat.le_trans hs7V (hqV q hq).1,fun q q' hq hq'=>Nat.lt_of_lt_of_le (hq7 q hq).2 (hqV q' hq').1⟩
 go_upto_region 5 with fail
 refine wp_region_held_drew (S:=fun W'=>W'.cell? ⟨gn,3,none⟩=some (.string r) /\ W'.cell? ⟨b,1,none⟩=some (.string over) /\ W'.cell? ⟨b,2,none⟩=some (.string under) /\ W'.cell? ⟨b,3,none⟩=some (.pointer par) /\ W'.rangeAt gt 0 L) (by kernel_rfl) (HSV.out _ hdV) (fun hHeld=>?_)
 refine tkI 0 ?_
 simp only [Act.put,zq]
 refine tkI 1 ?_
 simp only [Act.put,zq]
 refine tkI 2 ?_
 simp only [Act.put,zq]
 refine tkI 3 ?_
 simp only [Act.put,zq]
 refine tkH (i:=4) (v:=_) rfl (yieldsIf_load_mid (by rfl) _ _ rfl _ _ rfl L _ (fun w h=>h.2.2.2.2) Tryz.underlying249 rfl (by rw [hl33];exact size125)) ?_
 simp only [Act.put,zq]
 refine rdH 5 (fun K hK=>?_)
 go_simp
 refine (HF.out _ (pV.fr (Fr.of_below (base:=0) (N:=fun _=>False) hdV) (fun _ _ h=>h))).mono ?_
 rintro e wz ⟨rfl,hbz⟩
 have hbz':=hdV.trans hbz
 refine hK.out _ _ (HSV.out _ hbz') (fun hHeld=>?_)
 clear hK K
 refine tkI 6 ?_
 simp only [Act.put,zq]
 refine wpAnyH_done (by kernel_rfl) ?_ _
 go_wp2_with fail
 go_ret
 exact ⟨rfl,FP.out _ hbz'⟩
end Go.Proofs.YtibjhkpgaaapaaaGreatDoor
