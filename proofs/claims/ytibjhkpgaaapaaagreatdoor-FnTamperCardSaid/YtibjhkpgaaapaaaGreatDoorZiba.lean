import Derived.Test.YtibjhkpgaaapaaaGreatDoorZiaz
import Derived.Test.YtibjhkpgaaapaaaGreatDoorZial
import Derived.Test.YtibjhkpgaaapaaaGreatDoorZiaw
set_option maxRecDepth 100000
set_option maxHeartbeats 2000000
namespace Go.Proofs.YtibjhkpgaaapaaaGreatDoor
open Go.RowKit Go.Proofs.Sha Tryz
theorem accP_ord {n:Int}{root lo hi s:ByteArray}{t:PT}(h:accP n root lo hi s=some t):ordP ⟨#[]⟩ ⟨#[]⟩ t:=by
 unfold accP at h
 split at h
 ·cases hr:rdP s lo hi n.toNat 501 0 ⟨#[]⟩ ⟨#[]⟩ ⟨#[]⟩ 0 with
  | none=>rw[hr] at h;cases h
  | some Y =>
   obtain⟨t',a',c'⟩:=Y;rw[hr] at h;unfold accQ at h;simp only at h
   split at h
   ·cases h;exact rdP_ord 501 _ _ _ _ _ _ _ _ hr
   ·cases h
 ·cases h
theorem qcm (wd:Nat):∀ (t:PT) (over under:ByteArray),ordP over under t->∀n ∈ nodesP wd t,n.1.size<=1048576/\n.2.1.size<=1048576
 | .e,_,_,_,n,hn=>by cases hn
 | .s _,_,_,_,n,hn=>by cases hn
 | .f k v l r,over,under,⟨_,_,hk,hv,h3,h4⟩,n,hn=>by
  rw[nodesP] at hn
  rcases List.mem_cons.1 hn with hn|hn
  ·rw[hn];exact⟨by show k.size<=_;omega,by show v.size<=_;omega⟩
  ·rcases List.mem_append.1 hn with hn|hn
   ·exact qcm wd l over k h3 n hn
   ·exact qcm wd r k under h4 n hn
theorem qck (lo hi:ByteArray){n:Int}{root s:ByteArray}{t:PT}(h:accP n root lo hi s=some t):SmallP (shP lo hi t)/\(shP lo hi t).length<=500:=by
 have h1:=accP_ord h;have h2:=qcU h;have h3:=shP_len lo hi t;have hs:=qcm n.toNat t _ _ h1;have e:=shF_all (lo:=lo) (hi:=hi) (wd:=n.toNat) h1;obtain⟨q1,q2⟩:=shF_small lo hi (λp=>p.1.size<=1048576/\p.2.size<=1048576) (nodesP n.toNat t) [] hs (λp hp=>by cases hp);rw[e] at q1;exact⟨smallP_y (by omega) q1,by omega⟩
def SVerAt (lo hi:ByteArray) (R:Option PT) (w:World) (e:Ending) (w':World):Prop :=
 (∀t,R=some t->∃a c,e=.returned (.tuple #[.slice a (shP lo hi t).length c,.bool true])/\w'.ownsRow w.heap.size 81 2 (.slice a (shP lo hi t).length c) (shP lo hi t).length (flatP (shP lo hi t)))/\(R=none->∃a,e=.returned (.tuple #[.slice a 0 0,.bool false])/\w'.ownsRow w.heap.size 81 2 (.slice a 0 0) 0 [])/\Below w.heap.size w w'
theorem sverify_any (n:Int)(root lo hi s:ByteArray)(w:World)(hs:s.size<=1048576)(hr:root.size<=1048576)(hlo:lo.size<=1048576)(hhi:hi.size<=1048576) : Calls prog 16 #[.int .i64 n,.string root,.string lo,.string hi,.string s] w (SVerAt lo hi (accP n root lo hi s) w):=by
 have HWh:=whole_any n root lo hi s w hs hr hlo hhi;have hord:=λt=>accP_ord (n:=n) (root:=root) (lo:=lo) (hi:=hi) (s:=s) (t:=t);have hcn:=λt=>qcU (n:=n) (root:=root) (lo:=lo) (hi:=hi) (s:=s) (t:=t);generalize accP n root lo hi s=R at HWh hord hcn⊢;cases R with
 | none =>
  have HW2:Calls prog 35 #[.int .i64 n,.string root,.string lo,.string hi,.string s] w λe w'=>e=.returned (.agg #[.string ⟨#[]⟩,.slice none 0 0,.string ⟨#[]⟩,.int .i64 (-1)])/\Below w.heap.size w w':=HWh.mono λe w' h=>⟨h.2.1 rfl,h.2.2⟩;have HP:Hid (∀W,Below w.heap.size w W->SVerAt lo hi none w (.returned (.tuple #[.slice (some ⟨W.heap.size,0,none⟩) 0 0,.bool false])) (W.alloc (.cells #[] 81))):=λW hb=>⟨λt h=>(by cases h),λ_=>⟨_,rfl,qdH hb.size (heap_alloc_new W _)⟩,hb.alloc hb.size _⟩;clear HWh hord hcn;go_enter func16,ntmps16;go_upto_region 2 with (first|(go_at_call 35;refine HW2.mono ?_;rintro e W1 ⟨rfl,hb1⟩));have hb2:=hb1.alloc hb1.size (.cells #[.string ⟨#[]⟩,.slice none 0 0,.string ⟨#[]⟩,.int .i64 (-1)] 65);have nP:=heap_alloc_new W1 (.cells #[.string ⟨#[]⟩,.slice none 0 0,.string ⟨#[]⟩,.int .i64 (-1)] 65);generalize W1.alloc (.cells #[.string ⟨#[]⟩,.slice none 0 0,.string ⟨#[]⟩,.int .i64 (-1)] 65)=W2 at hb2 nP⊢;generalize W1.heap.size=gp at nP⊢;have l3:=ZC nP 3;go_wp2_with fail;go_ret2;exact HP.out _ hb2
 | some t =>
  have ho:=hord t rfl;have hc:=hcn t rfl;have hnl:=qbi n.toNat t;have e9:=shF_all (lo:=lo) (hi:=hi) (wd:=n.toNat) ho;obtain⟨ln,hln⟩:=eX ((nodesP n.toNat t).length);have HW2:Calls prog 35 #[.int .i64 n,.string root,.string lo,.string hi,.string s] w λe w'=>∃ (x y:ByteArray) (al:Option Addr) (cl:Nat),e=.returned (.agg #[.string x,.slice al ln cl,.string y,.int .i64 (s.size:Int)])/\w'.ownsRow w.heap.size 73 4 (.slice al ln cl) ln (flatN (nodesP n.toNat t))/\Below w.heap.size w w':=HWh.mono λe w' h=>by
   obtain⟨x,y,al,cl,he,_,_,hown⟩:=h.1 t rfl;rw[hln] at he hown;exact⟨x,y,al,cl,he,hown,h.2.2⟩
  have HSh:Hid (∀W al cl,Below w.heap.size w W->W.ownsRow w.heap.size 73 4 (.slice al ln cl) ln (flatN (nodesP n.toNat t))->Calls prog 37 #[.slice al ln cl,.string lo,.string hi] W λe W'=>∃a2 c2,e=.returned (.slice a2 (shP lo hi t).length c2)/\SVerAt lo hi (some t) w (.returned (.tuple #[.slice a2 (shP lo hi t).length c2,.bool true])) W'):=λW al cl hb hown=>by
   have hna:NArg al (nodesP n.toNat t) W:=own4_narg (by rw[hln];exact hown) (by omega);have:=shown_any lo hi hlo hhi al (nodesP n.toNat t) cl W hna (λb e hn=>by obtain⟨b',e',hl',_⟩:=hna.cells hn;rw[e] at e';cases e';exact hl') (qcm n.toNat t _ _ ho);rw[hln,e9] at this;refine this.mono ?_;rintro e W' ⟨a2,c2,he,hO⟩;exact⟨a2,c2,he,λt' h'=>(by cases h';exact⟨a2,c2,rfl,qbd hO.own hb.size⟩),λh'=>(by cases h'),hb.trans (hO.bel.mono hb.size)⟩
  generalize (shP lo hi t).length=m at HSh;clear HWh hord hcn ho hc hnl e9 hln;go_enter func16,ntmps16;go_upto_region 2 with (first|(go_at_call 35;refine HW2.mono ?_;rintro e W1 ⟨x,y,al,cl,rfl,own1,hb1⟩));have hb2:=hb1.alloc hb1.size (.cells #[.string x,.slice al ln cl,.string y,.int .i64 (s.size:Int)] 65);have own2:=own1.alloc (.cells #[.string x,.slice al ln cl,.string y,.int .i64 (s.size:Int)] 65);have nP:=heap_alloc_new W1 (.cells #[.string x,.slice al ln cl,.string y,.int .i64 (s.size:Int)] 65);generalize W1.alloc (.cells #[.string x,.slice al ln cl,.string y,.int .i64 (s.size:Int)] 65)=W2 at hb2 nP own2⊢;generalize W1.heap.size=gp at nP⊢;have l1:=ZC nP 1;have l3:=ZC nP 3;have z1:decide ((s.size:Int)<0)=false:=decide_eq_false (by omega);go_wp2_with (first|(go_at_call 37;refine(HSh.out _ _ _ hb2 own2).mono ?_;rintro e W3 ⟨a2,c2,rfl,hv3⟩));go_ret2;exact hv3
structure AB (ca cb:Nat) (sa sb:ByteArray) (w:World):Prop where
 ha:w.heap[ca]?=some (.cells #[.string sa] 9)
 hb:w.heap[cb]?=some (.cells #[.string sb] 9)
 ne:ca ≠ cb
theorem AB.below {ca cb:Nat}{sa sb:ByteArray}{w w':World}(h:AB ca cb sa sb w)(hb:Below w.heap.size w w'):AB ca cb sa sb w' :=
 ⟨(hb.block ca (zG h.ha).1).trans h.ha,(hb.block cb (zG h.hb).1).trans h.hb,h.ne⟩
theorem txt_ne (e:ByteArray):(txt e).toList.isEmpty=false:=by
 rw[ByteArray.toList_eq];unfold txt;rw[ByteArray.data_append];simp
def resT:Option (ByteArray × ByteArray)->ByteArray × ByteArray
 | none=>(⟨#[]⟩,⟨#[]⟩)
 | some q=>(txt q.1,txt q.2)
def QB (b:Nat) (lv rv:Value) (E:ByteArray) (w:World):Prop:=∃k v:Value,w.heap[b]?=some (.cells #[k,v,lv,rv,.string E] 151)
theorem QB.below {b:Nat}{lv rv:Value}{E:ByteArray}{w w':World}(h:QB b lv rv E w)(hb:Below w.heap.size w w'):QB b lv rv E w':=by
 obtain⟨k,v,h⟩:=h;exact⟨k,v,qab hb h⟩
abbrev Uc (ca cb:Nat):World->World->Prop:=Upd (λk=>k=ca\/k=cb)
theorem ab_keep {ca cb b:Nat}{sa sb:ByteArray}{w w':World}{cs:Array Value}(h:w.heap[b]?=some (.cells cs 151))(hab:AB ca cb sa sb w)(hu:Uc ca cb w w'):w'.heap[b]?=some (.cells cs 151) :=
 (hu.block b (zG h).1 (λq=>by
  rcases q with q|q
  ·exact qai h hab.ha (by decide) q
  ·exact qai h hab.hb (by decide) q)).trans h
theorem QB.upd {ca cb b:Nat}{sa sb:ByteArray}{lv rv:Value}{E:ByteArray}{w w':World}(h:QB b lv rv E w)(hab:AB ca cb sa sb w)(hu:Uc ca cb w w'):QB b lv rv E w':=by
 obtain⟨k,v,h⟩:=h;exact⟨k,v,ab_keep h hab hu⟩
theorem PA.upd {ca cb wd n0:Nat}{sa sb:ByteArray}{t:PT}{x:Value}{w w':World}(h:PA wd n0 t x w)(hab:AB ca cb sa sb w)(hu:Uc ca cb w w'):PA wd n0 t x w':=h.keep (λ_ _ _ h3=>ab_keep h3 hab hu)
theorem qco (b:Nat)(lv rv:Value)(E:ByteArray)(w:World)(h:QB b lv rv E w):Calls prog 220 #[.pointer (some ⟨b,0,none⟩)] w λy w'=>y=.returned (.string E)/\w'=w:=by
 obtain⟨k,v,h⟩:=h;have c:=ZC h 4;clear h;go_enter func220,ntmps220;go_wp2_with fail;go_ret;exact⟨rfl,rfl⟩
theorem subs5_any (wd n0 b:Nat)(l r:PT)(lv rv:Value)(E:ByteArray)(w:World)(h:QB b lv rv E w)(hl:PA wd n0 l lv w)(hr:PA wd n0 r rv w) : Calls prog 222 #[.pointer (some ⟨b,0,none⟩)] w λe w'=>e=.returned (.tuple #[.pointer (ptrV lv),.pointer (ptrV rv)])/\Below w.heap.size w w':=by
 obtain⟨k,v,h⟩:=h;exact subsP_any wd n0 b l r lv rv _ _ _ w h hl hr
theorem PB.below {wd n0:Nat}{t:PT}{p:Option Addr}{w w':World}(h:PB wd n0 t p w)(hb:Below w.heap.size w w'):PB wd n0 t p w':=by
 cases t with
 | e=>exact h
 | s _=>exact h
 | f k v l r =>
  obtain⟨b,lv,rv,h1,h2,h3,h4,h5⟩:=h;exact⟨b,lv,rv,h1,h2,qab hb h3,h4.below hb,h5.below hb⟩
theorem qcF (wd n0:Nat)(s t:PT)(p q:Option Addr)(w:World)(hs:PB wd n0 s p w)(ht:PB wd n0 t q w):Calls prog 46 #[.agg #[.pointer p,.pointer q]] w λe w'=>e=.returned (.bool (isF s && isF t))/\Below w.heap.size w w':=by
 have H1:Hid (∀w',Below w.heap.size w w'->Calls prog 99 #[.pointer p] w' λe w''=>e=.returned (.bool (isF s))/\w'=w''):=λw' hb=>qcl wd n0 s p w' (hs.below hb);have H2:Hid (∀w',Below w.heap.size w w'->Calls prog 99 #[.pointer q] w' λe w''=>e=.returned (.bool (isF t))/\w'=w''):=λw' hb=>qcl wd n0 t q w' (ht.below hb);have hbA:=bA w (.cells #[.pointer p,.pointer q] 87);have nA:=heap_alloc_new w (.cells #[.pointer p,.pointer q] 87);have k0:=ZC nA 0;have k1:=ZC nA 1;generalize isF s=x at H1⊢;generalize isF t=y at H2⊢;clear hs ht nA;cases x with
 | false =>
  go_enter func46,ntmps46;go_wp2_with (first|(go_at_call 99;refine(H1.out _ hbA).mono ?_;rintro e w1 ⟨rfl,rfl⟩));go_ret;exact⟨rfl,hbA⟩
 | true =>
  go_enter func46,ntmps46;go_wp2_with (first|(go_at_call_of 99 (Value.pointer p);refine(H1.out _ hbA).mono ?_;rintro e w1 ⟨rfl,rfl⟩)|(go_at_call_of 99 (Value.pointer q);refine(H2.out _ hbA).mono ?_;rintro e w1 ⟨rfl,rfl⟩));go_ret;exact⟨rfl,hbA⟩
theorem bsubs5_any (b1 b2:Nat)(wd n0:Nat)(la ra lb rb:PT)(lv1 rv1 lv2 rv2:Value)(e1 e2:ByteArray)(w:World)(h1:QB b1 lv1 rv1 e1 w)(h2:QB b2 lv2 rv2 e2 w)(a1:PA wd n0 la lv1 w)(a2:PA wd n0 ra rv1 w)(a3:PA wd n0 lb lv2 w)(a4:PA wd n0 rb rv2 w)(l1 r1 l2 r2:Option Addr)(q1:ptrV lv1=l1)(q2:ptrV rv1=r1)(q3:ptrV lv2=l2)(q4:ptrV rv2=r2) : Calls prog 225 #[.agg #[.pointer (some ⟨b1,0,none⟩),.pointer (some ⟨b2,0,none⟩)]] w λe w'=>e=.returned (.tuple #[.agg #[.pointer l1,.pointer l2],.agg #[.pointer r1,.pointer r2]])/\Below w.heap.size w w':=by
 have hm1 : ∀ w' : World, (method 427 84 (.pointer (some ⟨b1, 0, none⟩)) "loop.example/s03048/impl.subtrees").run prog w' = .ok (222, .pointer (some ⟨b1, 0, none⟩)) w' := fun _ => by kernel_rfl
 have hm2 : ∀ w' : World, (method 427 84 (.pointer (some ⟨b2, 0, none⟩)) "loop.example/s03048/impl.subtrees").run prog w' = .ok (222, .pointer (some ⟨b2, 0, none⟩)) w' := fun _ => by kernel_rfl
 have H1:Hid (∀w',Below w.heap.size w w'->Calls prog 222 #[.pointer (some ⟨b1,0,none⟩)] w' λe w''=>e=.returned (.tuple #[.pointer l1,.pointer r1])/\Below w'.heap.size w' w''):=λw' h=>by rw[<-q1,<-q2];exact subs5_any wd n0 b1 la ra lv1 rv1 e1 w' (h1.below h) (a1.below h) (a2.below h)
 have H2:Hid (∀w',Below w.heap.size w w'->Calls prog 222 #[.pointer (some ⟨b2,0,none⟩)] w' λe w''=>e=.returned (.tuple #[.pointer l2,.pointer r2])/\Below w'.heap.size w' w''):=λw' h=>by rw[<-q3,<-q4];exact subs5_any wd n0 b2 lb rb lv2 rv2 e2 w' (h2.below h) (a3.below h) (a4.below h)
 clear h1 h2 a1 a2 a3 a4 q1 q2 q3 q4;obtain⟨W,hW⟩:=eX (((w.alloc (.cells #[.pointer (some ⟨b1,0,none⟩),.pointer (some ⟨b2,0,none⟩)] 87)).alloc (.cells #[.pointer none,.pointer none] 87)).alloc (.cells #[.pointer none,.pointer none] 87));have hbA:Below w.heap.size w W:=by rw[<-hW];exact(((Below.refl _ _).alloc (Nat.le_refl _) _).alloc (by simp) _).alloc (by simp;omega) _
 have n0:W.heap[w.heap.size]?=some (.cells #[.pointer (some ⟨b1,0,none⟩),.pointer (some ⟨b2,0,none⟩)] 87):=by
  rw[<-hW,Below.heap_alloc _ _ _ (by simp;omega),Below.heap_alloc _ _ _ (by simp)];exact heap_alloc_new w _
 have n1:W.heap[w.heap.size+1]?=some (.cells #[.pointer none,.pointer none] 87):=by
  have:=heap_alloc_new (w.alloc (.cells #[.pointer (some ⟨b1,0,none⟩),.pointer (some ⟨b2,0,none⟩)] 87)) (.cells #[.pointer none,.pointer none] 87);rw[<-hW,Below.heap_alloc _ _ _ (by simp)];simpa using this
 have n2:W.heap[w.heap.size+1+1]?=some (.cells #[.pointer none,.pointer none] 87):=by
  have:=heap_alloc_new ((w.alloc (.cells #[.pointer (some ⟨b1,0,none⟩),.pointer (some ⟨b2,0,none⟩)] 87)).alloc (.cells #[.pointer none,.pointer none] 87)) (.cells #[.pointer none,.pointer none] 87);rw[<-hW];simpa using this
 have hsz:W.heap.size=w.heap.size+1+1+1:=by rw[<-hW];simp
 go_enter func225,ntmps225;go_upto_region 1 with fail
 try rw[hW]
 clear hW;obtain⟨ga,hga⟩:=eX (w.heap.size);rw[hga] at n0 n1 n2 hsz⊢;have k0:=ZC n0 0;go_wp2_with (first|(go_at_call_of 222 (Value.pointer (some ⟨b1,0,none⟩));refine(H1.out _ hbA).mono ?_;rintro e w1 ⟨rfl,hb1'⟩;have k1:=ZC ((hb1'.block ga (by omega)).trans n0) 1)|(go_at_call_of 222 (Value.pointer (some ⟨b2,0,none⟩));refine(H2.out _ (hbA.trans (hb1'.mono hbA.size))).mono ?_;rintro e w2 ⟨rfl,hb2'⟩;have hb2:Below W.heap.size W w2:=hb1'.trans (hb2'.mono hb1'.size);have m1:=(hb2.block (ga+1) (by omega)).trans n1;have m2:=(hb2.block (ga+1+1) (by omega)).trans n2;have d10:=ZC m1 0;have d11:=ZC m1 1;have d20:=ZC m2 0;have d21:=ZC m2 1;have f10:∀j,w2.frozen? ⟨ga+1,j,none⟩=false:=λj=>by { rw[World.frozen?,m1];rfl };have f20:∀j,w2.frozen? ⟨ga+1+1,j,none⟩=false:=λj=>by { rw[World.frozen?,m2];rfl }));have hb3:Below ga w ((((w2.setCell ⟨ga+1,0,none⟩ (.pointer l1)).setCell ⟨ga+1,1,none⟩ (.pointer l2)).setCell ⟨ga+1+1,0,none⟩ (.pointer r1)).setCell ⟨ga+1+1,1,none⟩ (.pointer r2)):=((((hbA.trans (hb2.mono hbA.size)).mono (by omega)).setCell (by show ga<=ga+1;omega) _).setCell (by show ga<=ga+1;omega) _).setCell (by show ga<=ga+1+1;omega) _ |>.setCell (by show ga<=ga+1+1;omega) _
 have e1:((((w2.setCell ⟨ga+1,0,none⟩ (.pointer l1)).setCell ⟨ga+1,1,none⟩ (.pointer l2)).setCell ⟨ga+1+1,0,none⟩ (.pointer r1)).setCell ⟨ga+1+1,1,none⟩ (.pointer r2)).heap[ga+1]?=some (.cells #[.pointer l1,.pointer l2] 87):=by
  rw[Below.heap_setCell _ _ _ _ (by show ga+1 ≠ ga+1+1;omega),Below.heap_setCell _ _ _ _ (by show ga+1 ≠ ga+1+1;omega)];exact heap_setCell_same _ (ga+1) 1 _ 87 _ (heap_setCell_same w2 (ga+1) 0 _ 87 (.pointer l1) m1)
 have e2:((((w2.setCell ⟨ga+1,0,none⟩ (.pointer l1)).setCell ⟨ga+1,1,none⟩ (.pointer l2)).setCell ⟨ga+1+1,0,none⟩ (.pointer r1)).setCell ⟨ga+1+1,1,none⟩ (.pointer r2)).heap[ga+1+1]?=some (.cells #[.pointer r1,.pointer r2] 87):=by
  refine heap_setCell_same _ (ga+1+1) 1 _ 87 _ (heap_setCell_same _ (ga+1+1) 0 #[.pointer none,.pointer none] 87 (.pointer r1) ?_);rw[Below.heap_setCell _ _ _ _ (by show ga+1+1 ≠ ga+1;omega),Below.heap_setCell _ _ _ _ (by show ga+1+1 ≠ ga+1;omega)];exact m2
 generalize (((w2.setCell ⟨ga+1,0,none⟩ (.pointer l1)).setCell ⟨ga+1,1,none⟩ (.pointer l2)).setCell ⟨ga+1+1,0,none⟩ (.pointer r1)).setCell ⟨ga+1+1,1,none⟩ (.pointer r2)=w5 at hb3 e1 e2⊢;have q1:=ZC e1 0;have q2:=ZC e1 1;have q3:=ZC e2 0;have q4:=ZC e2 1;refine bodyPost_ret (v:=.tuple #[.agg #[.pointer l1,.pointer l2],.agg #[.pointer r1,.pointer r2]]) ?_ rfl ⟨rfl,?_⟩
 ·simp[results,Tryz.results225,go_sem,q1,q2,q3,q4]
 ·rw[hga];exact hb3
theorem tw_same5 (b1 b2:Nat)(l1 r1 l2 r2:Value)(E:ByteArray)(ca cb:Nat)(i:Int)(w:World)(t1:QB b1 l1 r1 E w)(t2:QB b2 l2 r2 E w)(hab:AB ca cb ⟨#[]⟩ ⟨#[]⟩ w) : Calls prog 103 #[.agg #[.pointer (some ⟨b1,0,none⟩),.pointer (some ⟨b2,0,none⟩)],.int .i64 i,.pointer (some ⟨ca,0,none⟩),.pointer (some ⟨cb,0,none⟩)] w λe w'=>e=.returned (.bool true)/\Below w.heap.size w w':=by
 have hm1 : ∀ w' : World, (method 427 84 (.pointer (some ⟨b1, 0, none⟩)) "loop.example/s03048/impl.encoding").run prog w' = .ok (220, .pointer (some ⟨b1, 0, none⟩)) w' := fun _ => by kernel_rfl
 have hm2 : ∀ w' : World, (method 427 84 (.pointer (some ⟨b2, 0, none⟩)) "loop.example/s03048/impl.encoding").run prog w' = .ok (220, .pointer (some ⟨b2, 0, none⟩)) w' := fun _ => by kernel_rfl
 have H1:Hid (∀w',Below w.heap.size w w'->Calls prog 220 #[.pointer (some ⟨b1,0,none⟩)] w' λe w''=>e=.returned (.string E)/\w''=w'):=λw' h=>qco b1 l1 r1 _ w' (t1.below h);have H2:Hid (∀w',Below w.heap.size w w'->Calls prog 220 #[.pointer (some ⟨b2,0,none⟩)] w' λe w''=>e=.returned (.string E)/\w''=w'):=λw' h=>qco b2 l2 r2 _ w' (t2.below h);have hbA:=bA w (.cells #[.pointer (some ⟨b1,0,none⟩),.pointer (some ⟨b2,0,none⟩)] 87);have nA:=heap_alloc_new w (.cells #[.pointer (some ⟨b1,0,none⟩),.pointer (some ⟨b2,0,none⟩)] 87);have hca:=ZC (hab.below hbA).ha 0;obtain⟨ga,hga⟩:=eX (w.heap.size);rw[hga] at nA;clear t1 t2 hab;go_enter func103,ntmps103;go_upto_region 1 with fail
 try rw[hga]
 have k0:=ZC nA 0;have k1:=ZC nA 1;generalize w.alloc (.cells #[.pointer (some ⟨b1,0,none⟩),.pointer (some ⟨b2,0,none⟩)] 87)=wa at hbA nA hca k0 k1⊢;go_region_held3 (λW=>W.cell? ⟨ga,0,none⟩=some (.pointer (some ⟨b1,0,none⟩))/\W.cell? ⟨ga,1,none⟩=some (.pointer (some ⟨b2,0,none⟩))) (first|exact⟨k0,k1⟩) (first|(go_at_call_of 220 (Value.pointer (some ⟨b1,0,none⟩));refine(H1.out _ hbA.drew).mono ?_;rintro e w1 ⟨rfl,rfl⟩)|(go_at_call_of 220 (Value.pointer (some ⟨b2,0,none⟩));refine(H2.out _ hbA.drew).mono ?_;rintro e w1 ⟨rfl,rfl⟩));go_wp2_with fail;go_ret;exact⟨rfl,hbA.drew⟩
theorem tw_diff5 (b1 b2:Nat)(l1 r1 l2 r2:Value)(E F sa sb:ByteArray)(hEF:E ≠ F)(hE:E.size<=1048576)(hF:F.size<=1048576)(ca cb:Nat)(i:Int)(w:World)(t1:QB b1 l1 r1 E w)(t2:QB b2 l2 r2 F w)(hab:AB ca cb sa sb w) : Calls prog 103 #[.agg #[.pointer (some ⟨b1,0,none⟩),.pointer (some ⟨b2,0,none⟩)],.int .i64 i,.pointer (some ⟨ca,0,none⟩),.pointer (some ⟨cb,0,none⟩)] w λe w'=>e=.returned (.bool false)/\AB ca cb (txt E) (txt F) w'/\Upd (λk=>k=ca\/k=cb) w w':=by
 have hm1 : ∀ w' : World, (method 427 84 (.pointer (some ⟨b1, 0, none⟩)) "loop.example/s03048/impl.encoding").run prog w' = .ok (220, .pointer (some ⟨b1, 0, none⟩)) w' := fun _ => by kernel_rfl
 have hm2 : ∀ w' : World, (method 427 84 (.pointer (some ⟨b2, 0, none⟩)) "loop.example/s03048/impl.encoding").run prog w' = .ok (220, .pointer (some ⟨b2, 0, none⟩)) w' := fun _ => by kernel_rfl
 have H1:Hid (∀w',Below w.heap.size w w'->Calls prog 220 #[.pointer (some ⟨b1,0,none⟩)] w' λe w''=>e=.returned (.string E)/\w''=w'):=λw' h=>qco b1 l1 r1 _ w' (t1.below h);have H2:Hid (∀w',Below w.heap.size w w'->Calls prog 220 #[.pointer (some ⟨b2,0,none⟩)] w' λe w''=>e=.returned (.string F)/\w''=w'):=λw' h=>qco b2 l2 r2 _ w' (t2.below h);have HX:Hid (∀w',Calls prog 104 #[.string E] w' λe w''=>e=.returned (.string (txt E))/\w''=w'):=λw'=>qcu E w' hE;have HY:Hid (∀w',Calls prog 104 #[.string F] w' λe w''=>e=.returned (.string (txt F))/\w''=w'):=λw'=>qcu F w' hF;have hne:(E.toList == F.toList)=false:=str_ne hEF;have hte:=txt_ne E;have hbA:=bA w (.cells #[.pointer (some ⟨b1,0,none⟩),.pointer (some ⟨b2,0,none⟩)] 87);have nA:=heap_alloc_new w (.cells #[.pointer (some ⟨b1,0,none⟩),.pointer (some ⟨b2,0,none⟩)] 87);have hA:=(hab.below hbA);have hla:=(zG hab.ha).1;have hlb:=(zG hab.hb).1;obtain⟨ga,hga⟩:=eX (w.heap.size);rw[hga] at nA hla hlb;clear t1 t2 hab hEF;generalize txt E=X at HX hte⊢;generalize txt F=Y at HY⊢;go_enter func103,ntmps103;go_upto_region 1 with fail
 try rw[hga]
 have k0:=ZC nA 0;have k1:=ZC nA 1;generalize w.alloc (.cells #[.pointer (some ⟨b1,0,none⟩),.pointer (some ⟨b2,0,none⟩)] 87)=wa at hbA nA hA k0 k1⊢;go_region_held3 (λW=>W.cell? ⟨ga,0,none⟩=some (.pointer (some ⟨b1,0,none⟩))/\W.cell? ⟨ga,1,none⟩=some (.pointer (some ⟨b2,0,none⟩))) (first|exact⟨k0,k1⟩) (first|(go_at_call_of 220 (Value.pointer (some ⟨b1,0,none⟩));refine(H1.out _ hbA.drew).mono ?_;rintro e w1 ⟨rfl,rfl⟩)|(go_at_call_of 220 (Value.pointer (some ⟨b2,0,none⟩));refine(H2.out _ hbA.drew).mono ?_;rintro e w1 ⟨rfl,rfl⟩));go_upto_region 2 with fail;have hb1:Below w.heap.size w wa.drew:=hbA.drew;have hA1:AB ca cb sa sb wa.drew:=⟨hA.ha,hA.hb,hA.ne⟩;have nA1:wa.drew.heap[ga]?=some (.cells #[.pointer (some ⟨b1,0,none⟩),.pointer (some ⟨b2,0,none⟩)] 87):=nA;clear hbA hA nA k0 k1;generalize wa.drew=wb at hb1 hA1 nA1⊢;have k0:=ZC nA1 0;have k1:=ZC nA1 1;have ka:=ZC hA1.ha 0;have kb:=ZC hA1.hb 0;have fa:wb.frozen? ⟨ca,0,none⟩=false:=by rw[World.frozen?,hA1.ha];rfl
 have fb:wb.frozen? ⟨cb,0,none⟩=false:=by rw[World.frozen?,hA1.hb];rfl
 have hcc:=hA1.ne;have hs1:Hid (∀va,(wb.setCell ⟨ca,0,none⟩ va).cell? ⟨ga,0,none⟩=some (.pointer (some ⟨b1,0,none⟩))/\(wb.setCell ⟨ca,0,none⟩ va).cell? ⟨ga,1,none⟩=some (.pointer (some ⟨b2,0,none⟩))):=λva=>⟨(qaK wb ca 0 ga 0 va (by omega)).trans k0,(qaK wb ca 0 ga 1 va (by omega)).trans k1⟩;have hs2:Hid (∀va vb,((wb.setCell ⟨ca,0,none⟩ va).setCell ⟨cb,0,none⟩ vb).cell? ⟨ga,0,none⟩=some (.pointer (some ⟨b1,0,none⟩))/\((wb.setCell ⟨ca,0,none⟩ va).setCell ⟨cb,0,none⟩ vb).cell? ⟨ga,1,none⟩=some (.pointer (some ⟨b2,0,none⟩))):=λva vb=>⟨(qaK _ cb 0 ga 0 vb (by omega)).trans (hs1.out va).1,(qaK _ cb 0 ga 1 vb (by omega)).trans (hs1.out va).2⟩;go_region_held3 (λW=>W.cell? ⟨ga,0,none⟩=some (.pointer (some ⟨b1,0,none⟩))/\W.cell? ⟨ga,1,none⟩=some (.pointer (some ⟨b2,0,none⟩))) (first|exact⟨k0,k1⟩|exact hs1.out _|exact hs2.out _ _) (first|(go_at_call_of 220 (Value.pointer (some ⟨b1,0,none⟩));refine(H1.out _ hb1.drew).mono ?_;rintro e w1 ⟨rfl,rfl⟩)|(go_at_call_of 220 (Value.pointer (some ⟨b2,0,none⟩));refine(H2.out _ hb1.drew).mono ?_;rintro e w1 ⟨rfl,rfl⟩)|(go_at_call_of 104 (Value.string E);refine(HX.out _).mono ?_;rintro e w1 ⟨rfl,rfl⟩)|(go_at_call_of 104 (Value.string F);refine(HY.out _).mono ?_;rintro e w1 ⟨rfl,rfl⟩));have hU:Upd (λk=>k=ca\/k=cb) w ((wb.setCell ⟨ca,0,none⟩ (.string X)).setCell ⟨cb,0,none⟩ (.string Y)).drew:=(((Upd.of_below hb1).setCell ca 0 _ (.inl rfl)).setCell cb 0 _ (.inr rfl)).drew;have hF:AB ca cb X Y ((wb.setCell ⟨ca,0,none⟩ (.string X)).setCell ⟨cb,0,none⟩ (.string Y)).drew:=by
  refine⟨?_,?_,hcc⟩
  ·show ((wb.setCell ⟨ca,0,none⟩ (.string X)).setCell ⟨cb,0,none⟩ (.string Y)).heap[ca]?=_;rw[Below.heap_setCell _ _ _ _ (by exact hcc)];exact heap_setCell_same wb ca 0 _ 9 _ hA1.ha
  ·show ((wb.setCell ⟨ca,0,none⟩ (.string X)).setCell ⟨cb,0,none⟩ (.string Y)).heap[cb]?=_;refine heap_setCell_same _ cb 0 #[.string sb] 9 _ ?_;rw[Below.heap_setCell _ _ _ _ (by exact hcc.symm)];exact hA1.hb
 clear hs1 hs2 k0 k1 ka kb fa fb nA1 hA1 hb1;generalize ((wb.setCell ⟨ca,0,none⟩ (.string X)).setCell ⟨cb,0,none⟩ (.string Y)).drew=w5 at hU hF⊢;have qa:=ZC hF.ha 0;go_wp2_with fail;go_ret;exact⟨rfl,hF,hU⟩
end Go.Proofs.YtibjhkpgaaapaaaGreatDoor
