import Derived.Test.YtibjhkpgaaapaaaGreatDoorZiba
import Derived.Test.YtibjhkpgaaapaaaGreatDoorZiak
import Derived.Test.YtibjhkpgaaapaaaGreatDoorZiay
import Derived.Test.YtibjhkpgaaapaaaGreatDoorZiao
import Derived.Test.YtibjhkpgaaapaaaGreatDoorZiag
import Derived.Test.YtibjhkpgaaapaaaGreatDoorZiaa
set_option maxRecDepth 100000
set_option maxHeartbeats 4000000
namespace Go.Proofs.YtibjhkpgaaapaaaGreatDoor
open Go.RowKit Go.Proofs.Sha Tryz
def encF (wd:Nat) (k v:ByteArray) (l r:PT):ByteArray:=encS k v (hashP wd l) (hashP wd r) wd
def twinP (wd:Nat):PT->PT->Option (ByteArray × ByteArray)
 | .f k v l r,.f k2 v2 l2 r2=>if encF wd k v l r ≠ encF wd k2 v2 l2 r2 then some (encF wd k v l r,encF wd k2 v2 l2 r2) else match twinP wd l l2 with|some q=>some q|none=>twinP wd r r2
 | _,_=>none
theorem twinP_no (wd:Nat)(s t:PT)(h:(isF s && isF t)=false):twinP wd s t=none:=by
 cases s <;> cases t <;> first|rfl|cases h
theorem encF_size (wd:Nat)(k v:ByteArray)(l r:PT):(encF wd k v l r).size<=1048576:=by
 have:=(qba k v (hashP wd l) (hashP wd r) wd).1;unfold encF;omega
def WBp (m ca cb:Nat) (s t:PT) (w:World) (e:Ending) (w':World):Prop:=e=.returned (.bool (twinP m s t).isNone)/\AB ca cb (resT (twinP m s t)).1 (resT (twinP m s t)).2 w'/\Uc ca cb w w'
def wbArgs5 (ca cb:Nat) (p q:Option Addr):Array Value:=#[.agg #[.pointer p,.pointer q],.func (.func 46) #[] #[],.func (.func 103) #[] #[.pointer (some ⟨ca,0,none⟩),.pointer (some ⟨cb,0,none⟩)]]
theorem qdK (m ca cb n0:Nat)(s t:PT)(p q:Option Addr)(w:World)(hs:PB m n0 s p w)(ht:PB m n0 t q w)(hab:AB ca cb ⟨#[]⟩ ⟨#[]⟩ w)(he:(isF s && isF t)=false):Calls prog 102 (wbArgs5 ca cb p q) w (WBp m ca cb s t w):=by
 have hbA:=bA w (.cells #[.pointer p,.pointer q] 87);have HD:=qcF m n0 s t p q _ (hs.below hbA) (ht.below hbA);rw[he] at HD;have hAB:Hid (AB ca cb ⟨#[]⟩ ⟨#[]⟩ w):=hab;unfold WBp;rw[twinP_no m s t he];unfold wbArgs5;clear hs ht hab he;go_enter func102,ntmps102;go_wp2_with (go_at_call 46;refine HD.mono ?_;rintro e w1 ⟨rfl,hb1⟩);go_ret;have hb2:Below w.heap.size w w1:=hbA.trans (hb1.mono hbA.size);exact⟨rfl,hAB.out.below hb2,Upd.of_below hb2⟩
theorem wb_enc5 (m ca cb n0:Nat)(k v k2 v2:ByteArray)(l r l2 r2:PT)(p q:Option Addr)(w:World)(hs:PB m n0 (.f k v l r) p w)(ht:PB m n0 (.f k2 v2 l2 r2) q w)(hab:AB ca cb ⟨#[]⟩ ⟨#[]⟩ w)(hne:encF m k v l r ≠ encF m k2 v2 l2 r2):Calls prog 102 (wbArgs5 ca cb p q) w (WBp m ca cb (.f k v l r) (.f k2 v2 l2 r2) w):=by
 have hbA:=bA w (.cells #[.pointer p,.pointer q] 87);have HD:=qcF m n0 _ _ p q _ (hs.below hbA) (ht.below hbA);rw[show (isF (.f k v l r) && isF (.f k2 v2 l2 r2))=true from rfl] at HD;obtain⟨b1,lv1,rv1,rfl,_,t1',_,_⟩:=hs;obtain⟨b2,lv2,rv2,rfl,_,t2',_,_⟩:=ht;have t1:QB b1 lv1 rv1 (encF m k v l r) w:=⟨_,_,t1'⟩;have t2:QB b2 lv2 rv2 (encF m k2 v2 l2 r2) w:=⟨_,_,t2'⟩;have HX:Hid (∀w',Below w.heap.size w w'->Calls prog 103 #[.agg #[.pointer (some ⟨b1,0,none⟩),.pointer (some ⟨b2,0,none⟩)],.int .i64 0,.pointer (some ⟨ca,0,none⟩),.pointer (some ⟨cb,0,none⟩)] w' λe w''=>e=.returned (.bool false)/\AB ca cb (txt (encF m k v l r)) (txt (encF m k2 v2 l2 r2)) w''/\Uc ca cb w' w''):=λw' hb=>tw_diff5 b1 b2 lv1 rv1 lv2 rv2 _ _ _ _ hne (encF_size _ _ _ _ _) (encF_size _ _ _ _ _) ca cb 0 w' (t1.below hb) (t2.below hb) (hab.below hb);have htw:twinP m (.f k v l r) (.f k2 v2 l2 r2)=some (encF m k v l r,encF m k2 v2 l2 r2):=by rw[twinP,if_pos hne]
 unfold WBp;rw[htw];unfold wbArgs5;simp only[resT,Option.isNone_some];have nA:=heap_alloc_new w (.cells #[.pointer (some ⟨b1,0,none⟩),.pointer (some ⟨b2,0,none⟩)] 87);obtain⟨ga,hga⟩:=eX (w.heap.size);rw[hga] at nA;have hlt:ga<(w.alloc (.cells #[.pointer (some ⟨b1,0,none⟩),.pointer (some ⟨b2,0,none⟩)] 87)).heap.size:=by simp;omega
 clear htw hab hne t1 t2 t1' t2';generalize encF m k v l r=E1 at HX⊢;generalize encF m k2 v2 l2 r2=E2 at HX⊢;go_enter func102,ntmps102
 try rw[hga]
 go_wp2_with (first|(go_at_call 46;refine HD.mono ?_;rintro e w1 ⟨rfl,hb1⟩;have n1:=(hb1.block ga hlt).trans nA;have k0:=ZC n1 0;have k1:=ZC n1 1;have hb2:Below w.heap.size w w1:=hbA.trans (hb1.mono hbA.size))|(go_at_call 103;refine(HX.out _ hb2).mono ?_;rintro e w3 ⟨rfl,hA3,hu3⟩));go_ret;exact⟨rfl,hA3,(Upd.of_below hb2).trans hu3⟩
theorem wb_go5 (m ca cb n0:Nat)(k v k2 v2:ByteArray)(l r l2 r2:PT)(p q:Option Addr)(w:World)(hs:PB m n0 (.f k v l r) p w)(ht:PB m n0 (.f k2 v2 l2 r2) q w)(hab:AB ca cb ⟨#[]⟩ ⟨#[]⟩ w)(heq:encF m k v l r=encF m k2 v2 l2 r2)(ihl:∀ (p q:Option Addr) (w:World),PB m n0 l p w->PB m n0 l2 q w->AB ca cb ⟨#[]⟩ ⟨#[]⟩ w->Calls prog 102 (wbArgs5 ca cb p q) w (WBp m ca cb l l2 w))(ihr:∀ (p q:Option Addr) (w:World),PB m n0 r p w->PB m n0 r2 q w->AB ca cb ⟨#[]⟩ ⟨#[]⟩ w->Calls prog 102 (wbArgs5 ca cb p q) w (WBp m ca cb r r2 w)) : Calls prog 102 (wbArgs5 ca cb p q) w (WBp m ca cb (.f k v l r) (.f k2 v2 l2 r2) w):=by
 have hbA:=bA w (.cells #[.pointer p,.pointer q] 87);have HD:=qcF m n0 _ _ p q _ (hs.below hbA) (ht.below hbA);rw[show (isF (.f k v l r) && isF (.f k2 v2 l2 r2))=true from rfl] at HD;obtain⟨b1,lv1,rv1,rfl,_,t1',cl1,cr1⟩:=hs;obtain⟨b2,lv2,rv2,rfl,_,t2',cl2,cr2⟩:=ht;have t1:QB b1 lv1 rv1 (encF m k v l r) w:=⟨_,_,t1'⟩;have t2:QB b2 lv2 rv2 (encF m k2 v2 l2 r2) w:=⟨_,_,t2'⟩;rw[heq] at t1;obtain⟨pl1,hpl1⟩:∃x,ptrV lv1=x:=⟨_,rfl⟩;obtain⟨pl2,hpl2⟩:∃x,ptrV lv2=x:=⟨_,rfl⟩;obtain⟨pr1,hpr1⟩:∃x,ptrV rv1=x:=⟨_,rfl⟩;obtain⟨pr2,hpr2⟩:∃x,ptrV rv2=x:=⟨_,rfl⟩;have HX:Hid (∀i w',Uc ca cb w w'->AB ca cb ⟨#[]⟩ ⟨#[]⟩ w'->Calls prog 103 #[.agg #[.pointer (some ⟨b1,0,none⟩),.pointer (some ⟨b2,0,none⟩)],.int .i64 i,.pointer (some ⟨ca,0,none⟩),.pointer (some ⟨cb,0,none⟩)] w' λe w''=>e=.returned (.bool true)/\Below w'.heap.size w' w''):=λi w' hu ha=>tw_same5 b1 b2 lv1 rv1 lv2 rv2 _ ca cb i w' (t1.upd hab hu) (t2.upd hab hu) ha;have HS:Hid (∀w',Below w.heap.size w w'->Calls prog 225 #[.agg #[.pointer (some ⟨b1,0,none⟩),.pointer (some ⟨b2,0,none⟩)]] w' λe w''=>e=.returned (.tuple #[.agg #[.pointer pl1,.pointer pl2],.agg #[.pointer pr1,.pointer pr2]])/\Below w'.heap.size w' w''):=λw' hb=>bsubs5_any b1 b2 m n0 l r l2 r2 lv1 rv1 lv2 rv2 _ _ w' (t1.below hb) (t2.below hb) (cl1.below hb) (cr1.below hb) (cl2.below hb) (cr2.below hb) pl1 pr1 pl2 pr2 hpl1 hpr1 hpl2 hpr2;have HL:Hid (∀w',Uc ca cb w w'->AB ca cb ⟨#[]⟩ ⟨#[]⟩ w'->Calls prog 102 (wbArgs5 ca cb pl1 pl2) w' (WBp m ca cb l l2 w')):=λw' hu ha=>ihl pl1 pl2 w' (by rw[<-hpl1];exact(cl1.upd hab hu).pb) (by rw[<-hpl2];exact(cl2.upd hab hu).pb) ha;have HR:Hid (∀w',Uc ca cb w w'->AB ca cb ⟨#[]⟩ ⟨#[]⟩ w'->Calls prog 102 (wbArgs5 ca cb pr1 pr2) w' (WBp m ca cb r r2 w')):=λw' hu ha=>ihr pr1 pr2 w' (by rw[<-hpr1];exact(cr1.upd hab hu).pb) (by rw[<-hpr2];exact(cr2.upd hab hu).pb) ha;have htw:twinP m (.f k v l r) (.f k2 v2 l2 r2)=match twinP m l l2 with|some q=>some q|none=>twinP m r r2:=by
  rw[twinP,if_neg (by simp[heq])]
 unfold WBp at HL HR⊢;rw[htw];unfold wbArgs5 at HL HR⊢;have hm : ∀ w' : World, (method 427 87 (.agg #[.pointer (some ⟨b1, 0, none⟩), .pointer (some ⟨b2, 0, none⟩)]) "loop.example/s03048/impl.subtrees").run prog w' = .ok (225, .agg #[.pointer (some ⟨b1, 0, none⟩), .pointer (some ⟨b2, 0, none⟩)]) w' := fun _ => by kernel_rfl
 have nA:=heap_alloc_new w (.cells #[.pointer (some ⟨b1,0,none⟩),.pointer (some ⟨b2,0,none⟩)] 87);obtain⟨ga,hga⟩:=eX (w.heap.size);rw[hga] at nA;have hlt:ga<(w.alloc (.cells #[.pointer (some ⟨b1,0,none⟩),.pointer (some ⟨b2,0,none⟩)] 87)).heap.size:=by simp;omega
 have hla:=(zG hab.ha).1;have hlb:=(zG hab.hb).1;rw[hga] at hla hlb;clear htw heq cl1 cr1 cl2 cr2 t1 t2 t1' t2' ihl ihr hpl1 hpl2 hpr1 hpr2;generalize twinP m l l2=r1 at HL⊢;generalize twinP m r r2=r2' at HR⊢;have hAB:Hid (AB ca cb ⟨#[]⟩ ⟨#[]⟩ w):=hab;clear hab;cases r1 with
 | some q1 =>
  simp only[Option.isNone_some] at HL⊢;go_enter func102,ntmps102;go_upto_region 6 with (first|(go_at_call 46;refine HD.mono ?_;rintro e w1 ⟨rfl,hb1⟩;have n1:=(hb1.block ga hlt).trans nA;have k0:=ZC n1 0;have k1:=ZC n1 1;have hb2:Below w.heap.size w w1:=hbA.trans (hb1.mono hbA.size))|(go_at_call 103;refine(HX.out _ _ (Upd.of_below hb2) (hAB.out.below hb2)).mono ?_;rintro e w2 ⟨rfl,hb3'⟩;have n2:=(hb3'.block ga (zG n1).1).trans n1;have j0:=ZC n2 0;have j1:=ZC n2 1;have hb3:Below w.heap.size w w2:=hb2.trans (hb3'.mono hb2.size))|(go_at_call 225;refine(HS.out _ hb3).mono ?_;rintro e w3 ⟨rfl,hb4'⟩;have n3:=(hb4'.block ga (zG n2).1).trans n2;have hb4:Below w.heap.size w w3:=hb3.trans (hb4'.mono hb3.size)));have hb5:Below w.heap.size w ((w3.alloc (.cells #[.pointer pl1,.pointer pl2] 87)).alloc (.cells #[.pointer pr1,.pointer pr2] 87)):=(hb4.alloc hb4.size _).alloc (by simp;have:=hb4.size;omega) _;have hga3:=(zG n3).1;have m0:((w3.alloc (.cells #[.pointer pl1,.pointer pl2] 87)).alloc (.cells #[.pointer pr1,.pointer pr2] 87)).heap[ga]?=some (.cells #[.pointer (some ⟨b1,0,none⟩),.pointer (some ⟨b2,0,none⟩)] 87):=by
   rw[Below.heap_alloc _ _ _ (by simp;omega),Below.heap_alloc _ _ _ hga3];exact n3
  have m7:((w3.alloc (.cells #[.pointer pl1,.pointer pl2] 87)).alloc (.cells #[.pointer pr1,.pointer pr2] 87)).heap[w3.heap.size]?=some (.cells #[.pointer pl1,.pointer pl2] 87):=by
   rw[Below.heap_alloc _ _ _ (by simp)];exact heap_alloc_new w3 _
  have m8:((w3.alloc (.cells #[.pointer pl1,.pointer pl2] 87)).alloc (.cells #[.pointer pr1,.pointer pr2] 87)).heap[w3.heap.size+1]?=some (.cells #[.pointer pr1,.pointer pr2] 87):=by
   have:=heap_alloc_new (w3.alloc (.cells #[.pointer pl1,.pointer pl2] 87)) (.cells #[.pointer pr1,.pointer pr2] 87)
   simpa using this
  have hsz4:w.heap.size<=w3.heap.size:=hb4.size;generalize (w3.alloc (.cells #[.pointer pl1,.pointer pl2] 87)).alloc (.cells #[.pointer pr1,.pointer pr2] 87)=w4 at hb5 m0 m7 m8⊢;obtain⟨g7,hg7⟩:=eX (w3.heap.size);rw[hg7] at m7 m8 hsz4 hga3⊢;have q0:=ZC m7 0;have q1':=ZC m7 1;have hA4:=hAB.out.below hb5;clear n1 n2 n3 k0 k1 j0 j1 hb1 hb2 hb3 hb3' hb4 hb4' hg7;go_wp2_with (first|(go_at_call 102;refine(HL.out _ (Upd.of_below hb5) hA4).mono ?_;rintro e w5 ⟨rfl,hA5,hu5⟩));go_ret;exact⟨rfl,hA5,(Upd.of_below hb5).trans hu5⟩
 | none =>
  simp only[Option.isNone_none] at HL;have HL':Hid (∀w',Uc ca cb w w'->AB ca cb ⟨#[]⟩ ⟨#[]⟩ w'->Calls prog 102 #[.agg #[.pointer pl1,.pointer pl2],.func (.func 46) #[] #[],.func (.func 103) #[] #[.pointer (some ⟨ca,0,none⟩),.pointer (some ⟨cb,0,none⟩)]] w' λe w''=>e=.returned (.bool true)/\AB ca cb ⟨#[]⟩ ⟨#[]⟩ w''/\Uc ca cb w' w''):=HL.out;clear HL;cases r2' with
  | some q2 =>
   simp only[Option.isNone_some] at HR⊢;go_enter func102,ntmps102;go_upto_region 6 with (first|(go_at_call 46;refine HD.mono ?_;rintro e w1 ⟨rfl,hb1⟩;have n1:=(hb1.block ga hlt).trans nA;have k0:=ZC n1 0;have k1:=ZC n1 1;have hb2:Below w.heap.size w w1:=hbA.trans (hb1.mono hbA.size))|(go_at_call 103;refine(HX.out _ _ (Upd.of_below hb2) (hAB.out.below hb2)).mono ?_;rintro e w2 ⟨rfl,hb3'⟩;have n2:=(hb3'.block ga (zG n1).1).trans n1;have j0:=ZC n2 0;have j1:=ZC n2 1;have hb3:Below w.heap.size w w2:=hb2.trans (hb3'.mono hb2.size))|(go_at_call 225;refine(HS.out _ hb3).mono ?_;rintro e w3 ⟨rfl,hb4'⟩;have n3:=(hb4'.block ga (zG n2).1).trans n2;have hb4:Below w.heap.size w w3:=hb3.trans (hb4'.mono hb3.size)));have hb5:Below w.heap.size w ((w3.alloc (.cells #[.pointer pl1,.pointer pl2] 87)).alloc (.cells #[.pointer pr1,.pointer pr2] 87)):=(hb4.alloc hb4.size _).alloc (by simp;have:=hb4.size;omega) _;have hga3:=(zG n3).1;have m0:((w3.alloc (.cells #[.pointer pl1,.pointer pl2] 87)).alloc (.cells #[.pointer pr1,.pointer pr2] 87)).heap[ga]?=some (.cells #[.pointer (some ⟨b1,0,none⟩),.pointer (some ⟨b2,0,none⟩)] 87):=by
    rw[Below.heap_alloc _ _ _ (by simp;omega),Below.heap_alloc _ _ _ hga3];exact n3
   have m7:((w3.alloc (.cells #[.pointer pl1,.pointer pl2] 87)).alloc (.cells #[.pointer pr1,.pointer pr2] 87)).heap[w3.heap.size]?=some (.cells #[.pointer pl1,.pointer pl2] 87):=by
    rw[Below.heap_alloc _ _ _ (by simp)];exact heap_alloc_new w3 _
   have m8:((w3.alloc (.cells #[.pointer pl1,.pointer pl2] 87)).alloc (.cells #[.pointer pr1,.pointer pr2] 87)).heap[w3.heap.size+1]?=some (.cells #[.pointer pr1,.pointer pr2] 87):=by
    have:=heap_alloc_new (w3.alloc (.cells #[.pointer pl1,.pointer pl2] 87)) (.cells #[.pointer pr1,.pointer pr2] 87)
    simpa using this
   have hsz4:w.heap.size<=w3.heap.size:=hb4.size;generalize (w3.alloc (.cells #[.pointer pl1,.pointer pl2] 87)).alloc (.cells #[.pointer pr1,.pointer pr2] 87)=w4 at hb5 m0 m7 m8⊢;obtain⟨g7,hg7⟩:=eX (w3.heap.size);rw[hg7] at m7 m8 hsz4 hga3⊢;have q0:=ZC m7 0;have q1':=ZC m7 1;have hA4:=hAB.out.below hb5;clear n1 n2 n3 k0 k1 j0 j1 hb1 hb2 hb3 hb3' hb4 hb4' hg7;go_wp2_with (first|(go_at_call_of 102 (Value.agg #[.pointer pl1,.pointer pl2]);refine(HL'.out _ (Upd.of_below hb5) hA4).mono ?_;rintro e w5 ⟨rfl,hA5,hu5⟩;have hu5w:Uc ca cb w w5:=(Upd.of_below hb5).trans hu5;have x0:=(hu5.block ga (zG m0).1 (λq=>by omega)).trans m0;have x8:=(hu5.block (g7+1) (zG m8).1 (λq=>by omega)).trans m8;have i0:=ZC x0 0;have i1:=ZC x0 1)|(go_at_call_of 103 (Value.int .i64 1);refine(HX.out _ _ hu5w hA5).mono ?_;rintro e w6 ⟨rfl,hb6⟩;have hA6:=hA5.below hb6;have hu6w:Uc ca cb w w6:=hu5w.trans (Upd.of_below hb6);have y8:=(hb6.block (g7+1) (zG x8).1).trans x8;have y0:=(hb6.block ga (zG x0).1).trans x0;have o0:=ZC y8 0;have o1:=ZC y8 1)|(go_at_call_of 102 (Value.agg #[.pointer pr1,.pointer pr2]);refine(HR.out _ hu6w hA6).mono ?_;rintro e w7 ⟨rfl,hA7,hu7⟩;have hu7w:Uc ca cb w w7:=hu6w.trans hu7;have u0:=(hu7.block ga (zG y0).1 (λq=>by omega)).trans y0;have v0:=ZC u0 0;have v1:=ZC u0 1));go_ret;exact⟨rfl,hA7,hu7w⟩
  | none =>
   simp only[Option.isNone_none] at HR⊢;go_enter func102,ntmps102;go_upto_region 6 with (first|(go_at_call 46;refine HD.mono ?_;rintro e w1 ⟨rfl,hb1⟩;have n1:=(hb1.block ga hlt).trans nA;have k0:=ZC n1 0;have k1:=ZC n1 1;have hb2:Below w.heap.size w w1:=hbA.trans (hb1.mono hbA.size))|(go_at_call 103;refine(HX.out _ _ (Upd.of_below hb2) (hAB.out.below hb2)).mono ?_;rintro e w2 ⟨rfl,hb3'⟩;have n2:=(hb3'.block ga (zG n1).1).trans n1;have j0:=ZC n2 0;have j1:=ZC n2 1;have hb3:Below w.heap.size w w2:=hb2.trans (hb3'.mono hb2.size))|(go_at_call 225;refine(HS.out _ hb3).mono ?_;rintro e w3 ⟨rfl,hb4'⟩;have n3:=(hb4'.block ga (zG n2).1).trans n2;have hb4:Below w.heap.size w w3:=hb3.trans (hb4'.mono hb3.size)));have hb5:Below w.heap.size w ((w3.alloc (.cells #[.pointer pl1,.pointer pl2] 87)).alloc (.cells #[.pointer pr1,.pointer pr2] 87)):=(hb4.alloc hb4.size _).alloc (by simp;have:=hb4.size;omega) _;have hga3:=(zG n3).1;have m0:((w3.alloc (.cells #[.pointer pl1,.pointer pl2] 87)).alloc (.cells #[.pointer pr1,.pointer pr2] 87)).heap[ga]?=some (.cells #[.pointer (some ⟨b1,0,none⟩),.pointer (some ⟨b2,0,none⟩)] 87):=by
    rw[Below.heap_alloc _ _ _ (by simp;omega),Below.heap_alloc _ _ _ hga3];exact n3
   have m7:((w3.alloc (.cells #[.pointer pl1,.pointer pl2] 87)).alloc (.cells #[.pointer pr1,.pointer pr2] 87)).heap[w3.heap.size]?=some (.cells #[.pointer pl1,.pointer pl2] 87):=by
    rw[Below.heap_alloc _ _ _ (by simp)];exact heap_alloc_new w3 _
   have m8:((w3.alloc (.cells #[.pointer pl1,.pointer pl2] 87)).alloc (.cells #[.pointer pr1,.pointer pr2] 87)).heap[w3.heap.size+1]?=some (.cells #[.pointer pr1,.pointer pr2] 87):=by
    have:=heap_alloc_new (w3.alloc (.cells #[.pointer pl1,.pointer pl2] 87)) (.cells #[.pointer pr1,.pointer pr2] 87)
    simpa using this
   have hsz4:w.heap.size<=w3.heap.size:=hb4.size;generalize (w3.alloc (.cells #[.pointer pl1,.pointer pl2] 87)).alloc (.cells #[.pointer pr1,.pointer pr2] 87)=w4 at hb5 m0 m7 m8⊢;obtain⟨g7,hg7⟩:=eX (w3.heap.size);rw[hg7] at m7 m8 hsz4 hga3⊢;have q0:=ZC m7 0;have q1':=ZC m7 1;have hA4:=hAB.out.below hb5;clear n1 n2 n3 k0 k1 j0 j1 hb1 hb2 hb3 hb3' hb4 hb4' hg7;go_wp2_with (first|(go_at_call_of 102 (Value.agg #[.pointer pl1,.pointer pl2]);refine(HL'.out _ (Upd.of_below hb5) hA4).mono ?_;rintro e w5 ⟨rfl,hA5,hu5⟩;have hu5w:Uc ca cb w w5:=(Upd.of_below hb5).trans hu5;have x0:=(hu5.block ga (zG m0).1 (λq=>by omega)).trans m0;have x8:=(hu5.block (g7+1) (zG m8).1 (λq=>by omega)).trans m8;have i0:=ZC x0 0;have i1:=ZC x0 1)|(go_at_call_of 103 (Value.int .i64 1);refine(HX.out _ _ hu5w hA5).mono ?_;rintro e w6 ⟨rfl,hb6⟩;have hA6:=hA5.below hb6;have hu6w:Uc ca cb w w6:=hu5w.trans (Upd.of_below hb6);have y8:=(hb6.block (g7+1) (zG x8).1).trans x8;have y0:=(hb6.block ga (zG x0).1).trans x0;have o0:=ZC y8 0;have o1:=ZC y8 1)|(go_at_call_of 102 (Value.agg #[.pointer pr1,.pointer pr2]);refine(HR.out _ hu6w hA6).mono ?_;rintro e w7 ⟨rfl,hA7,hu7⟩;have hu7w:Uc ca cb w w7:=hu6w.trans hu7;have u0:=(hu7.block ga (zG y0).1 (λq=>by omega)).trans y0;have v0:=ZC u0 0;have v1:=ZC u0 1)|(go_at_call_of 103 (Value.int .i64 2);refine(HX.out _ _ hu7w hA7).mono ?_;rintro e w8 ⟨rfl,hb8⟩));go_ret;exact⟨rfl,hA7.below hb8,hu7w.trans (Upd.of_below hb8)⟩
theorem walk_both5 (m ca cb n0:Nat):∀ (s t:PT) (p q:Option Addr) (w:World),PB m n0 s p w->PB m n0 t q w->AB ca cb ⟨#[]⟩ ⟨#[]⟩ w->Calls prog 102 (wbArgs5 ca cb p q) w (WBp m ca cb s t w):=by
 intro s
 induction s with
 | e=>intro t p q w hs ht hab;exact qdK m ca cb n0 _ _ p q w hs ht hab rfl
 | s h=>intro t p q w hs ht hab;exact qdK m ca cb n0 _ _ p q w hs ht hab rfl
 | f k v l r ihl ihr =>
  intro t p q w hs ht hab;cases t with
  | e=>exact qdK m ca cb n0 _ _ p q w hs ht hab rfl
  | s h=>exact qdK m ca cb n0 _ _ p q w hs ht hab rfl
  | f k2 v2 l2 r2 =>
   by_cases hne:encF m k v l r=encF m k2 v2 l2 r2
   ·exact wb_go5 m ca cb n0 k v k2 v2 l r l2 r2 p q w hs ht hab hne (ihl l2) (ihr r2)
   ·exact wb_enc5 m ca cb n0 k v k2 v2 l r l2 r2 p q w hs ht hab hne
theorem twins5_any (m nz:Nat)(s t:PT)(p q:Option Addr)(w:World)(hs:PB m nz s p w)(ht:PB m nz t q w) : Calls prog 44 #[.agg #[.pointer p,.pointer q],.func (.func 46) #[] #[]] w λe w'=>e=.returned (.tuple #[.string (resT (twinP m s t)).1,.string (resT (twinP m s t)).2,.bool (!(twinP m s t).isNone)])/\Below w.heap.size w w':=by
 obtain⟨W,hW⟩:=eX (((w.alloc (.cells #[.pointer p,.pointer q] 87)).alloc (.cells #[.string ⟨#[]⟩] 9)).alloc (.cells #[.string ⟨#[]⟩] 9));have hbA:Below w.heap.size w W:=by rw[<-hW];exact(((Below.refl _ _).alloc (Nat.le_refl _) _).alloc (by simp) _).alloc (by simp;omega) _
 have n0:W.heap[w.heap.size]?=some (.cells #[.pointer p,.pointer q] 87):=by
  rw[<-hW,Below.heap_alloc _ _ _ (by simp;omega),Below.heap_alloc _ _ _ (by simp)];exact heap_alloc_new w _
 have n1:W.heap[w.heap.size+1]?=some (.cells #[.string ⟨#[]⟩] 9):=by
  have:=heap_alloc_new (w.alloc (.cells #[.pointer p,.pointer q] 87)) (.cells #[.string ⟨#[]⟩] 9);rw[<-hW,Below.heap_alloc _ _ _ (by simp)];simpa using this
 have n2:W.heap[w.heap.size+1+1]?=some (.cells #[.string ⟨#[]⟩] 9):=by
  have:=heap_alloc_new ((w.alloc (.cells #[.pointer p,.pointer q] 87)).alloc (.cells #[.string ⟨#[]⟩] 9)) (.cells #[.string ⟨#[]⟩] 9);rw[<-hW];simpa using this
 have hAB:AB (w.heap.size+1) (w.heap.size+1+1) ⟨#[]⟩ ⟨#[]⟩ W:=⟨n1,n2,by omega⟩;have HW:=walk_both5 m (w.heap.size+1) (w.heap.size+1+1) nz s t p q W (hs.below hbA) (ht.below hbA) hAB;unfold WBp wbArgs5 at HW;have hmf:∀ (fn:Fn) (first cap:Array Value) (w:World),(Instr.makeFunc fn first cap).run prog w=.ok (.func fn first cap) w:=λ_ _ _ _=>rfl;clear hs ht n1 n2 hAB;generalize twinP m s t=R at HW⊢;obtain⟨ga,hga⟩:=eX (w.heap.size);rw[hga] at n0 HW;have k0:=ZC n0 0;have k1:=ZC n0 1;go_enter func44,ntmps44;go_upto_region 3 with (go_at_call 102;refine HW.mono ?_;rintro e w1 ⟨rfl,hA1,hu1⟩;have ka:=ZC hA1.ha 0;have kb:=ZC hA1.hb 0);go_region_held3 (λX=>X.cell? ⟨ga+1,0,none⟩=some (.string (resT R).1)/\X.cell? ⟨ga+1+1,0,none⟩=some (.string (resT R).2)) (exact⟨ka,kb⟩) (fail);have hb1:Below w.heap.size w w1:=hbA.trans (hu1.below (by have:=hbA.size;omega) (λk hk=>by omega));go_wp2_with fail;exact bodyPost_ret (v:=.tuple #[.string (resT R).1,.string (resT R).2,.bool (!R.isNone)]) (by simp[results,Tryz.results44,go_sem]) rfl ⟨rfl,hb1.drew⟩
def exR (n:Int) (lo hi:ByteArray) (R1 R2:Option PT):Option (ByteArray × ByteArray) :=
 match R1,R2 with
 | some s,some t=>if shP lo hi s=shP lo hi t then none else twinP n.toNat s t
 | _,_=>none
def exV (R:Option (ByteArray × ByteArray)):Value:=.tuple #[.string (resT R).1,.string (resT R).2,.bool (!R.isNone)]
theorem iextract_any (n:Int)(root lo hi s1 s2:ByteArray)(w:World)(hs1:s1.size<=1048576)(hs2:s2.size<=1048576)(hr:root.size<=1048576)(hK:KT w) : Calls prog 10 #[.int .i64 n,.string root,.string lo,.string hi,.string s1,.string s2] w λe w'=>e=.returned (exV (exR n lo hi (accP n root lo hi s1) (accP n root lo hi s2)))/\Below w.heap.size w w':=by
 have hbA:=bA w (.cells #[.string lo,.string hi] 75);have nA:=heap_alloc_new w (.cells #[.string lo,.string hi] 75);have HA:=acc_any n root lo hi s1 (w.alloc (.cells #[.string lo,.string hi] 75)) (by omega) hr (hK.below hbA);have HB:=λw' (hb:Below w.heap.size w w')=>acc_any n root lo hi s2 w' (by omega) hr (hK.below hb);have hsm1:=λt=>qck lo hi (n:=n) (root:=root) (s:=s1) (t:=t);have hsm2:=λt=>qck lo hi (n:=n) (root:=root) (s:=s2) (t:=t);have hcn1:=λt=>qcU (n:=n) (root:=root) (lo:=lo) (hi:=hi) (s:=s1) (t:=t);have hcn2:=λt=>qcU (n:=n) (root:=root) (lo:=lo) (hi:=hi) (s:=s2) (t:=t);generalize accP n root lo hi s1=R1 at HA hsm1 hcn1⊢;generalize accP n root lo hi s2=R2 at HB hsm2 hcn2⊢;have c0:=ZC nA 0;have c1:=ZC nA 1;clear hK hs1 hs2 hr;cases R1 with
 | none =>
  have HA2:Calls prog 41 #[.int .i64 n,.string root,.agg #[.string lo,.string hi],.string s1] (w.alloc (.cells #[.string lo,.string hi] 75)) λe w'=>e=.returned (.tuple #[.nilIface,.bool false])/\Below w.heap.size w w':=by
   refine HA.mono ?_;rintro e w' ⟨_,he,hb⟩;exact⟨he rfl,hbA.trans (hb.mono hbA.size)⟩
  have HP:Hid (∀w',Below w.heap.size w w'->Ending.returned (.tuple #[.string ⟨#[]⟩,.string ⟨#[]⟩,.bool false])=.returned (exV (exR n lo hi none R2))/\Below w.heap.size w w'):=λw' hb=>⟨rfl,hb⟩;clear HA HB hsm1 hsm2 hcn1 hcn2 nA;go_enter func10,ntmps10;go_wp2_with (first|(go_at_call 41;refine HA2.mono ?_;rintro e w2 ⟨rfl,hb2⟩));exact bodyPost_ret (v:=.tuple #[.string ⟨#[]⟩,.string ⟨#[]⟩,.bool false]) (by simp[results,Tryz.results10,go_sem]) rfl (HP.out _ hb2)
 | some s =>
  have hct1:=hcn1 s rfl;have hsa:=(hsm1 s rfl).1;have HA2:Calls prog 41 #[.int .i64 n,.string root,.agg #[.string lo,.string hi],.string s1] (w.alloc (.cells #[.string lo,.string hi] 75)) λe w'=>∃T y,e=.returned (.tuple #[.iface T y,.bool true])/\PA n.toNat 0 s (.iface T y) w'/\Below w.heap.size w w'/\w'.heap[w.heap.size]?=some (.cells #[.string lo,.string hi] 75):=by
   refine HA.mono ?_;rintro e w' ⟨hy,_,hb⟩;obtain⟨T,y,he,hp⟩:=hy s rfl;have n2:=qab hb nA;exact⟨T,y,he,hp.mono (Nat.zero_le _),hbA.trans (hb.mono hbA.size),n2⟩
  obtain⟨ga,hga⟩:=eX (w.heap.size);cases R2 with
  | none =>
   have HB2:Hid (∀W,Below w.heap.size w W->W.heap[ga]?=some (.cells #[.string lo,.string hi] 75)->Calls prog 41 #[.int .i64 n,.string root,.agg #[.string lo,.string hi],.string s2] W λe w'=>e=.returned (.tuple #[.nilIface,.bool false])/\Below w.heap.size w w'/\w'.heap[ga]?=some (.cells #[.string lo,.string hi] 75)):=λW hW hn=>by
    refine(HB W hW).mono ?_;rintro e w' ⟨_,he,hb⟩;exact⟨he rfl,hW.trans (hb.mono hW.size),qab hb hn⟩
   have HP:Hid (∀w',Below w.heap.size w w'->Ending.returned (.tuple #[.string ⟨#[]⟩,.string ⟨#[]⟩,.bool false])=.returned (exV (exR n lo hi (some s) none))/\Below w.heap.size w w'):=λw' hb=>⟨rfl,hb⟩;clear HA HB hsm1 hsm2 hcn1 hcn2 nA hct1 hsa;go_enter func10,ntmps10;go_upto_region 3 with (first|(go_at_call_of 41 (Value.string s1);refine HA2.mono ?_;rintro e w2 ⟨tx,yx,rfl,hp2,hb2,n2⟩));rw[hga] at n2
   try rw[hga]
   have d0:=ZC n2 0;have d1:=ZC n2 1;go_upto_region 6 with (first|(go_at_call_of 41 (Value.string s2);refine(HB2.out _ hb2 n2).mono ?_;rintro e w3 ⟨rfl,hb3,n3⟩));clear d0 d1;have d0:=ZC n3 0;have d1:=ZC n3 1;go_quiet (first|fail);go_wp2_with fail;exact bodyPost_ret (v:=.tuple #[.string ⟨#[]⟩,.string ⟨#[]⟩,.bool false]) (by simp[results,Tryz.results10,go_sem]) rfl (HP.out _ (qaa _ hb3))
  | some t =>
   have hct2:=hcn2 t rfl;have hsb:=(hsm2 t rfl).1;have HB2:Hid (∀W,Below w.heap.size w W->Calls prog 41 #[.int .i64 n,.string root,.agg #[.string lo,.string hi],.string s2] W λe w'=>∃T y,e=.returned (.tuple #[.iface T y,.bool true])/\PA n.toNat 0 t (.iface T y) w'/\Below W.heap.size W w'):=λW hW=>by
    refine(HB W hW).mono ?_;rintro e w' ⟨hy,_,hb⟩;obtain⟨T,y,he,hp⟩:=hy t rfl;exact⟨T,y,he,hp.mono (Nat.zero_le _),hb⟩
   have HS1:Hid (∀T y W,PA n.toNat 0 s (.iface T y) W->Calls prog 43 #[.iface T y,.agg #[.string lo,.string hi]] W λe W'=>∃a c,e=.returned (.slice a (shP lo hi s).length c)/\PArg a (shP lo hi s) W'/\Below W.heap.size W W'):=λT y W hp=>by
    refine(qcH n.toNat _ lo hi s _ W hp hct1).mono ?_;rintro e w'' ⟨⟨a,c,he,ho⟩,hb2⟩;exact⟨a,c,he,own_parg ho hsa,hb2⟩
   have HS2:Hid (∀T y W,PA n.toNat 0 t (.iface T y) W->Calls prog 43 #[.iface T y,.agg #[.string lo,.string hi]] W λe W'=>∃a c,e=.returned (.slice a (shP lo hi t).length c)/\PArg a (shP lo hi t) W'/\Below W.heap.size W W'):=λT y W hp=>by
    refine(qcH n.toNat _ lo hi t _ W hp hct2).mono ?_;rintro e w'' ⟨⟨a,c,he,ho⟩,hb2⟩;exact⟨a,c,he,own_parg ho hsb,hb2⟩
   have HT:Hid (∀W p q,PB n.toNat 0 s p W->PB n.toNat 0 t q W->Calls prog 44 #[.agg #[.pointer p,.pointer q],.func (.func 46) #[] #[]] W λe W'=>e=.returned (exV (twinP n.toNat s t))/\Below W.heap.size W W'):=λW p q h1 h2=>twins5_any n.toNat 0 s t p q W h1 h2;have HF1:Hid (∀T y W,PA n.toNat 0 s (.iface T y) W->Calls prog 45 #[.iface T y] W λe W'=>e=.returned (.pointer (ptrV (.iface T y)))/\W=W'):=λT y W hp=>qbH n.toNat 0 s _ W hp;have HF2:Hid (∀T y W,PA n.toNat 0 t (.iface T y) W->Calls prog 45 #[.iface T y] W λe W'=>e=.returned (.pointer (ptrV (.iface T y)))/\W=W'):=λT y W hp=>qbH n.toNat 0 t _ W hp;have hex:Hid (exR n lo hi (some s) (some t)=if shP lo hi s=shP lo hi t then none else twinP n.toNat s t):=rfl;obtain⟨RR,hRR⟩:=eX (exR n lo hi (some s) (some t));rw[hRR] at hex⊢;clear HA HB hsm1 hsm2 hcn1 hcn2 nA hct1 hsa hct2 hsb hRR;generalize shP lo hi s=P at HS1 hex;generalize shP lo hi t=Q at HS2 hex;have HE:Hid (∀a c b d W,PArg a P W->PArg b Q W->Calls prog 42 #[.slice a P.length c,.slice b Q.length d] W λe W'=>e=.returned (.bool (decide (P=Q)))/\Below W.heap.size W W'):=λa c b d W h1 h2=>equal_any a b P Q c d W h1 h2;generalize P.length=LP at HS1 HE;generalize Q.length=LQ at HS2 HE;go_enter func10,ntmps10;go_upto_region 5 with (first|(go_at_call_of 41 (Value.string s1);refine HA2.mono ?_;rintro e w2 ⟨tx,yx,rfl,hp2,hb2,n2⟩));rw[hga] at n2
   try rw[hga]
   have d0:=ZC n2 0;have d1:=ZC n2 1;go_upto_region 6 with (first|(go_at_call_of 41 (Value.string s2);refine(HB2.out _ hb2).mono ?_;rintro e w3 ⟨ty,yy,rfl,hq3,hb3⟩));have hp3:=hp2.below hb3;have n3:=qab hb3 n2;have hw3:=hb2.trans (hb3.mono hb2.size);clear hb3 n2 hb2 hp2 d0 d1 HA2 HB2 c0 c1 hbA;have d0:=ZC n3 0;have d1:=ZC n3 1;have hC:Hid (∀W:World,Below w3.heap.size w3 W->W.cell? ⟨ga,0,none⟩=some (.string lo)/\W.cell? ⟨ga,1,none⟩=some (.string hi)):=λW hW=>⟨ZC (qab hW n3) 0,ZC (qab hW n3) 1⟩;cases heq:decide (P=Q) with
   | true =>
    have hR:Hid (exV RR=.tuple #[.string ⟨#[]⟩,.string ⟨#[]⟩,.bool false]):=by
     show exV RR=_;rw[hex.out,if_pos (of_decide_eq_true heq)];rfl
    rw[heq] at HE;clear hex heq;go_region_held3 (λW=>W.cell? ⟨ga,0,none⟩=some (.string lo)/\W.cell? ⟨ga,1,none⟩=some (.string hi)) (first|exact⟨d0,d1⟩|exact hC.out _ hx6|exact hC.out _ hx5|exact hC.out _ hx4) (first|(go_at_call_of 43 (Value.iface tx yx);refine(HS1.out _ _ _ (hp3.below (Below.refl w3.heap.size w3).drew)).mono ?_;rintro e w4 ⟨a4,c4,rfl,pa4,hb4⟩;have hx4:Below w3.heap.size w3 w4:=(Below.refl w3.heap.size w3).drew.trans hb4)|(go_at_call_of 43 (Value.iface ty yy);refine(HS2.out _ _ _ (hq3.below hx4)).mono ?_;rintro e w5 ⟨a5,c5,rfl,pa5,hb5⟩;have hx5:Below w3.heap.size w3 w5:=hx4.trans (hb5.mono hx4.size);have pa4':=pa4.below hb5)|(go_at_call 42;refine(HE.out _ _ _ _ _ pa4' pa5).mono ?_;rintro e w6 ⟨rfl,hb6⟩;have hx6:Below w3.heap.size w3 w6:=hx5.trans (hb6.mono hx5.size)));have hw6:=hw3.trans (hx6.mono hw3.size);go_wp2_with fail;exact bodyPost_ret (v:=.tuple #[.string ⟨#[]⟩,.string ⟨#[]⟩,.bool false]) (by simp[results,Tryz.results10,go_sem]) rfl ⟨by rw[hR.out],hw6⟩
   | false =>
    have hR:Hid (RR=twinP n.toNat s t):=by
     show RR=_;rw[hex.out,if_neg (of_decide_eq_false heq)]
    rw[heq] at HE;clear hex heq;go_region_held3 (λW=>W.cell? ⟨ga,0,none⟩=some (.string lo)/\W.cell? ⟨ga,1,none⟩=some (.string hi)) (first|exact⟨d0,d1⟩|exact hC.out _ hx6|exact hC.out _ hx5|exact hC.out _ hx4) (first|(go_at_call_of 43 (Value.iface tx yx);refine(HS1.out _ _ _ (hp3.below (Below.refl w3.heap.size w3).drew)).mono ?_;rintro e w4 ⟨a4,c4,rfl,pa4,hb4⟩;have hx4:Below w3.heap.size w3 w4:=(Below.refl w3.heap.size w3).drew.trans hb4)|(go_at_call_of 43 (Value.iface ty yy);refine(HS2.out _ _ _ (hq3.below hx4)).mono ?_;rintro e w5 ⟨a5,c5,rfl,pa5,hb5⟩;have hx5:Below w3.heap.size w3 w5:=hx4.trans (hb5.mono hx4.size);have pa4':=pa4.below hb5)|(go_at_call 42;refine(HE.out _ _ _ _ _ pa4' pa5).mono ?_;rintro e w6 ⟨rfl,hb6⟩;have hx6:Below w3.heap.size w3 w6:=hx5.trans (hb6.mono hx5.size)));have hw6:=hw3.trans (hx6.mono hw3.size);have hp6:=hp3.below hx6;have hq6:=hq3.below hx6;have HF1':=HF1.out _ _ _ hp6;have HF2':=HF2.out _ _ _ hq6;have HT':=HT.out w6 _ _ hp6.pb hq6.pb;generalize ptrV (.iface tx yx)=px at HF1' HT';generalize ptrV (.iface ty yy)=py at HF2' HT';obtain⟨⟨x1,x2⟩,hx12⟩:∃X:ByteArray × ByteArray,resT (twinP n.toNat s t)=X:=⟨_,rfl⟩;obtain⟨x3,hx3⟩:=eX ((!(twinP n.toNat s t).isNone));have hv:Hid (exV RR=.tuple #[.string x1,.string x2,.bool x3]):=by
     show exV RR=_;rw[hR.out];unfold exV;rw[hx12,hx3]
    unfold exV at HT';rw[hx12,hx3] at HT';clear HF1 HF2 HT hp6 hq6 hx12 hx3 hR hp3 hq3 HS1 HS2 HE pa4 pa5 pa4' hC;go_wp2_with (first|(go_at_call_of 45 (Value.iface tx yx);refine HF1'.mono ?_;rintro e w7 ⟨rfl,rfl⟩)|(go_at_call_of 45 (Value.iface ty yy);refine HF2'.mono ?_;rintro e w8 ⟨rfl,rfl⟩)|(go_at_call 44;refine HT'.mono ?_;rintro e w9 ⟨rfl,hb9⟩));exact bodyPost_ret (v:=.tuple #[.string x1,.string x2,.bool x3]) (by simp[results,Tryz.results10,go_sem]) rfl ⟨by rw[hv.out],hw6.trans (hb9.mono hw6.size)⟩
theorem IsEnc.inj {s:ByteArray}{n:Int}{k v l r k2 v2 l2 r2:ByteArray}(h:IsEnc s n k v l r)(h2:IsEnc s n k2 v2 l2 r2):k=k2/\v=v2/\l=l2/\r=r2:=by
 obtain⟨_,e1,p1⟩:=h.parts;obtain⟨_,e2,p2⟩:=h2.parts;obtain⟨_,e3,p3⟩:=p1 _ rfl;obtain⟨_,e4,p4⟩:=p2 _ rfl;obtain⟨e5,e6⟩:=p3 _ rfl;obtain⟨e7,e8⟩:=p4 _ rfl;obtain⟨s1,s2⟩:=h.sides e5 e6;obtain⟨s3,s4⟩:=h2.sides e7 e8;refine⟨e1.trans e2.symm,e3.trans e4.symm,?_⟩;by_cases hf:(s.data.toList.getD (0+2+szAt s 0+2+szAt s (0+2+szAt s 0)) 0).toNat % 2=1
 ·exact⟨(s1 hf).2.1.trans (s3 hf).2.1.symm,(s1 hf).2.2.trans (s3 hf).2.2.symm⟩
 ·exact⟨(s2 hf).1.trans (s4 hf).1.symm,(s2 hf).2.trans (s4 hf).2.symm⟩
theorem okNode (k v l r:ByteArray)(m:Nat)(h1:1<=m)(h2:m<=32)(hk:okKey k=true)(hv:okVal v=true)(hl:l.size=0\/l.size=m)(hr:r.size=0\/r.size=m):nodeOk k.size v.size l.size r.size (m:Int)=true:=by
 unfold okKey at hk;unfold okVal at hv;rw[decide_eq_true_eq] at hk hv;unfold nodeOk hashOk;rw[Bool.and_eq_true,Bool.and_eq_true,decide_eq_true_eq];refine⟨by omega,?_,?_⟩
 ·rw[Bool.or_eq_true,decide_eq_true_eq,decide_eq_true_eq];omega
 ·rw[Bool.or_eq_true,decide_eq_true_eq,decide_eq_true_eq];omega
def vwP (wd:Nat) (lo hi:ByteArray):ByteArray->ByteArray->PT->Prop
 | _,_,.e=>True
 | over,under,.s h=>canW over under lo hi=false/\h.size=wd
 | over,under,.f k v l r=>canW over under lo hi=true/\okKey k=true/\okVal v=true/\vwP wd lo hi over k l/\vwP wd lo hi k under r
theorem rdP_vw {s lo hi:ByteArray}{wd:Nat}:∀ (f a:Nat) (over under par:ByteArray) (cnt:Nat) (t:PT) (a' c':Nat),rdP s lo hi wd f a over under par cnt=some (t,a',c')->vwP wd lo hi over under t
 | 0,_,_,_,_,_,_,_,_,h=>by cases h
 | f+1,a,over,under,par,cnt,t,a',c',h=>by
  rw[rdP] at h
  split at h
  ·split at h
   ·cases h;exact True.intro
   ·split at h
    ·split at h
     ·rename_i hh
      cases h
      refine⟨hh.1,?_⟩
      rw[ByteArray.size_extract]
      omega
     ·cases h
    ·split at h
     ·rename_i hF
      split at h
      ·rename_i hx
       obtain⟨_,_,_,ho⟩:=hx
       split at h
       ·cases h
       ·rename_i l a3 c3 hl
        split at h
        ·cases h
        ·rename_i r a4 c4 hr
         cases h
         unfold okAt at ho
         simp only[Bool.and_eq_true] at ho
         exact⟨hF.2,ho.1.1,ho.1.2,rdP_vw f _ _ _ _ _ _ _ _ hl,rdP_vw f _ _ _ _ _ _ _ _ hr⟩
      ·cases h
     ·cases h
  ·cases h
theorem vwP_sz (wd:Nat)(h2:wd<=32)(lo hi:ByteArray){over under:ByteArray}{t:PT}(h:vwP wd lo hi over under t):(hashP wd t).size=0\/(hashP wd t).size=wd:=by
 cases t with
 | e=>exact .inl rfl
 | s x=>exact .inr h.2
 | f k v l r=>exact .inr (qaG _ _ h2)
def twG (wd:Nat) (lo hi:ByteArray) (s t:PT):Option (ByteArray × ByteArray)->Prop
 | some q=>q.1 ≠ q.2/\digB q.1 wd=digB q.2 wd/\q.1.size<=10000/\q.2.size<=10000
 | none=>shP lo hi s=shP lo hi t
theorem twinP_sh (wd:Nat)(h1:1<=wd)(h2:wd<=32)(lo hi:ByteArray):∀ (s t:PT) (over under:ByteArray),vwP wd lo hi over under s->vwP wd lo hi over under t->hashP wd s=hashP wd t →
 twG wd lo hi s t (twinP wd s t)
 | .e,.e,_,_,_,_,_=>rfl
 | .e,.s x,_,_,_,hb,he=>by
  exfalso
  have e:=congrArg ByteArray.size he
  have e2:(hashP wd (.s x)).size=wd:=hb.2
  have e3:(hashP wd .e).size=0:=rfl
  omega
 | .e,.f k v l r,_,_,_,_,he=>by
  exfalso
  have e:=congrArg ByteArray.size he
  have e2:(hashP wd (.f k v l r)).size=wd:=qaG _ _ h2
  have e3:(hashP wd .e).size=0:=rfl
  omega
 | .s x,.e,_,_,ha,_,he=>by
  exfalso
  have e:=congrArg ByteArray.size he
  have e2:(hashP wd (.s x)).size=wd:=ha.2
  have e3:(hashP wd .e).size=0:=rfl
  omega
 | .f k v l r,.e,_,_,_,_,he=>by
  exfalso
  have e:=congrArg ByteArray.size he
  have e2:(hashP wd (.f k v l r)).size=wd:=qaG _ _ h2
  have e3:(hashP wd .e).size=0:=rfl
  omega
 | .s _,.s _,_,_,_,_,_=>rfl
 | .s _,.f _ _ _ _,_,_,ha,hb,_=>by have:=ha.1.symm.trans hb.1;cases this
 | .f _ _ _ _,.s _,_,_,ha,hb,_=>by have:=ha.1.symm.trans hb.1;cases this
 | .f k v l r,.f k2 v2 l2 r2,over,under,⟨_,ak,av,al,ar⟩,⟨_,bk,bv,bl,br⟩,he=>by
  by_cases hE:encF wd k v l r=encF wd k2 v2 l2 r2
  ·have a1:=okNode k v _ _ wd h1 h2 ak av (vwP_sz wd h2 lo hi al) (vwP_sz wd h2 lo hi ar)
   have a2:=okNode k2 v2 _ _ wd h1 h2 bk bv (vwP_sz wd h2 lo hi bl) (vwP_sz wd h2 lo hi br)
   have i1:IsEnc (encF wd k v l r) wd k v (hashP wd l) (hashP wd r):=⟨a1,by show encS _ _ _ _ _=_;unfold encS;rw[if_pos a1]⟩
   have i2:IsEnc (encF wd k2 v2 l2 r2) wd k2 v2 (hashP wd l2) (hashP wd r2):=⟨a2,by show encS _ _ _ _ _=_;unfold encS;rw[if_pos a2]⟩
   rw[<-hE] at i2
   obtain⟨e1,e2,e3,e4⟩:=i1.inj i2
   subst e1 e2
   have hT:twinP wd (.f k v l r) (.f k v l2 r2)=match twinP wd l l2 with|some q=>some q|none=>twinP wd r r2:=by
    show (if encF wd k v l r ≠ encF wd k v l2 r2 then _ else _)=_
    rw[if_neg (λh=>h hE)]
    try (cases twinP wd l l2 <;> rfl)
   rw[hT]
   have il:=twinP_sh wd h1 h2 lo hi l l2 over k al bl e3
   have ir:=twinP_sh wd h1 h2 lo hi r r2 k under ar br e4
   cases hc:twinP wd l l2 with
   | some q=>rw[hc] at il;exact il
   | none =>
    rw[hc] at il
    show twG wd lo hi _ _ (twinP wd r r2)
    cases hd:twinP wd r r2 with
    | some q=>rw[hd] at ir;exact ir
    | none =>
     rw[hd] at ir
     replace il:shP lo hi l=shP lo hi l2:=il
     replace ir:shP lo hi r=shP lo hi r2:=ir
     show shP lo hi l++_++shP lo hi r=shP lo hi l2++_++shP lo hi r2
     rw[il,ir]
  ·have hT:twinP wd (.f k v l r) (.f k2 v2 l2 r2)=some (encF wd k v l r,encF wd k2 v2 l2 r2):=by
    show (if encF wd k v l r ≠ encF wd k2 v2 l2 r2 then _ else _)=_
    rw[if_pos hE]
   rw[hT]
   exact⟨hE,he,(qba ..).1,(qba ..).1⟩
theorem exR_ok {n:Int}{root lo hi s1 s2:ByteArray}{s t:PT}(h1:accP n root lo hi s1=some s)(h2:accP n root lo hi s2=some t)(hd:shP lo hi s ≠ shP lo hi t) : ∃a b,exR n lo hi (some s) (some t)=some (a,b)/\a ≠ b/\digB a n.toNat=digB b n.toNat/\a.size<=10000/\b.size<=10000:=by
 have key:∀ {q:ByteArray} {u:PT},accP n root lo hi q=some u->1<=n/\n<=32/\vwP n.toNat lo hi ⟨#[]⟩ ⟨#[]⟩ u/\hashP n.toNat u=root:=by
  intro q u h;unfold accP at h
  split at h
  ·rename_i hw;cases hr:rdP q lo hi n.toNat 501 0 ⟨#[]⟩ ⟨#[]⟩ ⟨#[]⟩ 0 with
   | none=>rw[hr] at h;cases h
   | some Y =>
    obtain⟨t',a',c'⟩:=Y;rw[hr] at h;unfold accQ at h;simp only at h
    split at h
    ·rename_i hx;cases h;unfold isW at hw;simp only[Bool.and_eq_true,decide_eq_true_eq] at hw;exact⟨hw.1.1,hw.1.2,rdP_vw 501 _ _ _ _ _ _ _ _ hr,hx.2⟩
    ·cases h
  ·cases h
 obtain⟨w1,w2,v1,e1⟩:=key h1;obtain⟨_,_,v2,e2⟩:=key h2;have h:=twinP_sh n.toNat (by omega) (by omega) lo hi s t _ _ v1 v2 (e1.trans e2.symm);have hx:exR n lo hi (some s) (some t)=twinP n.toNat s t:=if_neg hd;rw[hx];cases hc:twinP n.toNat s t with
 | none=>rw[hc] at h;exact absurd h hd
 | some q=>rw[hc] at h;exact⟨q.1,q.2,rfl,h⟩
end Go.Proofs.YtibjhkpgaaapaaaGreatDoor
