import Derived.Test.YtibjhkpgaaapaaaGreatDoorZiat
import Derived.Test.YtibjhkpgaaapaaaGreatDoorZiaq
set_option maxRecDepth 100000
set_option maxHeartbeats 8000000
namespace Go.Proofs.YtibjhkpgaaapaaaGreatDoor
open Go.RowKit Go.Proofs.Sha Tryz
theorem qcL {s lo hi:ByteArray}{wd:Nat}(f a:Nat)(over under par:ByteArray)(cnt:Nat)(t:PT)(a' c':Nat)(h:rdP s lo hi wd f a over under par cnt=some (t,a',c'))(h32:wd<=32):(hashP wd t).size<=wd:=by
 cases f with
 | zero=>cases h
 | succ f =>
  rw[rdP] at h
  split at h
  ·split at h
   ·cases h;exact Nat.zero_le _
   ·split at h
    ·split at h
     ·cases h;show (s.extract (a+1) (a+1+wd)).size<=wd;rw[ByteArray.size_extract];omega
     ·cases h
    ·split at h
     ·split at h
      ·split at h
       ·cases h
       ·split at h
        ·cases h
        ·cases h;exact Nat.le_of_eq (qaG _ _ h32)
      ·cases h
     ·cases h
  ·cases h
theorem Row.same {w w':World}{base g n cap:Nat}{xs:List Value}(h:Row w base g n cap xs)(he:w'.heap[g]?=w.heap[g]?)(hs:w.heap.size<=w'.heap.size):Row w' base g n cap xs:=by
 have hc:∀j,w'.cell? ⟨g,j,none⟩=w.cell? ⟨g,j,none⟩:=λj=>by unfold World.cell?;simp only[he]
 have hf:∀j,w'.frozen? ⟨g,j,none⟩=w.frozen? ⟨g,j,none⟩:=λj=>by unfold World.frozen?;simp only[he]
 exact⟨h.ge,Nat.lt_of_lt_of_le h.lt hs,h.len,h.le,λj hj=>(hc j).trans (h.cell j hj),λj hj=>by rw[hc j];exact h.room j hj,λj hj=>(hf j).trans (h.free j hj)⟩
def SubSaid (q rb wd:Nat) (lo hi s:ByteArray) (f:Nat):Prop:=∀ (over under pk:ByteArray) (par:Option Addr) (a cnt:Nat) (w:World),RS q rb wd lo hi s a cnt w->ParAt par pk w->KT w->a<=s.size->cnt<=500->500<cnt+f →
 Calls prog 96 #[.pointer (some ⟨q,0,none⟩),.agg #[.string over,.string under,.pointer par]] w (SubPost q rb wd lo hi s (rdP s lo hi wd f a over under pk cnt) w)
def rdF (s lo hi:ByteArray) (wd f a:Nat) (over under par:ByteArray) (cnt:Nat):Option (PT × Nat × Nat) :=
 if cnt+1<=500/\pieceOk s a/\pieceOk s (pieceE s a)/\okAt over under par (pieceT s a) (pieceT s (pieceE s a))=true then
  match rdP s lo hi wd f (pieceE s (pieceE s a)) over (pieceT s a) (pieceT s a) (cnt+1) with
  | none=>none
  | some (l,a3,c3) =>
   match rdP s lo hi wd f a3 (pieceT s a) under (pieceT s a) c3 with
   | none=>none
   | some (r,a4,c4)=>some (.f (pieceT s a) (pieceT s (pieceE s a)) l r,a4,c4)
 else none
def FullPost (q rb wd:Nat) (lo hi s:ByteArray) (R:Option (PT × Nat × Nat)) (w:World) (e:Ending) (w':World):Prop :=
 (∀t a' c',R=some (t,a',c')->∃b,e=.returned (.pointer (some ⟨b,0,none⟩))/\PA wd w.heap.size t (.iface 84 (.pointer (some ⟨b,0,none⟩))) w'/\RS q rb wd lo hi s a' c' w')/\(R=none->e=badP)/\Mw q rb w w'
theorem FullPost.bad {q rb wd:Nat}{lo hi s:ByteArray}{R:Option (PT × Nat × Nat)}{w w':World}(hR:R=none)(hm:Mw q rb w w'):FullPost q rb wd lo hi s R w badP w':=⟨λt a' c' h=>(by rw[hR] at h;cases h),λ_=>rfl,hm⟩
structure FF (q rb wd:Nat) (lo hi s:ByteArray) (over under pk:ByteArray) (par:Option Addr) (ga:Nat) (w:World) (a cnt:Nat) (W:World):Prop where
 rs:RS q rb wd lo hi s a cnt W
 mw:Mw q rb w W
 sz:w.heap.size=ga
 na:W.heap[ga]?=some (.cells #[.string over,.string under,.pointer par] 144)
 pa:ParAt par pk W
 kt:KT W
theorem ParAt.mw {par:Option Addr}{pk:ByteArray}{q rb wd:Nat}{lo hi s:ByteArray}{a cnt:Nat}{w w':World}(h:ParAt par pk w)(hR:RS q rb wd lo hi s a cnt w)(hm:Mw q rb w w'):ParAt par pk w':=by
 rcases h with h|⟨h1,g,h2,h3⟩
 ·exact .inl h
 ·exact .inr ⟨h1,g,h2,hm.cells h3 (qai h3 hR.pr (by decide)) (qai h3 hR.rd (by decide))⟩
theorem FF.step {q rb wd:Nat}{lo hi s over under pk:ByteArray}{par:Option Addr}{ga:Nat}{w W W':World}{a cnt a' cnt':Nat}(h:FF q rb wd lo hi s over under pk par ga w a cnt W)(hr:RS q rb wd lo hi s a' cnt' W')(hm:Mw q rb W W'):FF q rb wd lo hi s over under pk par ga w a' cnt' W' :=
 ⟨hr,h.mw.trans hm,h.sz,hm.cells h.na (qai h.na h.rs.pr (by decide)) (qai h.na h.rs.rd (by decide)),h.pa.mw h.rs hm,h.kt.mw h.rs hm⟩
theorem FF.below {q rb wd:Nat}{lo hi s over under pk:ByteArray}{par:Option Addr}{ga:Nat}{w W W':World}{a cnt:Nat}(h:FF q rb wd lo hi s over under pk par ga w a cnt W)(hb:Below W.heap.size W W'):FF q rb wd lo hi s over under pk par ga w a cnt W':=h.step (h.rs.below hb) (Mw.of_below hb)
theorem PA.iface {wd n0:Nat}{w:World}{t:PT}{x:Value}(h:PA wd n0 t x w):∃T y,x=.iface T y:=by
 cases t with
 | e=>exact⟨_,_,h⟩
 | s _=>exact⟨_,_,h⟩
 | f _ _ _ _=>obtain⟨_,_,_,h,_⟩:=h;exact⟨_,_,h⟩
theorem PA.mw {wd n0 q rb a cnt:Nat}{lo hi s:ByteArray}{w w':World}{t:PT}{x:Value}(h:PA wd n0 t x w)(hR:RS q rb wd lo hi s a cnt w)(hm:Mw q rb w w'):PA wd n0 t x w':=h.keep (λ_ _ _ h3=>hm.cells h3 (qai h3 hR.pr (by decide)) (qai h3 hR.rd (by decide)))
theorem PA.set {wd n0 g i:Nat}{v:Value}{w:World}{t:PT}{x:Value}(h:PA wd n0 t x w)(hg:g<n0):PA wd n0 t x (w.setCell ⟨g,i,none⟩ v):=h.keep (λb _ hb h3=>qal h3 (by omega))
theorem PA.new {wd n0 g:Nat}{w w':World}{t:PT}{x:Value}(h:PA wd n0 t x w)(hg:g<n0)(hm:Mv g w w'):PA wd n0 t x w':=h.keep (λb _ hb h3=>hm.cells h3 (by omega))
theorem full_any (q rb wd:Nat)(h1:1<=wd)(h2:wd<=32)(lo hi s:ByteArray)(hs:s.size<=1300000)(f:Nat)(HS:Hid (SubSaid q rb wd lo hi s f))(over under pk:ByteArray)(par:Option Addr)(a cnt:Nat)(w:World)(hR:RS q rb wd lo hi s a cnt w)(hP:ParAt par pk w)(hK:KT w)(ha:a<=s.size)(hc:cnt<=500)(hfu:500<cnt+1+f) : Calls prog 144 #[.pointer (some ⟨q,0,none⟩),.agg #[.string over,.string under,.pointer par]] w (FullPost q rb wd lo hi s (rdF s lo hi wd f a over under pk cnt) w):=by
 obtain⟨R,hRe⟩:=eX (rdF s lo hi wd f a over under pk cnt);rw[hRe];unfold rdF at hRe;have hRe:Hid _:=hRe;have hA:=bA w (.cells #[.string over,.string under,.pointer par] 144);have nA:=heap_alloc_new w (.cells #[.string over,.string under,.pointer par] 144);have hF0:∃ga,FF q rb wd lo hi s over under pk par ga w a cnt (w.alloc (.cells #[.string over,.string under,.pointer par] 144)):=⟨w.heap.size,hR.below hA,Mw.of_below hA,rfl,nA,hP.mw hR (Mw.of_below hA),hK.below hA⟩;have hl0:0<w.heap.size:=World.block_lt_of_cell? w _ (hK 0 (by omega));have hq0:q<w.heap.size:=(zG hR.pr).1;have hr0:rb<w.heap.size:=(zG hR.rd).1;clear hR hP hK nA;go_enter func144,ntmps144;go_upto_region 1 with fail;generalize w.alloc (.cells #[.string over,.string under,.pointer par] 144)=W0 at hF0 hA⊢;obtain⟨ga,hF⟩:=hF0;rw[hF.sz];have q4:W0.cell? ⟨q,4,none⟩=some (.int .i64 (cnt:Int)):=ZC hF.rs.pr 4;have fq:W0.frozen? ⟨q,4,none⟩=false:=qac hF.rs.pr;go_upto_region 2 with fail;rw[show ((cnt:Int)+1)=((cnt+1:Nat):Int) from rfl];have hq1:PR q rb wd lo hi (cnt+1) (W0.setCell ⟨q,4,none⟩ (.int .i64 ((cnt+1:Nat):Int))):=heap_setCell_same W0 q 4 _ 140 _ hF.rs.pr;have hr1:Rd rb s a false (W0.setCell ⟨q,4,none⟩ (.int .i64 ((cnt+1:Nat):Int))):=hF.rs.rd.other (hF.rs.pr.ne hF.rs.rd).symm;have hm1:Mw q rb W0 (W0.setCell ⟨q,4,none⟩ (.int .i64 ((cnt+1:Nat):Int))):=(Mw.refl q rb W0).setCell q 4 _ (.inl rfl);have hF1:=hF.step ⟨hq1,hr1⟩ hm1;generalize W0.setCell ⟨q,4,none⟩ (.int .i64 ((cnt+1:Nat):Int))=W1 at hF1⊢;clear hq1 hr1 hm1 hF q4 fq;have q4:W1.cell? ⟨q,4,none⟩=some (.int .i64 ((cnt+1:Nat):Int)):=ZC hF1.rs.pr 4;obtain⟨c1,hc1⟩:=eX (cnt+1);rw[hc1] at hF1 q4⊢;by_cases hc5:c1<=500
 case neg =>
  have z1:decide ((c1:Int)<=500)=false:=decide_eq_false (by omega);have hRn:Hid (R=none):=by show _=_;rw[<-hRe.out,if_neg (λh=>hc5 (by rw[<-hc1];exact h.1))]
  clear hc5;go_wp2_with (first|(go_at_call 93;refine(qbZ _).mono ?_;rintro e w2 ⟨rfl,rfl⟩));exact⟨rfl,FullPost.bad hRn.out hF1.mw⟩
 have z1:decide ((c1:Int)<=500)=true:=decide_eq_true (by omega);go_upto_region 4 with (first|(go_at_call 93;refine(qbN _).mono ?_;rintro e w2 ⟨rfl,rfl⟩));have hF2:=hF1.below ((Below.refl W1.heap.size W1).alloc (Nat.le_refl _) (.cells #[.string ⟨#[]⟩,.string ⟨#[]⟩,.nilIface,.nilIface,.string ⟨#[]⟩] 151));have nB:=heap_alloc_new W1 (.cells #[.string ⟨#[]⟩,.string ⟨#[]⟩,.nilIface,.nilIface,.string ⟨#[]⟩] 151);have hpb:w.heap.size<=W1.heap.size:=hF1.mw.size;generalize W1.alloc (.cells #[.string ⟨#[]⟩,.string ⟨#[]⟩,.nilIface,.nilIface,.string ⟨#[]⟩] 151)=W2 at hF2 nB⊢;obtain⟨pb,hpe⟩:=eX (W1.heap.size);rw[hpe] at nB hpb⊢;clear hpe hF1 q4 z1 hA;clear W1 W0;have hKP:Hid (∀w',Calls prog 170 #[] w' λe w''=>e=.returned (.agg #[.int .i64 2,.bool false])/\Below w'.heap.size w' w''):=qbP;by_cases hk1:pieceOk s a
 case neg =>
  have hRn:Hid (R=none):=by show _=_;rw[<-hRe.out,if_neg (λh=>hk1 h.2.1)]
  have HN:Hid (∀W,FF q rb wd lo hi s over under pk par ga w a c1 W->Calls prog 143 #[.pointer (some ⟨q,0,none⟩),.iface 261 (.agg #[.int .i64 2,.bool false])] W λe W'=>e=badP/\Mw q rb w W'):=λW hW=>by
   refine(rp_sized_no q rb wd lo hi s c1 a W hW.rs.pr hW.rs.rd hs ha hk1).mono ?_;rintro e W' ⟨he,hm⟩;exact⟨he,hW.mw.trans (Mw.of_mv hm)⟩
  clear hk1;go_wp2_with (first|(go_at_call 170;refine(hKP.out _).mono ?_;rintro e w2 ⟨rfl,hb2⟩;have hF3:=hF2.below hb2)|(go_at_call 143;refine(HN.out _ hF3).mono ?_;rintro e w3 ⟨rfl,hm3⟩));exact⟨rfl,FullPost.bad hRn.out hm3⟩
 have HK:Hid (∀W,FF q rb wd lo hi s over under pk par ga w a c1 W->Calls prog 143 #[.pointer (some ⟨q,0,none⟩),.iface 261 (.agg #[.int .i64 2,.bool false])] W λe W'=>e=.returned (.string (pieceT s a))/\FF q rb wd lo hi s over under pk par ga w (pieceE s a) c1 W'/\Mw q rb W W'):=λW hW=>by
  refine(rp_sized_ok q rb wd lo hi s c1 a W hW.rs.pr hW.rs.rd hs hk1).mono ?_;rintro e W' ⟨he,hr,hm⟩;exact⟨he,hW.step (hW.rs.step hr hm) (Mw.of_mv hm),Mw.of_mv hm⟩
 have hE1:pieceE s a<=s.size:=hk1.2;have hNB:Hid (∀W W' cs,W.heap[pb]?=some (.cells cs 151)->(∃a c,RS q rb wd lo hi s a c W)->Mw q rb W W'->W'.heap[pb]?=some (.cells cs 151)):=λW W' cs hn hR hm=>by
  obtain⟨a,c,hR⟩:=hR;exact hm.cells hn (qai hn hR.pr (by decide)) (qai hn hR.rd (by decide))
 have hFS:Hid (∀W a' c' i v cs,W.heap[pb]?=some (.cells cs 151)->FF q rb wd lo hi s over under pk par ga w a' c' W->FF q rb wd lo hi s over under pk par ga w a' c' (W.setCell ⟨pb,i,none⟩ v)):=λW a' c' i v cs hn h=>by
  have n1:=qai hn h.rs.pr (by decide);have n2:=qai hn h.rs.rd (by decide);have n3:=qai hn h.na (by decide);refine⟨⟨qal h.rs.pr n1.symm,h.rs.rd.other n2.symm⟩,h.mw.setCell pb i v (.inr hpb),h.sz,qal h.na n3.symm,?_,λj hj=>?_⟩
  ·rcases h.pa with hx|⟨x1,g,x2,x3⟩
   ·exact .inl hx
   ·exact .inr ⟨x1,g,x2,qal x3 (qai x3 hn (by decide))⟩
  ·have h0:=h.kt 0 (by omega);have hpb0:(0:Nat) ≠ pb:=(by omega);rw[<-h.kt j hj];unfold World.cell?;simp only[heap_setCell_other W ⟨pb,i,none⟩ 0 v hpb0]
 have hkz:(pieceT s a).size<=1048576:=by unfold pieceT;rw[ByteArray.size_extract];have:=szAt_le s a;omega
 generalize pieceT s a=k at *;generalize pieceE s a=a1 at *;have p0:∀W:World,∀x y:ByteArray,W.heap[pb]?=some (.cells #[.string x,.string y,.nilIface,.nilIface,.string ⟨#[]⟩] 151)->∃v,W.cell? ⟨pb,0,none⟩=some v:=λW x y h=>⟨_,ZC h 0⟩;clear p0;go_upto_region 5 with (first|(go_at_call 170;refine(hKP.out _).mono ?_;rintro e w2 ⟨rfl,hb2⟩;have hF3:=hF2.below hb2;have n3:=qab hb2 nB)|(go_at_call 143;refine(HK.out _ hF3).mono ?_;rintro e w3 ⟨rfl,hF4,hm4⟩;have n4:=hNB.out _ _ _ n3 ⟨_,_,hF3.rs⟩ hm4;have p0:w3.cell? ⟨pb,0,none⟩=some (.string ⟨#[]⟩):=ZC n4 0;have fp:w3.frozen? ⟨pb,0,none⟩=false:=qac n4));have hF5:=hFS.out w3 _ _ 0 (.string k) _ n4 hF4;have n5:=heap_setCell_same w3 pb 0 _ 151 (.string k) n4;generalize w3.setCell ⟨pb,0,none⟩ (.string k)=W5 at hF5 n5⊢
 replace n5:W5.heap[pb]?=some (.cells #[.string k,.string ⟨#[]⟩,.nilIface,.nilIface,.string ⟨#[]⟩] 151):=n5
 clear hF3 n3 hF4 hm4 n4 p0 fp hF2 nB hb2 HK;clear w3 w2 W2;by_cases hk2:pieceOk s a1
 case neg =>
  have hRn:Hid (R=none):=by show _=_;rw[<-hRe.out,if_neg (λh=>hk2 h.2.2.1)]
  have HN:Hid (∀W,FF q rb wd lo hi s over under pk par ga w a1 c1 W->Calls prog 143 #[.pointer (some ⟨q,0,none⟩),.iface 261 (.agg #[.int .i64 2,.bool false])] W λe W'=>e=badP/\Mw q rb w W'):=λW hW=>by
   refine(rp_sized_no q rb wd lo hi s c1 a1 W hW.rs.pr hW.rs.rd hs hE1 hk2).mono ?_;rintro e W' ⟨he,hm⟩;exact⟨he,hW.mw.trans (Mw.of_mv hm)⟩
  clear hk2;go_wp2_with (first|(go_at_call 170;refine(hKP.out _).mono ?_;rintro e w2 ⟨rfl,hb2⟩;have hF3:=hF5.below hb2)|(go_at_call 143;refine(HN.out _ hF3).mono ?_;rintro e w3 ⟨rfl,hm3⟩));exact⟨rfl,FullPost.bad hRn.out hm3⟩
 have HV:Hid (∀W,FF q rb wd lo hi s over under pk par ga w a1 c1 W->Calls prog 143 #[.pointer (some ⟨q,0,none⟩),.iface 261 (.agg #[.int .i64 2,.bool false])] W λe W'=>e=.returned (.string (pieceT s a1))/\FF q rb wd lo hi s over under pk par ga w (pieceE s a1) c1 W'/\Mw q rb W W'):=λW hW=>by
  refine(rp_sized_ok q rb wd lo hi s c1 a1 W hW.rs.pr hW.rs.rd hs hk2).mono ?_;rintro e W' ⟨he,hr,hm⟩;exact⟨he,hW.step (hW.rs.step hr hm) (Mw.of_mv hm),Mw.of_mv hm⟩
 have hE2:pieceE s a1<=s.size:=hk2.2;have hvz:(pieceT s a1).size<=1048576:=by unfold pieceT;rw[ByteArray.size_extract];have:=szAt_le s a1;omega
 have hRe2:Hid ((if okAt over under pk k (pieceT s a1)=true then
  match rdP s lo hi wd f (pieceE s a1) over k k c1 with
  | none=>none
  | some (l,a3,c3) =>
   match rdP s lo hi wd f a3 k under k c3 with
   | none=>none
   | some (r,a4,c4)=>some (PT.f k (pieceT s a1) l r,a4,c4)
  else none)=R):=by
  show _=_;rw[<-hRe.out];by_cases ho:okAt over under pk k (pieceT s a1)=true
  ·rw[if_pos ho,if_pos ⟨by omega,hk1,hk2,ho⟩,hc1]
  ·rw[if_neg ho,if_neg (λh=>ho h.2.2.2)]
 clear hRe hk1 hk2;generalize pieceT s a1=v at *;generalize pieceE s a1=a2 at *;go_upto_region 6 with (first|(go_at_call 170;refine(hKP.out _).mono ?_;rintro e w2 ⟨rfl,hb2⟩;have hF6:=hF5.below hb2;have n6:=qab hb2 n5)|(go_at_call 143;refine(HV.out _ hF6).mono ?_;rintro e w3 ⟨rfl,hF7,hm7⟩;have n7:=hNB.out _ _ _ n6 ⟨_,_,hF6.rs⟩ hm7;have p1:w3.cell? ⟨pb,1,none⟩=some (.string ⟨#[]⟩):=ZC n7 1;have fp:w3.frozen? ⟨pb,1,none⟩=false:=qac n7));have hF8:=hFS.out w3 _ _ 1 (.string v) _ n7 hF7;have n8:=heap_setCell_same w3 pb 1 _ 151 (.string v) n7;generalize w3.setCell ⟨pb,1,none⟩ (.string v)=W8 at hF8 n8⊢
 replace n8:W8.heap[pb]?=some (.cells #[.string k,.string v,.nilIface,.nilIface,.string ⟨#[]⟩] 151):=n8
 clear hF6 n6 hF7 hm7 n7 p1 fp hF5 n5 hb2 HV hKP;clear w3 w2 W5;have p0:W8.cell? ⟨pb,0,none⟩=some (.string k):=ZC n8 0;have p1:W8.cell? ⟨pb,1,none⟩=some (.string v):=ZC n8 1;have HVK:Hid (∀w',Calls prog 127 #[.string k] w' λe w''=>e=.returned (.bool (okKey k))/\w'=w''):=λw'=>vkey_any k w' hkz;have HVV:Hid (∀w',Calls prog 128 #[.string v] w' λe w''=>e=.returned (.bool (okVal v))/\w'=w''):=λw'=>vval_any v w' hvz;cases hok:okKey k with
 | false =>
  rw[hok] at HVK;have hRn:Hid (R=none):=by show _=_;rw[<-hRe2.out,if_neg (by unfold okAt;rw[hok];simp)]
  clear hok;go_wp2_with (first|(go_at_call 127;refine(HVK.out _).mono ?_;rintro e w2 ⟨rfl,rfl⟩)|(go_at_call 93;refine(qbZ _).mono ?_;rintro e w2 ⟨rfl,rfl⟩));exact⟨rfl,FullPost.bad hRn.out hF8.mw⟩
 | true =>
 cases hov:okVal v with
 | false =>
  rw[hok] at HVK;rw[hov] at HVV;have hRn:Hid (R=none):=by show _=_;rw[<-hRe2.out,if_neg (by unfold okAt;rw[hov];simp)]
  clear hok hov;go_wp2_with (first|(go_at_call 127;refine(HVK.out _).mono ?_;rintro e w2 ⟨rfl,rfl⟩)|(go_at_call 128;refine(HVV.out _).mono ?_;rintro e w2 ⟨rfl,rfl⟩)|(go_at_call 93;refine(qbZ _).mono ?_;rintro e w2 ⟨rfl,rfl⟩));exact⟨rfl,FullPost.bad hRn.out hF8.mw⟩
 | true =>
 rw[hok] at HVK;rw[hov] at HVV;have hke:emp k=false:=by
  unfold okKey at hok;have:=of_decide_eq_true hok;unfold emp;exact decide_eq_false (by omega)
 have hkk:Hid (okKey k=true):=hok;have hvv:Hid (okVal v=true):=hov;clear hok hov;go_upto_region 7 with (first|(go_at_call 127;refine(HVK.out _).mono ?_;rintro e w2 ⟨rfl,rfl⟩)|(go_at_call 128;refine(HVV.out _).mono ?_;rintro e w2 ⟨rfl,rfl⟩)|(go_at_call 93;refine(qbN _).mono ?_;rintro e w2 ⟨rfl,rfl⟩));clear HVK HVV;obtain⟨L,hL⟩:=eX (rkL k);have hl33:L.length=33:=by rw[<-hL,qdm]
 have h1c:∀v ∈ L,v.oneCell'=true:=by rw[<-hL];exact rk_one k
 have HRk:Hid (∀W,KT W->Calls prog 166 #[.string k] W λe W'=>e=.returned (.agg L.toArray)/\Below W.heap.size W W'):=λW hk=>by rw[<-hL];exact rank_any k W hkz hk
 go_upto_region 8 with (first|(go_at_call 166;refine(HRk.out _ hF8.kt).mono ?_;rintro e w1 ⟨rfl,hb1⟩)|(refine qam _ rfl (some 6) rfl 249 249 rfl zerosR allocR ?_;intro gt w2 hr2 hb2)|(refine qan _ rfl rfl 249 (.tmp 6) (.tmp 58) rfl w1.heap.size gt 33 zerosR L rfl rfl hr2 hl33 size125 h1c ?_;intro w3 hr3 hg3));have hs1:=hb1.size;have hs2:=hb2.size;have hs3:=hg3.size;have hge:=hr3.ge;have h83:Below W8.heap.size W8 w3:=(hb1.trans (hb2.mono hs1)).trans (qah hg3 (by omega) (by omega));have hF9:=hF8.below h83;have n9:=qab h83 n8;have hpl:pb<W8.heap.size:=(zG n8).1;have hR9:Row w3 W8.heap.size gt 33 33 L:=hr3.mono hs1;have hgt:W8.heap.size<=gt:=by omega
 have hgw:W8.heap.size<=w3.heap.size:=by omega
 obtain⟨z8,hz8⟩:=eX (W8.heap.size);rw[hz8] at hpl hR9 hgt hgw;clear hs1 hs2 hs3 hge h83 hF8 n8 hb1 hb2 hr2 hr3 hg3 p0 p1 HRk hz8;clear w1 w2 W8;have a0:w3.cell? ⟨ga,0,none⟩=some (.string over):=ZC hF9.na 0;have a1':w3.cell? ⟨ga,1,none⟩=some (.string under):=ZC hF9.na 1;have a2':w3.cell? ⟨ga,2,none⟩=some (.pointer par):=ZC hF9.na 2;have HFt:Hid (∀W,ParAt par pk W->Calls prog 171 #[.agg #[.string over,.string under,.pointer par],.agg L.toArray] W λe W'=>e=.returned (.bool (insW over under k && parW hgW pk k))/\Below W.heap.size W W'):=λW hp=>by rw[<-hL];exact fits_any over under k pk par W hp
 have HLo:Hid (∀W,Calls prog 172 #[.agg #[.string over,.string under,.pointer par],.agg L.toArray] W λe W'=>∃g,e=.returned (.agg #[.string over,.string k,.pointer (some ⟨g,0,none⟩)])/\RKb g k W'/\Below W.heap.size W W'):=λW=>by
  rw[<-hL];refine(leftOf_any over under k par W).mono ?_;rintro e W' ⟨⟨g,he,_,hr⟩,hb⟩;exact⟨g,he,hr,hb⟩
 have HRo:Hid (∀W,Calls prog 173 #[.agg #[.string over,.string under,.pointer par],.agg L.toArray] W λe W'=>∃g,e=.returned (.agg #[.string k,.string under,.pointer (some ⟨g,0,none⟩)])/\RKb g k W'/\Below W.heap.size W W'):=λW=>by
  rw[<-hL];refine(rightOf_any over under k par W).mono ?_;rintro e W' ⟨⟨g,he,_,hr⟩,hb⟩;exact⟨g,he,hr,hb⟩
 clear hL;have hsz33:(prog.info? 249).map (·.size)=some L.length:=by rw[hl33];exact size125
 cases hfit:(insW over under k && parW hgW pk k) with
 | false =>
  rw[hfit] at HFt;have hRn:Hid (R=none):=by show _=_;rw[<-hRe2.out,if_neg (by unfold okAt;rw[hfit];simp)]
  clear hfit;go_wp2_with (first|(refine wpList_load_mid rfl 249 (.tmp 6) rfl gt 0 rfl L _ hR9.range Tryz.underlying249 rfl hsz33 ?_)|(go_at_call 171;refine(HFt.out _ hF9.pa).mono ?_;rintro e w4 ⟨rfl,hb4⟩;have hF10:=hF9.below hb4)|(go_at_call 93;refine(qbZ _).mono ?_;rintro e w2 ⟨rfl,rfl⟩));exact⟨rfl,FullPost.bad hRn.out hF10.mw⟩
 | true =>
 rw[hfit] at HFt;have hRe3:Hid ((match rdP s lo hi wd f a2 over k k c1 with
  | none=>none
  | some (l,a3,c3) =>
   match rdP s lo hi wd f a3 k under k c3 with
   | none=>none
   | some (r,a4,c4)=>some (PT.f k v l r,a4,c4))=R):=by
  show _=_;rw[<-hRe2.out,if_pos (by unfold okAt;rw[hkk.out,hvv.out,hfit];rfl)]
 clear hfit hRe2 hkk hvv;go_upto_region 9 with (first|(refine wpList_load_mid rfl 249 (.tmp 6) rfl gt 0 rfl L _ hR9.range Tryz.underlying249 rfl hsz33 ?_)|(go_at_call 171;refine(HFt.out _ hF9.pa).mono ?_;rintro e w4 ⟨rfl,hb4⟩;have hF10:=hF9.below hb4;have n10:=qab hb4 n9;have hR10:=hR9.below hb4;have hg4:=Nat.le_trans hgw hb4.size)|(go_at_call 93;refine(qbN _).mono ?_;rintro e w2 ⟨rfl,rfl⟩));clear hF9 n9 hR9 hgw hb4 a0 a1' a2' HFt;clear w3;have a0:w4.cell? ⟨ga,0,none⟩=some (.string over):=ZC hF10.na 0;have a1':w4.cell? ⟨ga,1,none⟩=some (.string under):=ZC hF10.na 1;have a2':w4.cell? ⟨ga,2,none⟩=some (.pointer par):=ZC hF10.na 2;have HSl:Hid (∀g W,FF q rb wd lo hi s over under pk par ga w a2 c1 W->RKb g k W->Calls prog 96 #[.pointer (some ⟨q,0,none⟩),.agg #[.string over,.string k,.pointer (some ⟨g,0,none⟩)]] W (SubPost q rb wd lo hi s (rdP s lo hi wd f a2 over k k c1) W)):=λg W hW hg=>HS.out over k k _ a2 c1 W hW.rs (.inr ⟨hke,g,rfl,hg⟩) hW.kt hE2 hc5 (by omega);obtain⟨LR,hLR⟩:=eX (rdP s lo hi wd f a2 over k k c1);rw[hLR] at HSl hRe3;cases LR with
 | none =>
  have hRn:Hid (R=none):=hRe3.out.symm;have HN:Hid (∀g W,FF q rb wd lo hi s over under pk par ga w a2 c1 W->RKb g k W->Calls prog 96 #[.pointer (some ⟨q,0,none⟩),.agg #[.string over,.string k,.pointer (some ⟨g,0,none⟩)]] W λe W'=>e=badP/\Mw q rb w W'):=λg W hW hg=>by
   refine(HSl.out g W hW hg).mono ?_;rintro e W' ⟨_,hb,hm⟩;exact⟨hb rfl,hW.mw.trans hm⟩
  clear HSl hLR hRe3 HS;go_wp2_with (first|(refine wpList_load_mid rfl 249 (.tmp 6) rfl gt 0 rfl L _ hR10.range Tryz.underlying249 rfl hsz33 ?_)|(go_at_call 172;refine(HLo.out _).mono ?_;rintro e w5 ⟨g,rfl,hg5,hb5⟩;have hF11:=hF10.below hb5)|(go_at_call 96;refine(HN.out _ _ hF11 hg5).mono ?_;rintro e w6 ⟨rfl,hm6⟩));exact⟨rfl,FullPost.bad hRn.out hm6⟩
 | some Y =>
 obtain⟨l,a3,c3⟩:=Y;obtain⟨_,o2,o3,o4⟩:=rdP_ok f _ _ _ _ _ _ _ _ hc5 hLR;have hlh:=qcL f _ _ _ _ _ _ _ _ hLR h2;have HSl':Hid (∀g W,FF q rb wd lo hi s over under pk par ga w a2 c1 W->RKb g k W->Calls prog 96 #[.pointer (some ⟨q,0,none⟩),.agg #[.string over,.string k,.pointer (some ⟨g,0,none⟩)]] W λe W'=>∃T y,e=.returned (.iface T y)/\PA wd W.heap.size l (.iface T y) W'/\FF q rb wd lo hi s over under pk par ga w a3 c3 W'/\Mw q rb W W'):=λg W hW hg=>by
  refine(HSl.out g W hW hg).mono ?_;rintro e W' ⟨hy,_,hm⟩;obtain⟨x,he,hp,hr⟩:=hy l a3 c3 rfl;obtain⟨T,y,rfl⟩:=hp.iface;exact⟨T,y,he,hp,hW.step hr hm,hm⟩
 clear HSl hLR;have hRe4:Hid ((match rdP s lo hi wd f a3 k under k c3 with
  | none=>none
  | some (r,a4,c4)=>some (PT.f k v l r,a4,c4))=R):=hRe3
 clear hRe3;go_upto_region 10 with (first|(refine wpList_load_mid rfl 249 (.tmp 6) rfl gt 0 rfl L _ hR10.range Tryz.underlying249 rfl hsz33 ?_)|(go_at_call 172;refine(HLo.out _).mono ?_;rintro e w5 ⟨g,rfl,hg5,hb5⟩;have hF11:=hF10.below hb5;have n11:=qab hb5 n10;have hR11:=hR10.below hb5;have hg5':=Nat.le_trans hg4 hb5.size)|(go_at_call 96;refine(HSl'.out _ _ hF11 hg5).mono ?_;rintro e w6 ⟨tx,yx,rfl,hx,hF12,hm6⟩;have n12:=hNB.out _ _ _ n11 ⟨_,_,hF11.rs⟩ hm6;have p2:w6.cell? ⟨pb,2,none⟩=some .nilIface:=ZC n12 2;have fp:w6.frozen? ⟨pb,2,none⟩=false:=qac n12));have hpw5:pb<w5.heap.size:=Nat.lt_of_lt_of_le hpl hg5';have hF13:=hFS.out w6 _ _ 2 (.iface tx yx) _ n12 hF12;have n13:=heap_setCell_same w6 pb 2 _ 151 (.iface tx yx) n12;have hx13:PA wd (pb+1) l (.iface tx yx) (w6.setCell ⟨pb,2,none⟩ (.iface tx yx)):=(hx.mono (by omega)).set (by omega);have hR12:Row w6 z8 gt 33 33 L:=Row.same hR11 (hm6.block gt hR11.lt (by omega) (by omega)) hm6.size;have hR13:Row (w6.setCell ⟨pb,2,none⟩ (.iface tx yx)) z8 gt 33 33 L:=Row.same hR12 (heap_setCell_other w6 ⟨pb,2,none⟩ gt _ (by show gt ≠ pb;omega)) (Nat.le_of_eq (qdI _ _ _).symm);have hs13:w6.heap.size<=(w6.setCell ⟨pb,2,none⟩ (.iface tx yx)).heap.size:=Nat.le_of_eq (qdI _ _ _).symm;have hz13:z8<=(w6.setCell ⟨pb,2,none⟩ (.iface tx yx)).heap.size:=by have:=hm6.size;omega
 generalize w6.setCell ⟨pb,2,none⟩ (.iface tx yx)=W13 at hF13 n13 hx13 hR13 hz13⊢
 replace n13:W13.heap[pb]?=some (.cells #[.string k,.string v,.iface tx yx,.nilIface,.string ⟨#[]⟩] 151):=n13
 clear hF10 n10 hR10 hg4 hF11 n11 hR11 hg5 hb5 hg5' hpw5 hx hF12 hm6 n12 p2 fp hR12 hs13 a0 a1' a2' HSl' HLo;clear w6 w5 w4;have a0:W13.cell? ⟨ga,0,none⟩=some (.string over):=ZC hF13.na 0;have a1':W13.cell? ⟨ga,1,none⟩=some (.string under):=ZC hF13.na 1;have a2':W13.cell? ⟨ga,2,none⟩=some (.pointer par):=ZC hF13.na 2;have HSr:Hid (∀g W,FF q rb wd lo hi s over under pk par ga w a3 c3 W->RKb g k W->Calls prog 96 #[.pointer (some ⟨q,0,none⟩),.agg #[.string k,.string under,.pointer (some ⟨g,0,none⟩)]] W (SubPost q rb wd lo hi s (rdP s lo hi wd f a3 k under k c3) W)):=λg W hW hg=>HS.out k under k _ a3 c3 W hW.rs (.inr ⟨hke,g,rfl,hg⟩) hW.kt o2 o4 (by omega);obtain⟨RR,hRR⟩:=eX (rdP s lo hi wd f a3 k under k c3);rw[hRR] at HSr hRe4;cases RR with
 | none =>
  have hRn:Hid (R=none):=hRe4.out.symm;have HN:Hid (∀g W,FF q rb wd lo hi s over under pk par ga w a3 c3 W->RKb g k W->Calls prog 96 #[.pointer (some ⟨q,0,none⟩),.agg #[.string k,.string under,.pointer (some ⟨g,0,none⟩)]] W λe W'=>e=badP/\Mw q rb w W'):=λg W hW hg=>by
   refine(HSr.out g W hW hg).mono ?_;rintro e W' ⟨_,hb,hm⟩;exact⟨hb rfl,hW.mw.trans hm⟩
  clear HSr hRR hRe4 HS;go_wp2_with (first|(refine wpList_load_mid rfl 249 (.tmp 6) rfl gt 0 rfl L _ hR13.range Tryz.underlying249 rfl hsz33 ?_)|(go_at_call 173;refine(HRo.out _).mono ?_;rintro e w5 ⟨g,rfl,hg5,hb5⟩;have hF14:=hF13.below hb5)|(go_at_call 96;refine(HN.out _ _ hF14 hg5).mono ?_;rintro e w6 ⟨rfl,hm6⟩));exact⟨rfl,FullPost.bad hRn.out hm6⟩
 | some Y =>
 obtain⟨r,a4,c4⟩:=Y;have hrh:=qcL f _ _ _ _ _ _ _ _ hRR h2;have HSr':Hid (∀g W,FF q rb wd lo hi s over under pk par ga w a3 c3 W->RKb g k W->Calls prog 96 #[.pointer (some ⟨q,0,none⟩),.agg #[.string k,.string under,.pointer (some ⟨g,0,none⟩)]] W λe W'=>∃T y,e=.returned (.iface T y)/\PA wd W.heap.size r (.iface T y) W'/\FF q rb wd lo hi s over under pk par ga w a4 c4 W'/\Mw q rb W W'):=λg W hW hg=>by
  refine(HSr.out g W hW hg).mono ?_;rintro e W' ⟨hy,_,hm⟩;obtain⟨x,he,hp,hr⟩:=hy r a4 c4 rfl;obtain⟨T,y,rfl⟩:=hp.iface;exact⟨T,y,he,hp,hW.step hr hm,hm⟩
 clear HSr hRR;have hRe5:Hid (some (PT.f k v l r,a4,c4)=R):=hRe4;clear hRe4;go_upto_region 11 with (first|(refine wpList_load_mid rfl 249 (.tmp 6) rfl gt 0 rfl L _ hR13.range Tryz.underlying249 rfl hsz33 ?_)|(go_at_call 173;refine(HRo.out _).mono ?_;rintro e w5 ⟨g,rfl,hg5,hb5⟩;have hF14:=hF13.below hb5;have n14:=qab hb5 n13;have hx14:=hx13.below hb5;have hz14:=Nat.le_trans hz13 hb5.size)|(go_at_call 96;refine(HSr'.out _ _ hF14 hg5).mono ?_;rintro e w6 ⟨ty,yy,rfl,hy,hF15,hm6⟩;have n15:=hNB.out _ _ _ n14 ⟨_,_,hF14.rs⟩ hm6;have p3:w6.cell? ⟨pb,3,none⟩=some .nilIface:=ZC n15 3;have fp:w6.frozen? ⟨pb,3,none⟩=false:=qac n15));have hF16:=hFS.out w6 _ _ 3 (.iface ty yy) _ n15 hF15;have n16:=heap_setCell_same w6 pb 3 _ 151 (.iface ty yy) n15;have hx16:PA wd (pb+1) l (.iface tx yx) (w6.setCell ⟨pb,3,none⟩ (.iface ty yy)):=(hx14.mw hF14.rs hm6).set (by omega);have hy16:PA wd (pb+1) r (.iface ty yy) (w6.setCell ⟨pb,3,none⟩ (.iface ty yy)):=(hy.mono (by omega)).set (by omega);generalize w6.setCell ⟨pb,3,none⟩ (.iface ty yy)=W16 at hF16 n16 hx16 hy16⊢
 replace n16:W16.heap[pb]?=some (.cells #[.string k,.string v,.iface tx yx,.iface ty yy,.string ⟨#[]⟩] 151):=n16
 clear hF13 n13 hx13 hR13 hz13 hF14 n14 hx14 hz14 hg5 hb5 hy hF15 hm6 n15 p3 fp a0 a1' a2' HSr' HRo HS hFS;clear w6 w5 W13;have q1:W16.cell? ⟨q,1,none⟩=some (.int .i64 (wd:Int)):=ZC hF16.rs.pr 1;have HA:=addEnc pb wd (pb+1) h1 h2 k v (.iface tx yx) (.iface ty yy) ⟨#[]⟩ l r W16 n16 hx16 hy16 hF16.kt hkz hvz (by omega) (by omega);have HP:Hid (∀W',W'.heap[pb]?=some (.cells #[.string k,.string v,.iface tx yx,.iface ty yy,.string (encS k v (hashP wd l) (hashP wd r) wd)] 151)->Mv pb W16 W'->FullPost q rb wd lo hi s R w (.returned (.pointer (some ⟨pb,0,none⟩))) W'):=λW' hn hm=>by
  refine⟨λt a' c' ht=>?_,λh0=>?_,hF16.mw.of_new hm hpb⟩
  ·rw[<-hRe5.out] at ht;cases ht;refine⟨pb,rfl,⟨pb,_,_,rfl,hpb,hn,(hx16.new (by omega) hm).mono (by omega),(hy16.new (by omega) hm).mono (by omega)⟩,⟨hm.cells hF16.rs.pr (by omega),hm.cells hF16.rs.rd (by omega)⟩⟩
  ·rw[<-hRe5.out] at h0;cases h0
 generalize encS k v (hashP wd l) (hashP wd r) wd=E at HA HP;clear hF16 n16 hx16 hy16 hRe5 hNB;go_wp2_with (first|(go_at_call 174;refine HA.mono ?_;rintro e w7 ⟨rfl,hn7,hm7⟩));go_ret;exact HP.out _ hn7 hm7
theorem SubPost.bad {q rb wd:Nat}{lo hi s:ByteArray}{R:Option (PT × Nat × Nat)}{w w':World}(hR:R=none)(hm:Mw q rb w w'):SubPost q rb wd lo hi s R w badP w':=⟨λt a' c' h=>(by rw[hR] at h;cases h),λ_=>rfl,hm⟩
theorem SubPost.good {q rb wd:Nat}{lo hi s:ByteArray}{R:Option (PT × Nat × Nat)}{w w':World}{t:PT}{a c:Nat}{x:Value}(hR:R=some (t,a,c))(hp:PA wd w.heap.size t x w')(hr:RS q rb wd lo hi s a c w')(hm:Mw q rb w w'):SubPost q rb wd lo hi s R w (.returned x) w':=⟨λt' a' c' h=>(by rw[hR] at h;cases h;exact⟨x,rfl,hp,hr⟩),λh=>(by rw[hR] at h;cases h),hm⟩
theorem sub_step (q rb wd:Nat)(h1:1<=wd)(h2:wd<=32)(lo hi s:ByteArray)(hs:s.size<=1300000)(f:Nat)(HS:Hid (SubSaid q rb wd lo hi s f)):SubSaid q rb wd lo hi s (f+1):=by
 intro over under pk par a cnt w hR hP hK ha hc hfu;obtain⟨R,hRe⟩:=eX (rdP s lo hi wd (f+1) a over under pk cnt);rw[hRe];rw[rdP] at hRe;have hRe:Hid _:=hRe;have hA:=bA w (.cells #[.string over,.string under,.pointer par] 144);have nA:=heap_alloc_new w (.cells #[.string over,.string under,.pointer par] 144);have hF0:∃ga,FF q rb wd lo hi s over under pk par ga w a cnt (w.alloc (.cells #[.string over,.string under,.pointer par] 144)):=⟨w.heap.size,hR.below hA,Mw.of_below hA,rfl,nA,hP.mw hR (Mw.of_below hA),hK.below hA⟩;clear hR hP hK nA;go_enter func96,ntmps96;go_upto_region 1 with fail;generalize w.alloc (.cells #[.string over,.string under,.pointer par] 144)=W0 at hF0 hA⊢;obtain⟨ga,hF⟩:=hF0;rw[hF.sz];clear hA;by_cases hlt:a<s.size
 case neg =>
  have hRn:Hid (R=none):=by show _=_;rw[<-hRe.out,if_neg hlt]
  have HN:Hid (∀W,FF q rb wd lo hi s over under pk par ga w a cnt W->Calls prog 140 #[.pointer (some ⟨q,0,none⟩),.iface 208 (.agg #[.int .i64 1,.bool false])] W λe W'=>e=badP/\Mw q rb w W'):=λW hW=>by
   refine(rp_letter_no q rb wd lo hi s cnt a W hW.rs.pr hW.rs.rd hs ha hlt).mono ?_;rintro e W' ⟨he,hm⟩;exact⟨he,hW.mw.trans (Mw.of_mv hm)⟩
  clear hlt;go_wp2_with (first|(go_at_call 141;refine(qbE _).mono ?_;rintro e w2 ⟨rfl,hb2⟩;have hF1:=hF.below hb2)|(go_at_call 140;refine(HN.out _ hF1).mono ?_;rintro e w3 ⟨rfl,hm3⟩));exact⟨rfl,SubPost.bad hRn.out hm3⟩
 have HL:Hid (∀W,FF q rb wd lo hi s over under pk par ga w a cnt W->Calls prog 140 #[.pointer (some ⟨q,0,none⟩),.iface 208 (.agg #[.int .i64 1,.bool false])] W λe W'=>e=.returned (.int .i64 (bAt s a:Int))/\FF q rb wd lo hi s over under pk par ga w (a+1) cnt W'):=λW hW=>by
  refine(rp_letter_ok q rb wd lo hi s cnt a W hW.rs.pr hW.rs.rd hs hlt).mono ?_;rintro e W' ⟨he,hr,hm⟩;exact⟨he,hW.step (hW.rs.step hr hm) (Mw.of_mv hm)⟩
 have HC:Hid (∀W,Calls prog 142 #[.agg #[.string lo,.string hi],.agg #[.string over,.string under,.pointer par]] W λe W'=>e=.returned (.bool (canW over under lo hi))/\Below W.heap.size W W'):=λW=>can_any lo hi over under par W;have hRe2:Hid ((if bAt s a=69 then some (PT.e,a+1,cnt)
  else if bAt s a=83 then
   if canW over under lo hi=false/\a+1+wd<=s.size then some (PT.s (s.extract (a+1) (a+1+wd)),a+1+wd,cnt) else none
  else if bAt s a=70/\canW over under lo hi=true then rdF s lo hi wd f (a+1) over under pk cnt else none)=R):=by
  show _=_;rw[<-hRe.out,if_pos hlt];rfl
 have ha1:a+1<=s.size:=hlt;clear hRe hlt;obtain⟨b,hb⟩:=eX (bAt s a);rw[hb] at HL hRe2;clear hb;obtain⟨cw,hcw⟩:=eX (canW over under lo hi);rw[hcw] at HC hRe2;clear hcw;go_upto_region 2 with (first|(go_at_call 141;refine(qbE _).mono ?_;rintro e w2 ⟨rfl,hb2⟩;have hF1:=hF.below hb2)|(go_at_call 140;refine(HL.out _ hF1).mono ?_;rintro e w3 ⟨rfl,hF2⟩));clear hF hF1 hb2 HL;clear w2 W0;have a0:w3.cell? ⟨ga,0,none⟩=some (.string over):=ZC hF2.na 0;have a1':w3.cell? ⟨ga,1,none⟩=some (.string under):=ZC hF2.na 1;have a2':w3.cell? ⟨ga,2,none⟩=some (.pointer par):=ZC hF2.na 2;have q2:w3.cell? ⟨q,2,none⟩=some (.string lo):=ZC hF2.rs.pr 2;have q3:w3.cell? ⟨q,3,none⟩=some (.string hi):=ZC hF2.rs.pr 3;have hC2:Hid (∀W,FF q rb wd lo hi s over under pk par ga w (a+1) cnt W->W.cell? ⟨ga,0,none⟩=some (.string over)/\W.cell? ⟨ga,1,none⟩=some (.string under)/\W.cell? ⟨ga,2,none⟩=some (.pointer par)/\W.cell? ⟨q,2,none⟩=some (.string lo)/\W.cell? ⟨q,3,none⟩=some (.string hi)):=λW hW=>⟨ZC hW.na 0,ZC hW.na 1,ZC hW.na 2,ZC hW.rs.pr 2,ZC hW.rs.pr 3⟩;go_region_held3 (λW=>W.cell? ⟨ga,0,none⟩=some (.string over)/\W.cell? ⟨ga,1,none⟩=some (.string under)/\W.cell? ⟨ga,2,none⟩=some (.pointer par)/\W.cell? ⟨q,2,none⟩=some (.string lo)/\W.cell? ⟨q,3,none⟩=some (.string hi)) (first|exact⟨a0,a1',a2',q2,q3⟩|exact hC2.out _ hF3) (first|(go_at_call 142;refine(HC.out _).mono ?_;rintro e w4 ⟨rfl,hb4'⟩;have hb4:Below w3.heap.size w3 w4:=(Below.refl w3.heap.size w3).drew.trans hb4';have hF3:=hF2.below hb4));clear hF2 hb4 hb4' a0 a1' a2' q2 q3 HC hC2;clear w3;by_cases hbE:b=69
 ·subst hbE;have hRv:Hid (R=some (.e,a+1,cnt)):=(by show _=_;rw[<-hRe2.out,if_pos rfl]);clear hRe2;go_wp2_with fail;go_ret;exact SubPost.good hRv.out rfl hF3.rs hF3.mw
 have zE:((b:Int) == 69)=false:=by simp;omega
 by_cases hbS:b=83
 ·subst hbS;cases cw with
  | true =>
   have hRn:Hid (R=none):=(by show _=_;rw[<-hRe2.out,if_neg (by decide),if_pos rfl,if_neg (by simp)]);clear hRe2;go_wp2_with fail;exact⟨rfl,SubPost.bad hRn.out hF3.mw⟩
  | false =>
   have q1:w4.cell? ⟨q,1,none⟩=some (.int .i64 (wd:Int)):=ZC hF3.rs.pr 1;by_cases hw:a+1+wd<=s.size
   ·have hRv:Hid (R=some (.s (s.extract (a+1) (a+1+wd)),a+1+wd,cnt)):=(by show _=_;rw[<-hRe2.out,if_neg (by decide),if_pos rfl,if_pos ⟨rfl,hw⟩]);have HP:Hid (∀W,FF q rb wd lo hi s over under pk par ga w (a+1) cnt W->Calls prog 143 #[.pointer (some ⟨q,0,none⟩),.iface 214 (.agg #[.int .i64 (wd:Int)])] W λe W'=>e=.returned (.string (s.extract (a+1) (a+1+wd)))/\FF q rb wd lo hi s over under pk par ga w (a+1+wd) cnt W'):=λW hW=>by
     refine(rp_plain_ok wd h2 q rb wd lo hi s cnt (a+1) W hW.rs.pr hW.rs.rd hs hw).mono ?_;rintro e W' ⟨he,hr,hm⟩;exact⟨he,hW.step (hW.rs.step hr hm) (Mw.of_mv hm)⟩
    generalize s.extract (a+1) (a+1+wd)=X at HP hRv;clear hRe2 hw;go_wp2_with (first|(go_at_call 143;refine(HP.out _ hF3).mono ?_;rintro e w5 ⟨rfl,hF5⟩));go_ret;exact SubPost.good hRv.out rfl hF5.rs hF5.mw
   ·have hRn:Hid (R=none):=(by show _=_;rw[<-hRe2.out,if_neg (by decide),if_pos rfl,if_neg (λh=>hw h.2)]);have HP:Hid (∀W,FF q rb wd lo hi s over under pk par ga w (a+1) cnt W->Calls prog 143 #[.pointer (some ⟨q,0,none⟩),.iface 214 (.agg #[.int .i64 (wd:Int)])] W λe W'=>e=badP/\Mw q rb w W'):=λW hW=>by
     refine(rp_plain_no wd h2 q rb wd lo hi s cnt (a+1) W hW.rs.pr hW.rs.rd hs ha1 hw).mono ?_;rintro e W' ⟨he,hm⟩;exact⟨he,hW.mw.trans (Mw.of_mv hm)⟩
    clear hRe2 hw;go_wp2_with (first|(go_at_call 143;refine(HP.out _ hF3).mono ?_;rintro e w5 ⟨rfl,hm5⟩));exact⟨rfl,SubPost.bad hRn.out hm5⟩
 have zS:((b:Int) == 83)=false:=by simp;omega
 by_cases hbF:b=70
 ·subst hbF;cases cw with
  | false =>
   have hRn:Hid (R=none):=(by show _=_;rw[<-hRe2.out,if_neg (by decide),if_neg (by decide),if_neg (by simp)]);clear hRe2;go_wp2_with fail;exact⟨rfl,SubPost.bad hRn.out hF3.mw⟩
  | true =>
   have hRv:Hid (rdF s lo hi wd f (a+1) over under pk cnt=R):=(by show _=_;rw[<-hRe2.out,if_neg (by decide),if_neg (by decide),if_pos ⟨rfl,rfl⟩]);have a0:w4.cell? ⟨ga,0,none⟩=some (.string over):=ZC hF3.na 0;have a1':w4.cell? ⟨ga,1,none⟩=some (.string under):=ZC hF3.na 1;have a2':w4.cell? ⟨ga,2,none⟩=some (.pointer par):=ZC hF3.na 2;have HU:=full_any q rb wd h1 h2 lo hi s hs f HS over under pk par (a+1) cnt w4 hF3.rs hF3.pa hF3.kt ha1 hc (by omega);rw[hRv.out] at HU;clear hRv hRe2;cases R with
   | none =>
    have HU2:Calls prog 144 #[.pointer (some ⟨q,0,none⟩),.agg #[.string over,.string under,.pointer par]] w4 λe w'=>e=badP/\Mw q rb w w':=by
     refine HU.mono ?_;rintro e w' ⟨_,he,hm⟩;exact⟨he rfl,hF3.mw.trans hm⟩
    clear HU;go_wp2_with (first|(go_at_call 144;refine HU2.mono ?_;rintro e w5 ⟨rfl,hm5⟩));exact⟨rfl,SubPost.bad rfl hm5⟩
   | some Y =>
    obtain⟨t,a',c'⟩:=Y;have HU2:Calls prog 144 #[.pointer (some ⟨q,0,none⟩),.agg #[.string over,.string under,.pointer par]] w4 λe w'=>∃b,e=.returned (.pointer (some ⟨b,0,none⟩))/\SubPost q rb wd lo hi s (some (t,a',c')) w (.returned (.iface 84 (.pointer (some ⟨b,0,none⟩)))) w':=by
     refine HU.mono ?_;rintro e w' ⟨hy,_,hm⟩;obtain⟨b,he,hp,hr⟩:=hy t a' c' rfl;exact⟨b,he,SubPost.good rfl (hp.mono hF3.mw.size) hr (hF3.mw.trans hm)⟩
    clear HU;go_wp2_with (first|(go_at_call 144;refine HU2.mono ?_;rintro e w5 ⟨pb,rfl,hp5⟩));go_ret;exact hp5
 have zF:((b:Int) == 70)=false:=by simp;omega
 have hRn:Hid (R=none):=by show _=_;rw[<-hRe2.out,if_neg hbE,if_neg hbS,if_neg (λh=>hbF h.1)]
 clear hRe2 hbE hbS hbF;go_wp2_with fail;exact⟨rfl,SubPost.bad hRn.out hF3.mw⟩
theorem sub_all (q rb wd:Nat)(h1:1<=wd)(h2:wd<=32)(lo hi s:ByteArray)(hs:s.size<=1300000):∀f,SubSaid q rb wd lo hi s f
 | 0=>λ_ _ _ _ _ _ _ _ _ _ _ h h'=>by omega
 | f+1=>sub_step q rb wd h1 h2 lo hi s hs f (sub_all q rb wd h1 h2 lo hi s hs f)
end Go.Proofs.YtibjhkpgaaapaaaGreatDoor
