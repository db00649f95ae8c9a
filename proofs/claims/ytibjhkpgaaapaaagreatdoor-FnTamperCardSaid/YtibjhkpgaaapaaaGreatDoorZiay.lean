import Derived.Test.YtibjhkpgaaapaaaGreatDoorZiax
import Derived.Test.YtibjhkpgaaapaaaGreatDoorZias
set_option maxRecDepth 100000
set_option maxHeartbeats 8000000
namespace Go.Proofs.YtibjhkpgaaapaaaGreatDoor
open Go.RowKit Go.Proofs.Sha Tryz
theorem rdP_hsz {s lo hi:ByteArray}{wd:Nat}(f a:Nat)(over under par:ByteArray)(cnt:Nat)(t:PT)(a' c':Nat)(h:rdP s lo hi wd f a over under par cnt=some (t,a',c'))(h32:wd<=32):(hashP wd t).size=0\/(hashP wd t).size=wd:=by
 cases f with
 | zero=>cases h
 | succ f =>
  rw[rdP] at h
  split at h
  ·split at h
   ·cases h;exact .inl rfl
   ·split at h
    ·split at h
     ·rename_i hh;cases h;refine .inr ?_;show (s.extract (a+1) (a+1+wd)).size=wd;rw[ByteArray.size_extract];omega
     ·cases h
    ·split at h
     ·split at h
      ·split at h
       ·cases h
       ·split at h
        ·cases h
        ·cases h;exact .inr (qaG _ _ h32)
      ·cases h
     ·cases h
  ·cases h
theorem hashS_f (wd:Nat)(h1:1<=wd)(h2:wd<=32)(k v x y:ByteArray)(hk:1<=k.size/\k.size<=256)(hv:v.size<=2000)(hx:x.size=0\/x.size=wd)(hy:y.size=0\/y.size=wd):hashS k v x y wd=digB (encS k v x y wd) wd:=by
 have hn:nodeOk k.size v.size x.size y.size (wd:Int)=true:=by
  unfold nodeOk hashOk;simp only[Bool.and_eq_true,Bool.or_eq_true,decide_eq_true_eq];omega
 have hz:(encS k v x y wd).size ≠ 0:=by
  unfold encS;rw[if_pos hn,T_size];unfold encL;simp only[List.length_append,qaq];omega
 unfold hashS digB;rw[if_neg hz,Int.toNat_natCast]
def LrdSaid (wd:Nat) (lo hi s:ByteArray) (f:Nat):Prop:=∀ (over under par:ByteArray) (a cnt:Nat) (w:World),500<cnt+f->cnt<=501->a<=s.size->over.size<=1048576->under.size<=1048576->par.size<=1048576 →
 Calls prog 84 #[.agg #[.int .i64 (wd:Int),.string lo,.string hi,.string s],.int .i64 (a:Int),.string par,.agg #[.string over,.string under],.int .i64 (cnt:Int)] w (RdAt wd (if 500<cnt then none else rdP s lo hi wd f a over under par cnt) w)
theorem lrd_step (wd:Nat)(h1:1<=wd)(h2:wd<=32)(lo hi s:ByteArray)(hs:s.size<=1048576)(hlo:lo.size<=1048576)(hhi:hi.size<=1048576)(f:Nat)(HS:Hid (LrdSaid wd lo hi s f)):LrdSaid wd lo hi s (f+1):=by
 intro over under par a cnt w hfu hcn ha ho hu hp;obtain⟨R,hRe⟩:=eX ((if 500<cnt then none else rdP s lo hi wd (f+1) a over under par cnt));rw[hRe]
 replace hRe:Hid _:=hRe
 have hQ:=LQ.mk0 w wd lo hi s over under;have HN:Hid (∀w',Calls prog 83 #[] w' λe w''=>e=.returned (.agg #[.string ⟨#[]⟩,.slice none 0 0,.string ⟨#[]⟩,.int .i64 (-1)])/\Below w'.heap.size w' w''):=none_any;go_enter func84,ntmps84;go_upto_region 1 with fail;generalize (((w.alloc (.cells #[.int .i64 (wd:Int),.string lo,.string hi,.string s] 131)).alloc (.cells #[.string over,.string under] 94)).alloc (.cells #[.string ⟨#[]⟩,.slice none 0 0,.string ⟨#[]⟩,.int .i64 0] 65))=W at hQ⊢;obtain⟨gr,hgr⟩:∃x,w.heap.size+1+1=x:=⟨_,rfl⟩;rw[hgr] at hQ⊢;obtain⟨gb,hgb⟩:∃x,w.heap.size+1=x:=⟨_,rfl⟩;rw[hgb] at hQ⊢;obtain⟨ga,hga⟩:∃x,w.heap.size=x:=⟨_,rfl⟩;rw[show LQ w w.heap.size=LQ w ga by rw[hga]] at hQ;rw[hga];clear hgr hgb hga;have k3:=ZC hQ.nq 3;have z0:decide ((a:Int)<0)=false:=decide_eq_false (by omega);have hfin:Hid (∀W:World,LQ w ga gb gr wd lo hi s over under W->W.cell? ⟨gr,0,none⟩=some (.string ⟨#[]⟩)/\W.cell? ⟨gr,1,none⟩=some (.slice none 0 0)/\W.cell? ⟨gr,2,none⟩=some (.string ⟨#[]⟩)/\W.cell? ⟨gr,3,none⟩=some (.int .i64 0)/\(∀j,W.frozen? ⟨gr,j,none⟩=false)):=λW h=>⟨ZC h.nr 0,ZC h.nr 1,ZC h.nr 2,ZC h.nr 3,λj=>qac h.nr⟩;by_cases hlt:a<s.size
 case neg =>
  have z1:decide ((s.size:Int)<=(a:Int))=true:=decide_eq_true (by omega);have z1':decide (s.size<=a)=true:=decide_eq_true (by omega);have hRn:Hid (R=none):=by
   show _=_;rw[<-hRe.out]
   split
   ·rfl
   ·rw[rdP,if_neg hlt]
  clear hlt;go_wp2_with (go_at_call 83;refine(HN.out _).mono ?_;rintro e W1 ⟨rfl,hb1⟩;have hQ1:=hQ.below hb1;obtain⟨r0,r1,r2,r3,fr⟩:=hfin.out _ hQ1);exact hQ1.none hRn.out rfl rfl
 have z1:decide ((s.size:Int)<=(a:Int))=false:=decide_eq_false (by omega);have z1':decide (s.size<=a)=false:=decide_eq_false (by omega);by_cases hc5:500<cnt
 ·have z2:decide ((500:Int)<(cnt:Int))=true:=decide_eq_true (by omega);have z2':decide (500<cnt)=true:=decide_eq_true (by omega);have hRn:Hid (R=none):=(by show _=_;rw[<-hRe.out,if_pos hc5]);clear hc5;go_wp2_with (go_at_call 83;refine(HN.out _).mono ?_;rintro e W1 ⟨rfl,hb1⟩;have hQ1:=hQ.below hb1;obtain⟨r0,r1,r2,r3,fr⟩:=hfin.out _ hQ1);exact hQ1.none hRn.out rfl rfl
 have z2:decide ((500:Int)<(cnt:Int))=false:=decide_eq_false (by omega);have z2':decide (500<cnt)=false:=decide_eq_false (by omega);have hRe2:Hid (rdP s lo hi wd (f+1) a over under par cnt=R):=by show _=_;rw[<-hRe.out,if_neg hc5]
 clear hRe;go_upto_region 4 with fail;obtain⟨b,hb⟩:=eX (bAt s a);have eb:(s[a]'hlt).toNat=b:=by rw[<-hb,bget s a hlt];rfl
 rw[eb];have hRe3:Hid ((if b=69 then some (PT.e,a+1,cnt)
  else if b=83 then
   if canW over under lo hi=false/\a+1+wd<=s.size then some (PT.s (s.extract (a+1) (a+1+wd)),a+1+wd,cnt) else none
  else if b=70/\canW over under lo hi=true then rdF s lo hi wd f (a+1) over under par cnt else none)=R):=by
  show _=_;rw[<-hRe2.out,rdP,if_pos hlt,hb];rfl
 clear hRe2 eb hb k3;have HW:Hid (∀w',Calls prog 106 #[.agg #[.string over,.string under],.string lo,.string hi] w' λe w''=>e=.returned (.bool (canW over under lo hi))/\Below w'.heap.size w' w''):=λw'=>qcd over under lo hi w' ho hu hlo hhi;by_cases hbE:b=69
 ·subst hbE;have hRv:Hid (R=some (.e,a+1,cnt)):=(by show _=_;rw[<-hRe3.out,if_pos rfl]);obtain⟨r0,r1,r2,r3,fr⟩:=hfin.out _ hQ;clear hRe3;go_wp2_with fail;exact hQ.good hRv.out _ _ none 0 0 rfl rfl rfl ⟨rfl,.inl ⟨rfl,rfl⟩⟩ _ rfl rfl rfl
 have zE:((b:Int) == 69)=false:=by simp;omega
 have b0:=ZC hQ.nb 0;have b1:=ZC hQ.nb 1;have k1:=ZC hQ.nq 1;have k2:=ZC hQ.nq 2;obtain⟨cw,hcw⟩:=eX (canW over under lo hi);rw[hcw] at HW hRe3;clear hcw;go_upto_region 7 with (go_at_call 106;refine(HW.out _).mono ?_;rintro e W1 ⟨rfl,hb1⟩;have hQ1:=hQ.below hb1;clear b0 b1 k1 k2 hb1);clear hQ HW;clear W;have k3:=ZC hQ1.nq 3;have k0:=ZC hQ1.nq 0;by_cases hbS:b=83
 ·subst hbS;cases cw with
  | true =>
   have hRn:Hid (R=none):=(by show _=_;rw[<-hRe3.out,if_neg (by decide),if_pos rfl,if_neg (by simp)]);clear hRe3;go_wp2_with (go_at_call 83;refine(HN.out _).mono ?_;rintro e W2 ⟨rfl,hb2⟩;have hQ2:=hQ1.below hb2;obtain⟨r0,r1,r2,r3,fr⟩:=hfin.out _ hQ2);exact hQ2.none hRn.out rfl rfl
  | false =>
   by_cases hw:a+1+wd<=s.size
   ·have hRv:Hid (R=some (.s (s.extract (a+1) (a+1+wd)),a+1+wd,cnt)):=(by show _=_;rw[<-hRe3.out,if_neg (by decide),if_pos rfl,if_pos ⟨rfl,hw⟩]);have zw:decide ((s.size:Int)<(a:Int)+1+(wd:Int))=false:=decide_eq_false (by omega);have zw':decide (s.size<a+1+wd)=false:=decide_eq_false (by omega);clear hRe3;go_upto_region 10 with fail;obtain⟨r0,r1,r2,r3,fr⟩:=hfin.out _ hQ1;have wp1:IntKind.i64.wrap ((a:Int)+1)=(a:Int)+1:=qaf _ (by omega) (by omega);have wp2:IntKind.i64.wrap ((a:Int)+1+(wd:Int))=(a:Int)+1+(wd:Int):=qaf _ (by omega) (by omega);clear hfu hcn ho hu hp hc5 z0 z1 z1' z2 z2' zE;go_region;have hQd:LQ w ga gb gr wd lo hi s over under W1.drew:=⟨hQ1.sz,hQ1.o1,hQ1.o2,hQ1.bl.drew,hQ1.nq,hQ1.nb,hQ1.nr⟩;go_wp2_with fail;exact hQd.good hRv.out _ _ none 0 0 rfl rfl rfl ⟨rfl,.inl ⟨rfl,rfl⟩⟩ _ (by omega) rfl rfl
   ·have hRn:Hid (R=none):=(by show _=_;rw[<-hRe3.out,if_neg (by decide),if_pos rfl,if_neg (λh=>hw h.2)]);have zw:decide ((s.size:Int)<(a:Int)+1+(wd:Int))=true:=decide_eq_true (by omega);have zw':decide (s.size<a+1+wd)=true:=decide_eq_true (by omega);clear hRe3;go_wp2_with (go_at_call 83;refine(HN.out _).mono ?_;rintro e W2 ⟨rfl,hb2⟩;have hQ2:=hQ1.below hb2;obtain⟨r0,r1,r2,r3,fr⟩:=hfin.out _ hQ2);exact hQ2.none hRn.out rfl rfl
 have zS:((b:Int) == 83)=false:=by simp;omega
 by_cases hbF:b=70
 case neg =>
  have zF:((b:Int) == 70)=false:=by simp;omega
  have zF':((b:Int) != 70)=true:=by simp;omega
  have hRn:Hid (R=none):=by show _=_;rw[<-hRe3.out,if_neg hbE,if_neg hbS,if_neg (λh=>hbF h.1)]
  clear hRe3 hbE hbS hbF;go_wp2_with (go_at_call 83;refine(HN.out _).mono ?_;rintro e W2 ⟨rfl,hb2⟩;have hQ2:=hQ1.below hb2;obtain⟨r0,r1,r2,r3,fr⟩:=hfin.out _ hQ2);exact hQ2.none hRn.out rfl rfl
 subst hbF;cases cw with
 | false =>
  have hRn:Hid (R=none):=by show _=_;rw[<-hRe3.out,if_neg (by decide),if_neg (by decide),if_neg (by simp)]
  clear hRe3;go_wp2_with (go_at_call 83;refine(HN.out _).mono ?_;rintro e W2 ⟨rfl,hb2⟩;have hQ2:=hQ1.below hb2;obtain⟨r0,r1,r2,r3,fr⟩:=hfin.out _ hQ2);exact hQ2.none hRn.out rfl rfl
 | true =>
 have hRe4:Hid (rdF s lo hi wd f (a+1) over under par cnt=R):=by show _=_;rw[<-hRe3.out,if_neg (by decide),if_neg (by decide),if_pos ⟨rfl,rfl⟩]
 clear hRe3 hbE hbS zE zS;obtain⟨a0,ha0⟩:=eX (a+1);rw[ha0] at hRe4;have ha0s:a0<=s.size:=by omega
 have wp1:((a:Int)+1)=(a0:Int):=by omega
 have HPn:Hid (∀c w',c<=s.size->¬ pieceOk s c->Calls prog 138 #[.string s,.int .i64 (c:Int)] w' λe w''=>e=.returned (.tuple #[.string ⟨#[]⟩,.int .i64 0,.bool false])/\Below w'.heap.size w' w''):=λc w' hc hn=>by
  by_cases h9:s.size<c+2
  ·exact qcE s c w' hs (by omega) h9
  ·exact qdk s c w' hs (by omega) (by unfold pieceOk at hn;omega)
 have HPy:Hid (∀c w',pieceOk s c->Calls prog 138 #[.string s,.int .i64 (c:Int)] w' λe w''=>e=.returned (.tuple #[.string (pieceT s c),.int .i64 (pieceE s c:Int),.bool true])/\Below w'.heap.size w' w''):=λc w' hc=>by
  refine(qdb s c w' hs hc.2).mono ?_;rintro e w'' ⟨t,he,ht,hb⟩;exact⟨by rw[he,ht.out];rfl,hb⟩
 unfold rdF at hRe4;by_cases hk1:pieceOk s a0
 case neg =>
  have hRn:Hid (R=none):=by show _=_;rw[<-hRe4.out,if_neg (λh=>hk1 h.2.1)]
  have HP2:Hid (∀w',Calls prog 138 #[.string s,.int .i64 (a0:Int)] w' λe w''=>e=.returned (.tuple #[.string ⟨#[]⟩,.int .i64 0,.bool false])/\Below w'.heap.size w' w''):=λw'=>HPn.out a0 w' ha0s hk1;clear hRe4 hk1 HPn HPy;go_wp2_with (first|(go_at_call 138;refine(HP2.out _).mono ?_;rintro e W2 ⟨rfl,hb2⟩;have hQ2:=hQ1.below hb2)|(go_at_call 83;refine(HN.out _).mono ?_;rintro e W3 ⟨rfl,hb3⟩;have hQ3:=hQ2.below hb3;obtain⟨r0,r1,r2,r3,fr⟩:=hfin.out _ hQ3));exact hQ3.none hRn.out rfl rfl
 have HP1:Hid (∀w',Calls prog 138 #[.string s,.int .i64 (a0:Int)] w' λe w''=>e=.returned (.tuple #[.string (pieceT s a0),.int .i64 (pieceE s a0:Int),.bool true])/\Below w'.heap.size w' w''):=λw'=>HPy.out a0 w' hk1;have hE1:pieceE s a0<=s.size:=hk1.2;have hkz:(pieceT s a0).size<=1048576:=by unfold pieceT;rw[ByteArray.size_extract];omega
 generalize pieceT s a0=k at *;generalize pieceE s a0=a1 at *;go_upto_region 16 with (first|(go_at_call 138;refine(HP1.out _).mono ?_;rintro e W2 ⟨rfl,hb2⟩;have hQ2:=hQ1.below hb2));clear hQ1 HP1 hb2 k3 k0;clear W1;have k3:=ZC hQ2.nq 3;by_cases hk2:pieceOk s a1
 case neg =>
  have hRn:Hid (R=none):=by show _=_;rw[<-hRe4.out,if_neg (λh=>hk2 h.2.2.1)]
  have HP2:Hid (∀w',Calls prog 138 #[.string s,.int .i64 (a1:Int)] w' λe w''=>e=.returned (.tuple #[.string ⟨#[]⟩,.int .i64 0,.bool false])/\Below w'.heap.size w' w''):=λw'=>HPn.out a1 w' hE1 hk2;clear hRe4 hk1 hk2 HPn HPy;go_wp2_with (first|(go_at_call 138;refine(HP2.out _).mono ?_;rintro e W3 ⟨rfl,hb3⟩;have hQ3:=hQ2.below hb3)|(go_at_call 83;refine(HN.out _).mono ?_;rintro e W4 ⟨rfl,hb4⟩;have hQ4:=hQ3.below hb4;obtain⟨r0,r1,r2,r3,fr⟩:=hfin.out _ hQ4));exact hQ4.none hRn.out rfl rfl
 have HP2:Hid (∀w',Calls prog 138 #[.string s,.int .i64 (a1:Int)] w' λe w''=>e=.returned (.tuple #[.string (pieceT s a1),.int .i64 (pieceE s a1:Int),.bool true])/\Below w'.heap.size w' w''):=λw'=>HPy.out a1 w' hk2;have hE2:pieceE s a1<=s.size:=hk2.2;have hvz:(pieceT s a1).size<=1048576:=by unfold pieceT;rw[ByteArray.size_extract];omega
 clear HPn HPy;generalize pieceT s a1=v at *;generalize pieceE s a1=a2 at *;go_upto_region 17 with (first|(go_at_call 138;refine(HP2.out _).mono ?_;rintro e W3 ⟨rfl,hb3⟩;have hQ3:=hQ2.below hb3));clear hQ2 HP2 hb3 k3;clear W2;have b0:=ZC hQ3.nb 0;have b1:=ZC hQ3.nb 1;have HO:Hid (∀w',Calls prog 125 #[.string k,.string v] w' λe w''=>e=.returned (.bool (okKey k && okVal v))/\w'=w''):=λw'=>pairOk_any k v w' hkz hvz;cases hok:(okKey k && okVal v) with
 | false =>
  rw[hok] at HO;have hRn:Hid (R=none):=by show _=_;rw[<-hRe4.out,if_neg (λh=>by have:=h.2.2.2;unfold okAt at this;rw[hok] at this;simp at this)]
  clear hRe4 hok hk1 hk2;go_wp2_with (first|(go_at_call 125;refine(HO.out _).mono ?_;rintro e W4 ⟨rfl,rfl⟩)|(go_at_call 83;refine(HN.out _).mono ?_;rintro e W4 ⟨rfl,hb4⟩;have hQ4:=hQ3.below hb4;obtain⟨r0,r1,r2,r3,fr⟩:=hfin.out _ hQ4));exact hQ4.none hRn.out rfl rfl
 | true =>
 rw[hok] at HO;have hok2:=(Bool.and_eq_true _ _).mp hok;have hks:1<=k.size/\k.size<=256:=of_decide_eq_true hok2.1;have hvs:v.size<=2000:=of_decide_eq_true hok2.2;have hke:emp k=false:=by unfold emp;exact decide_eq_false (by omega)
 have HI4:Hid (∀w',Calls prog 139 #[.string k,.agg #[.string over,.string under]] w' λe w''=>e=.returned (.bool (insW over under k))/\Below w'.heap.size w' w''):=λw'=>inside_any over under k w' hke ho hu hkz;cases h3:insW over under k with
 | false =>
  rw[h3] at HI4;have hRn:Hid (R=none):=by show _=_;rw[<-hRe4.out,if_neg (λh=>by have:=h.2.2.2;unfold okAt at this;rw[h3] at this;simp at this)]
  clear hRe4 hok hk1 hk2 hok2 h3;go_wp2_with (first|(go_at_call 125;refine(HO.out _).mono ?_;rintro e W4 ⟨rfl,rfl⟩)|(go_at_call 139;refine(HI4.out _).mono ?_;rintro e W4 ⟨rfl,hb4⟩;have hQ4:=hQ3.below hb4)|(go_at_call 83;refine(HN.out _).mono ?_;rintro e W5 ⟨rfl,hb5⟩;have hQ5:=hQ4.below hb5;obtain⟨r0,r1,r2,r3,fr⟩:=hfin.out _ hQ5));exact hQ5.none hRn.out rfl rfl
 | true =>
 rw[h3] at HI4;have HH:Hid (∀w',Calls prog 67 #[.string par,.string k] w' λe w''=>e=.returned (.bool (hgW par k))/\Below w'.heap.size w' w''):=λw'=>qcG par k w' hp hkz;cases hb:parW hgW par k with
 | false =>
  have hRn:Hid (R=none):=by show _=_;rw[<-hRe4.out,if_neg (λh=>by have:=h.2.2.2;unfold okAt at this;rw[hb] at this;simp at this)]
  have hb':emp par=false/\hgW par k=false:=by simpa[parW] using hb
  have hbb:=qaj hb'.1;have hbs:=(qag hb'.1).2 rfl;have hbn:=qao hb'.1;rw[hb'.2] at HH;clear hRe4 hok hk1 hk2 hok2 h3 hb hb';go_wp2_with (first|(go_at_call 125;refine(HO.out _).mono ?_;rintro e W4 ⟨rfl,rfl⟩)|(go_at_call 139;refine(HI4.out _).mono ?_;rintro e W4 ⟨rfl,hb4⟩;have hQ4:=hQ3.below hb4)|(go_at_call 67;refine(HH.out _).mono ?_;rintro e W5 ⟨rfl,hb5⟩;have hQ5:=hQ4.below hb5)|(go_at_call 83;refine(HN.out _).mono ?_;rintro e W6 ⟨rfl,hb6⟩;have hQ6:=hQ5.below hb6;obtain⟨r0,r1,r2,r3,fr⟩:=hfin.out _ hQ6));exact hQ6.none hRn.out rfl rfl
 | true =>
 have hAt:okAt over under par k v=true:=by unfold okAt;rw[hok,h3,hb];rfl
 have hpar:emp par=true\/(emp par=false/\hgW par k=true):=by
  unfold parW at hb;cases he:emp par with
  | true=>exact .inl rfl
  | false=>rw[he] at hb;exact .inr ⟨rfl,hb⟩
 have hRe5:Hid ((if cnt+1<=500 then
  match rdP s lo hi wd f a2 over k k (cnt+1) with
  | none=>none
  | some (l,a3,c3) =>
   match rdP s lo hi wd f a3 k under k c3 with
   | none=>none
   | some (r,a4,c4)=>some (PT.f k v l r,a4,c4)
  else none)=R):=by
  show _=_;rw[<-hRe4.out];by_cases h9:cnt+1<=500
  ·rw[if_pos h9,if_pos ⟨h9,hk1,hk2,hAt⟩];rfl
  ·rw[if_neg h9,if_neg (λh=>h9 h.1)]
 clear hRe4 hok hk1 hk2 hok2 h3 hb hAt;rcases hpar with he|⟨he,hh⟩
 case' inl =>
  have hbb:=qaj he;have hbs:=(qag he).1 rfl;go_upto_region 19 with (first|(go_at_call 125;refine(HO.out _).mono ?_;rintro e W4 ⟨rfl,rfl⟩)|(go_at_call 139;refine(HI4.out _).mono ?_;rintro e W5 ⟨rfl,hb4⟩;have hQ5:=hQ3.below hb4;clear hb4 b0 b1));clear hbb hbs he
 case' inr =>
  have hbb:=qaj he;have hbs:=(qag he).2 rfl;have hbn:=qao he;rw[hh] at HH;go_upto_region 19 with (first|(go_at_call 125;refine(HO.out _).mono ?_;rintro e W4 ⟨rfl,rfl⟩)|(go_at_call 139;refine(HI4.out _).mono ?_;rintro e W4 ⟨rfl,hb4⟩;have hQ4:=hQ3.below hb4;clear hb4 b0 b1)|(go_at_call 67;refine(HH.out _).mono ?_;rintro e W5 ⟨rfl,hb5⟩;have hQ5:=hQ4.below hb5;clear hb5 hQ4));clear hbb hbs hbn he hh;clear W4
 all_goals
  clear HO HI4 HH hQ3;clear W3;have q0:=ZC hQ5.nq 0;have q1:=ZC hQ5.nq 1;have q2:=ZC hQ5.nq 2;have q3:=ZC hQ5.nq 3;have b0:=ZC hQ5.nb 0;have HLr:Hid (∀W,Calls prog 84 #[.agg #[.int .i64 (wd:Int),.string lo,.string hi,.string s],.int .i64 (a2:Int),.string k,.agg #[.string over,.string k],.int .i64 ((cnt:Int)+1)] W (RdAt wd (if 500<cnt+1 then none else rdP s lo hi wd f a2 over k k (cnt+1)) W)):=λW=>HS.out over k k a2 (cnt+1) W (by omega) (by omega) hE2 ho (by omega) (by omega);have hRe6:Hid ((match (if 500<cnt+1 then none else rdP s lo hi wd f a2 over k k (cnt+1)) with
   | none=>none
   | some (l,a3,c3) =>
    match rdP s lo hi wd f a3 k under k c3 with
    | none=>none
    | some (r,a4,c4)=>some (PT.f k v l r,a4,c4))=R):=by
   show _=_;rw[<-hRe5.out];by_cases h9:500<cnt+1
   ·rw[if_pos h9,if_neg (by omega)]
   ·rw[if_neg h9,if_pos (by omega)]
  clear hRe5;obtain⟨LR,hLR⟩:=eX ((if 500<cnt+1 then none else rdP s lo hi wd f a2 over k k (cnt+1)));rw[hLR] at HLr hRe6;cases LR with
  | none =>
   have hRn:Hid (R=none):=hRe6.out.symm;have HL2:Hid (∀W,Calls prog 84 #[.agg #[.int .i64 (wd:Int),.string lo,.string hi,.string s],.int .i64 (a2:Int),.string k,.agg #[.string over,.string k],.int .i64 ((cnt:Int)+1)] W λe W'=>e=.returned (.agg #[.string ⟨#[]⟩,.slice none 0 0,.string ⟨#[]⟩,.int .i64 (-1)])/\Below W.heap.size W W'):=λW=>(HLr.out W).mono λe W' h=>⟨h.2.1 rfl,h.2.2⟩;clear HLr hRe6 hLR HS;go_upto_region 20 with (go_at_call 84;refine(HL2.out _).mono ?_;rintro e W6 ⟨rfl,hb6⟩;have hQ6:=hQ5.below hb6;clear hb6 q0 q1 q2 q3 b0);have hQ7:=hQ6.below ((Below.refl W6.heap.size W6).alloc (Nat.le_refl _) (.cells #[.string ⟨#[]⟩,.slice none 0 0,.string ⟨#[]⟩,.int .i64 (-1)] 65));have nL:=heap_alloc_new W6 (.cells #[.string ⟨#[]⟩,.slice none 0 0,.string ⟨#[]⟩,.int .i64 (-1)] 65);generalize W6.alloc (.cells #[.string ⟨#[]⟩,.slice none 0 0,.string ⟨#[]⟩,.int .i64 (-1)] 65)=W7 at hQ7 nL⊢;generalize W6.heap.size=gl at nL⊢;have l0:=ZC nL 0;have l1:=ZC nL 1;have l2:=ZC nL 2;have l3:=ZC nL 3;obtain⟨r0,r1,r2,r3,fr⟩:=hfin.out _ hQ7;clear hQ6;go_wp2_with fail;exact hQ7.none hRn.out rfl rfl
  | some Y =>
   obtain⟨l,a3,c3⟩:=Y;have hc51:¬ 500<cnt+1:=λh9=>by rw[if_pos h9] at hLR;cases hLR
   rw[if_neg hc51] at hLR;obtain⟨_,o2,o3,o4⟩:=rdP_ok f _ _ _ _ _ _ _ _ (by omega) hLR;have hcnt3:=qdn f _ _ _ _ _ _ _ _ hLR;have hlh:=qcL f _ _ _ _ _ _ _ _ hLR h2;have hlz:=rdP_hsz f _ _ _ _ _ _ _ _ hLR h2;have hnl:=qbi wd l;have hsl:=qcn l;obtain⟨ln,hln⟩:=eX ((nodesP wd l).length);have HL2:Hid (∀W,Calls prog 84 #[.agg #[.int .i64 (wd:Int),.string lo,.string hi,.string s],.int .i64 (a2:Int),.string k,.agg #[.string over,.string k],.int .i64 ((cnt:Int)+1)] W λe W'=>∃ (x y:ByteArray) (al:Option Addr) (cl:Nat),e=.returned (.agg #[.string x,.slice al ln cl,.string y,.int .i64 (a3:Int)])/\Hid (x=hashP wd l)/\Hid (y.data.toList=shapeP l)/\W'.ownsRow W.heap.size 73 4 (.slice al ln cl) ln (flatN (nodesP wd l))/\Below W.heap.size W W'):=λW=>(HLr.out W).mono λe W' h=>by
    obtain⟨x,y,al,cl,he,hx,hy,hown⟩:=h.1 l a3 c3 rfl;rw[hln] at he hown;exact⟨x,y,al,cl,he,hx,hy,hown,h.2.2⟩
   have hRe7:Hid ((match rdP s lo hi wd f a3 k under k c3 with
    | none=>none
    | some (r,a4,c4)=>some (PT.f k v l r,a4,c4))=R):=hRe6
   have HRr:Hid (∀W,Calls prog 84 #[.agg #[.int .i64 (wd:Int),.string lo,.string hi,.string s],.int .i64 (a3:Int),.string k,.agg #[.string k,.string under],.int .i64 ((cnt:Int)+1+(ln:Int))] W (RdAt wd (rdP s lo hi wd f a3 k under k c3) W)):=λW=>by
    have e9:((cnt:Int)+1+(ln:Int))=(c3:Int):=(by omega);have:=HS.out k under k a3 c3 W (by omega) (by omega) o2 (by omega) hu (by omega);rw[if_neg (by omega)] at this;rw[e9];exact this
   clear HLr hRe6 hLR HS;go_upto_region 20 with (go_at_call 84;refine(HL2.out _).mono ?_;rintro e W6 ⟨x,y,al,cl,rfl,hxe,hye,own6,hb6⟩;have hQ6:=hQ5.below hb6;clear hb6 q0 q1 q2 q3 b0);have hQ7:=hQ6.below ((Below.refl W6.heap.size W6).alloc (Nat.le_refl _) (.cells #[.string x,.slice al ln cl,.string y,.int .i64 (a3:Int)] 65));have nL:=heap_alloc_new W6 (.cells #[.string x,.slice al ln cl,.string y,.int .i64 (a3:Int)] 65);have own7:(W6.alloc (.cells #[.string x,.slice al ln cl,.string y,.int .i64 (a3:Int)] 65)).ownsRow w.heap.size 73 4 (.slice al ln cl) ln (flatN (nodesP wd l)):=own4_mono (own6.alloc _) hQ5.bl.size;generalize W6.alloc (.cells #[.string x,.slice al ln cl,.string y,.int .i64 (a3:Int)] 65)=W7 at hQ7 nL own7⊢;have hglr:=hQ6.lt;generalize W6.heap.size=gl at nL hglr⊢;clear hQ6 own6 HL2 hQ5;clear W6 W5;have l0:=ZC nL 0;have l1:=ZC nL 1;have l2:=ZC nL 2;have l3:=ZC nL 3;have q0:=ZC hQ7.nq 0;have q1:=ZC hQ7.nq 1;have q2:=ZC hQ7.nq 2;have q3:=ZC hQ7.nq 3;have b1:=ZC hQ7.nb 1;have z3:decide ((a3:Int)<0)=false:=decide_eq_false (by omega);have hlq5:ln<=500:=(by omega);obtain⟨RR,hRR⟩:=eX (rdP s lo hi wd f a3 k under k c3);rw[hRR] at HRr hRe7;cases RR with
   | none =>
    have hRn:Hid (R=none):=hRe7.out.symm;have HR2:Hid (∀W,Calls prog 84 #[.agg #[.int .i64 (wd:Int),.string lo,.string hi,.string s],.int .i64 (a3:Int),.string k,.agg #[.string k,.string under],.int .i64 ((cnt:Int)+1+(ln:Int))] W λe W'=>e=.returned (.agg #[.string ⟨#[]⟩,.slice none 0 0,.string ⟨#[]⟩,.int .i64 (-1)])/\Below W.heap.size W W'):=λW=>(HRr.out W).mono λe W' h=>⟨h.2.1 rfl,h.2.2⟩;clear HRr hRe7 hRR hcnt3 hnl hsl hln hlh;go_upto_region 23 with (go_at_call 84;refine(HR2.out _).mono ?_;rintro e W8 ⟨rfl,hb8⟩;have hQ8:=hQ7.below hb8;clear hb8 q0 q1 q2 q3 b1 l0 l1 l2 l3);have hQ9:=hQ8.below ((Below.refl W8.heap.size W8).alloc (Nat.le_refl _) (.cells #[.string ⟨#[]⟩,.slice none 0 0,.string ⟨#[]⟩,.int .i64 (-1)] 65));have nR:=heap_alloc_new W8 (.cells #[.string ⟨#[]⟩,.slice none 0 0,.string ⟨#[]⟩,.int .i64 (-1)] 65);generalize W8.alloc (.cells #[.string ⟨#[]⟩,.slice none 0 0,.string ⟨#[]⟩,.int .i64 (-1)] 65)=W9 at hQ9 nR⊢;generalize W8.heap.size=gx at nR⊢;have l0:=ZC nR 0;have l1:=ZC nR 1;have l2:=ZC nR 2;have l3:=ZC nR 3;obtain⟨r0,r1,r2,r3,fr⟩:=hfin.out _ hQ9;clear hQ8;go_wp2_with fail;exact hQ9.none hRn.out rfl rfl
   | some Z =>
    obtain⟨r,a4,c4⟩:=Z;obtain⟨_,p2,p3,p4⟩:=rdP_ok f _ _ _ _ _ _ _ _ (by omega) hRR;have hcnt4:=qdn f _ _ _ _ _ _ _ _ hRR;have hrh:=qcL f _ _ _ _ _ _ _ _ hRR h2;have hrz:=rdP_hsz f _ _ _ _ _ _ _ _ hRR h2;have hnr:=qbi wd r;have hsr:=qcn r;obtain⟨rn,hrn⟩:=eX ((nodesP wd r).length);have HR2:Hid (∀W,Calls prog 84 #[.agg #[.int .i64 (wd:Int),.string lo,.string hi,.string s],.int .i64 (a3:Int),.string k,.agg #[.string k,.string under],.int .i64 ((cnt:Int)+1+(ln:Int))] W λe W'=>∃ (x y:ByteArray) (al:Option Addr) (cl:Nat),e=.returned (.agg #[.string x,.slice al rn cl,.string y,.int .i64 (a4:Int)])/\Hid (x=hashP wd r)/\Hid (y.data.toList=shapeP r)/\W'.ownsRow W.heap.size 73 4 (.slice al rn cl) rn (flatN (nodesP wd r))/\Below W.heap.size W W'):=λW=>(HRr.out W).mono λe W' h=>by
     obtain⟨x,y,al,cl,he,hx,hy,hown⟩:=h.1 r a4 c4 rfl;rw[hrn] at he hown;exact⟨x,y,al,cl,he,hx,hy,hown,h.2.2⟩
    have hRv:Hid (R=some (PT.f k v l r,a4,c4)):=hRe7.out.symm;have hrq5:rn<=500:=(by omega);have hsum:Hid (ln+rn+1<=500/\ln=cP l/\rn=cP r):=⟨by omega,by omega,by omega⟩;clear HRr hRe7 hRR hcnt3 hcnt4 hnl hnr p3 o3;go_upto_region 23 with (go_at_call 84;refine(HR2.out _).mono ?_;rintro e W8 ⟨xr,yr,ar,cr,rfl,hxr,hyr,own8,hb8⟩;have hQ8:=hQ7.below hb8;have nL8:=qab hb8 nL;have own8l:=qdc own7 (λg _ hg=>hb8.block g hg);clear hb8 q0 q1 q2 q3 b1 l0 l1 l2 l3);have hQ9:=hQ8.below ((Below.refl W8.heap.size W8).alloc (Nat.le_refl _) (.cells #[.string xr,.slice ar rn cr,.string yr,.int .i64 (a4:Int)] 65));have nR9:=heap_alloc_new W8 (.cells #[.string xr,.slice ar rn cr,.string yr,.int .i64 (a4:Int)] 65);have nL9:=qab ((Below.refl W8.heap.size W8).alloc (Nat.le_refl _) (.cells #[.string xr,.slice ar rn cr,.string yr,.int .i64 (a4:Int)] 65)) nL8;have own9l:=own8l.alloc (.cells #[.string xr,.slice ar rn cr,.string yr,.int .i64 (a4:Int)] 65);have own9r:=own8.alloc (.cells #[.string xr,.slice ar rn cr,.string yr,.int .i64 (a4:Int)] 65);generalize W8.alloc (.cells #[.string xr,.slice ar rn cr,.string yr,.int .i64 (a4:Int)] 65)=W9 at hQ9 nR9 nL9 own9l own9r⊢;have hgxr:=hQ8.lt;generalize W8.heap.size=gx at nR9 hgxr⊢;clear hQ8 nL8 own8l own8 HR2 hQ7 own7 nL;clear W8;have l0:=ZC nL9 0;have x0:=ZC nR9 0;have x3:=ZC nR9 3;have z4:decide ((a4:Int)<0)=false:=decide_eq_false (by omega);have hbA:Below W9.heap.size W9 ((W9.alloc (.cells #[.string k,.string v,.string x,.string xr] 73)).alloc (.cells #[.string k,.string v,.string x,.string xr] 73)):=((Below.refl _ _).alloc (Nat.le_refl _) _).alloc (by simp) _;have hQ11:=hQ9.below hbA;have nL11:=qab hbA nL9;have nR11:=qab hbA nR9;have nN11:=(Below.heap_alloc (W9.alloc (.cells #[.string k,.string v,.string x,.string xr] 73)) (.cells #[.string k,.string v,.string x,.string xr] 73) W9.heap.size (by simp)).trans (heap_alloc_new W9 (.cells #[.string k,.string v,.string x,.string xr] 73));have nW11:=heap_alloc_new (W9.alloc (.cells #[.string k,.string v,.string x,.string xr] 73)) (.cells #[.string k,.string v,.string x,.string xr] 73);rw[World.size_alloc] at nW11;have narl:NArg al (nodesP wd l) W9:=own4_narg (by rw[hln];exact own9l) (by omega);have narr:NArg ar (nodesP wd r) W9:=own4_narg (by rw[hrn];exact own9r) (by omega);have narl11:=narl.below hbA (λb e hn=>by obtain⟨b',e',hl',_⟩:=narl.cells hn;rw[e] at e';cases e';exact hl');have narr11:=narr.below hbA (λb e hn=>by obtain⟨b',e',hl',_⟩:=narr.cells hn;rw[e] at e';cases e';exact hl');have hlb:∀b,al=some ⟨b,0,none⟩->0<(nodesP wd l).length->b<W9.heap.size+1:=λb e hn=>by obtain⟨b',e',hl',_⟩:=narl.cells hn;rw[e] at e';cases e';omega
    have hrb:∀b,ar=some ⟨b,0,none⟩->0<(nodesP wd r).length->b<W9.heap.size+1:=λb e hn=>by obtain⟨b',e',hl',_⟩:=narr.cells hn;rw[e] at e';cases e';omega
    have hgl9:=(zG nL9).1;have hgx9:=(zG nR9).1;have hgr9:=hQ9.lt;have hsz11:((W9.alloc (.cells #[.string k,.string v,.string x,.string xr] 73)).alloc (.cells #[.string k,.string v,.string x,.string xr] 73)).heap.size=W9.heap.size+2:=(by simp);go_upto_region 27 with fail;generalize (W9.alloc (.cells #[.string k,.string v,.string x,.string xr] 73)).alloc (.cells #[.string k,.string v,.string x,.string xr] 73)=W11 at hQ11 nL11 nR11 nN11 nW11 narl11 narr11 hsz11⊢;obtain⟨B2,hB2⟩:=eX (W9.heap.size+1);obtain⟨gn,hgn⟩:=eX (W9.heap.size);rw[hB2] at nW11 hlb hrb⊢;rw[hgn] at nN11 hB2 hsz11 hgl9 hgx9 hgr9⊢;have hgnB:gn<B2:=(by omega);have hown0:W11.ownsRow B2 73 4 (.slice (some ⟨B2,0,none⟩) 1 1) 1 (flatN [(k,v,x,xr)]):=⟨rfl,.inr ⟨B2,1,_,rfl,Nat.le_refl _,nW11,Nat.le_refl _,by decide,rfl,rfl⟩⟩;have hQH:Hid (∀W',Below B2 W11 W'->LQ w ga gb gr wd lo hi s over under W'/\W'.heap[gl]?=some (.cells #[.string x,.slice al ln cl,.string y,.int .i64 (a3:Int)] 65)/\W'.heap[gx]?=some (.cells #[.string xr,.slice ar rn cr,.string yr,.int .i64 (a4:Int)] 65)/\W'.heap[gn]?=some (.cells #[.string k,.string v,.string x,.string xr] 73)/\NArg al (nodesP wd l) W'/\NArg ar (nodesP wd r) W'):=λW' hb=>⟨hQ11.upto hb (by omega),(hb.block gl (by omega)).trans nL11,(hb.block gx (by omega)).trans nR11,(hb.block gn (by omega)).trans nN11,narl11.below hb hlb,narr11.below hb hrb⟩;have hB11:B2<=W11.heap.size:=(by omega);obtain⟨i0,hi0,hz0,hz1,hz2⟩:=qaB info73;have hlnH:Hid ((nodesP wd l).length=ln):=hln;have hrnH:Hid ((nodesP wd r).length=rn):=hrn;have hwB:w.heap.size<=B2:=(by have:=hQ11.sz;have:=hQ11.o1;have:=hQ11.o2;omega);clear hQ11 nL11 nR11 nN11 nW11 narl11 narr11 hlb hrb hsz11 hgl9 hgx9 hgr9 hQ9 nR9 nL9 own9l own9r narl narr hbA l0 x0 x3 hB2 hln hrn hgn;obtain⟨NL,hNL⟩:=eX (nodesP wd l);obtain⟨NRr,hNR⟩:=eX (nodesP wd r);rw[hNL] at hQH hlnH;rw[hNR] at hQH hrnH;have hNLe:Hid (nodesP wd l=NL):=hNL;have hNRe:Hid (nodesP wd r=NRr):=hNR;clear hNL hNR;go_wp2_with fail;go_loopw [22,23] (λt22 t23 wr=>∃i:Nat,i<=ln/\t23=.int .i64 (i:Int)/\∃ (g' cap':Nat),t22=.slice (some ⟨g',0,none⟩) (1+i) cap'/\wr.ownsRow B2 73 4 (.slice (some ⟨g',0,none⟩) (1+i) cap') (1+i) (flatN ((k,v,x,xr) :: NL.take i))/\Below B2 W11 wr) (λ_ t23 _=>ln-(intOf t23).toNat)
    case atStart =>
     exact⟨0,Nat.zero_le _,rfl,B2,1,rfl,hown0,Below.refl _ _⟩
    case round =>
     obtain⟨i,hik,rfl,g',cap',rfl,hown,hbl⟩:=hrel;obtain⟨hQr,nLr,nRr,nNr,narl,narr⟩:=hQH.out _ hbl;have l1:=ZC nLr 1;have hwsz:=hbl.size;by_cases hlt2:i<ln
     ·have y1:decide ((i:Int)<(ln:Int))=true:=(by simp;omega);have hx0:(0:Int)<=(i:Int):=Int.natCast_nonneg _;have hx1:(i:Int)<(ln:Int):=(by omega);obtain⟨bb,hae,_,hcc⟩:=narl.cells (by rw[hlnH.out];omega);obtain⟨e0,e1,e2,e3⟩:=hcc i (by rw[hlnH.out];exact hlt2);obtain⟨⟨y0,y2,y3,y4⟩,hy⟩:∃y,NL.getD i noNode=y:=⟨_,rfl⟩;rw[hy] at e0 e1 e2 e3;have hstep:Hid (flatN ((k,v,x,xr) :: NL.take (i+1))=flatN ((k,v,x,xr) :: NL.take i)++[.string y0,.string y2,.string y3,.string y4]):=by
       have hil:i<NL.length:=(by rw[hlnH.out];exact hlt2);show _=_;rw[List.take_succ_eq_append_getElem hil,<-List.cons_append,flatN_app];rw[zL,List.getElem?_eq_getElem hil] at hy;simp only[Option.getD_some] at hy;rw[hy];rfl
      rw[hae] at l1;clear hy hcc hae;go_wp2_with (at_builtin;refine wpList_append_lies _ rfl (.tmp 187) (.tmp 193) 63 rfl B2 73 i0 (.agg #[.string ⟨#[]⟩,.string ⟨#[]⟩,.string ⟨#[]⟩,.string ⟨#[]⟩]) 4 64 Tryz.underlying63 hi0 hz0 hz1 hz2 rfl (by decide) (.slice (some ⟨g',0,none⟩) (1+i) cap') (1+i) _ rfl (hown.alloc _) ⟨wr.heap.size,0,none⟩ 1 1 [.string y0,.string y2,.string y3,.string y4] rfl rfl (World.news_of_block (heap_alloc_new wr _)) (by simp[Value.oneCell']) (by decide) (by unfold maxLen;omega) (by omega) (by simp;omega) (wr.heap.size+1) (by simp) ?_;intro g5 c5 w5 hown5 hgrow5 hat5 hlt5);have hgg:=(qcx hown rfl).1;refine⟨⟨i+1,hlt2,rfl,g5,c5,rfl,by rw[hstep.out];exact hown5,(hbl.alloc (by omega) _).trans (qah hgrow5 hgg (by simp;omega))⟩,?_⟩;simp[intOf];omega
     ·obtain rfl:i=ln:=by omega
      have y1:decide ((i:Int)<(i:Int))=false:=(by simp);have htk:NL.take i=NL:=List.take_of_length_le (by rw[hlnH.out];exact Nat.le_refl _);rw[htk] at hown;clear htk nLr nRr nNr narl narr hQr hown0;go_wp2_with fail;go_loopw [22,24] (λt22 t24 wv=>∃j:Nat,j<=rn/\t24=.int .i64 (j:Int)/\∃ (g' cap':Nat),t22=.slice (some ⟨g',0,none⟩) (1+i+j) cap'/\wv.ownsRow B2 73 4 (.slice (some ⟨g',0,none⟩) (1+i+j) cap') (1+i+j) (flatN ((k,v,x,xr) :: (NL++NRr.take j)))/\Below B2 W11 wv) (λ_ t24 _=>rn-(intOf t24).toNat)
      case atStart =>
       exact⟨0,Nat.zero_le _,rfl,g',cap',rfl,by rw[List.take_zero,List.append_nil];exact hown,hbl⟩
      case round =>
       clear hown hbl l1 hwsz;obtain⟨j,hjk,rfl,g',cap',rfl,hown,hbl⟩:=hrel;obtain⟨hQr,nLr,nRr,nNr,narl,narr⟩:=hQH.out _ hbl;have x1:=ZC nRr 1;have hwsz:=hbl.size;by_cases hlt3:j<rn
       ·have y2':decide ((j:Int)<(rn:Int))=true:=(by simp;omega);have hx0:(0:Int)<=(j:Int):=Int.natCast_nonneg _;have hx1:(j:Int)<(rn:Int):=(by omega);obtain⟨bb,hae,_,hcc⟩:=narr.cells (by rw[hrnH.out];omega);obtain⟨e0,e1,e2,e3⟩:=hcc j (by rw[hrnH.out];exact hlt3);obtain⟨⟨y0,y2,y3,y4⟩,hy⟩:∃y,NRr.getD j noNode=y:=⟨_,rfl⟩;rw[hy] at e0 e1 e2 e3;have hstep:Hid (flatN ((k,v,x,xr) :: (NL++NRr.take (j+1)))=flatN ((k,v,x,xr) :: (NL++NRr.take j))++[.string y0,.string y2,.string y3,.string y4]):=by
         have hil:j<NRr.length:=(by rw[hrnH.out];exact hlt3);show _=_;rw[List.take_succ_eq_append_getElem hil,<-List.append_assoc,<-List.cons_append,flatN_app];rw[zL,List.getElem?_eq_getElem hil] at hy;simp only[Option.getD_some] at hy;rw[hy];rfl
        rw[hae] at x1;clear hy hcc hae;go_wp2_with (at_builtin;refine wpList_append_lies _ rfl (.tmp 202) (.tmp 208) 63 rfl B2 73 i0 (.agg #[.string ⟨#[]⟩,.string ⟨#[]⟩,.string ⟨#[]⟩,.string ⟨#[]⟩]) 4 64 Tryz.underlying63 hi0 hz0 hz1 hz2 rfl (by decide) (.slice (some ⟨g',0,none⟩) (1+i+j) cap') (1+i+j) _ rfl (hown.alloc _) ⟨wr.heap.size,0,none⟩ 1 1 [.string y0,.string y2,.string y3,.string y4] rfl rfl (World.news_of_block (heap_alloc_new wr _)) (by simp[Value.oneCell']) (by decide) (by unfold maxLen;omega) (by omega) (by simp;omega) (wr.heap.size+1) (by simp) ?_;intro g5 c5 w5 hown5 hgrow5 hat5 hlt5);have hgg:=(qcx hown rfl).1;refine⟨⟨j+1,hlt3,rfl,g5,c5,rfl,by rw[hstep.out];exact hown5,(hbl.alloc (by omega) _).trans (qah hgrow5 hgg (by simp;omega))⟩,?_⟩;simp[intOf];omega
       ·obtain rfl:j=rn:=by omega
        have y2':decide ((j:Int)<(j:Int))=false:=(by simp);have htk:NRr.take j=NRr:=List.take_of_length_le (by rw[hrnH.out];exact Nat.le_refl _);rw[htk] at hown;clear htk narl narr;go_upto_region 35 with fail;clear x1 y1 y2' z0 z1 z1' z2 z2' z3 z4;have hsz1:y.size=(shapeP l).length:=(by rw[<-hye.out];rfl);have hsz2:yr.size=(shapeP r).length:=(by rw[<-hyr.out];rfl);have hsm:=hsum.out;have u1:¬ (9223372036854775807<(⟨#[70]⟩:ByteArray).size+y.size):=(by show ¬ _<1+y.size;omega);have u2:¬ (9223372036854775807<1+y.size):=(by omega);have u3:¬ (9223372036854775807<((⟨#[70]⟩:ByteArray)++y).size+yr.size):=(by rw[ByteArray.size_append];show ¬ _<1+y.size+yr.size;omega);have u4:¬ (9223372036854775807<1+y.size+yr.size):=(by omega);have hSh:Hid ((((⟨#[70]⟩:ByteArray)++y)++yr).data.toList=shapeP (.f k v l r)):=by
         show _=_;rw[ByteArray.data_append,ByteArray.data_append,Array.toList_append,Array.toList_append,hye.out,hyr.out,shapeP];simp
        have hHx:Hid (hashS k v x xr wd=hashP wd (.f k v l r)):=by
         show _=_;rw[hashS_f wd h1 h2 k v x xr hks hvs (by rw[hxe.out];exact hlz) (by rw[hxr.out];exact hrz),hxe.out,hxr.out];rfl
        have hNd:Hid ((k,v,x,xr) :: (NL++NRr)=nodesP wd (.f k v l r)):=by
         show _=_;rw[nodesP,hNLe.out,hNRe.out,hxe.out,hxr.out]
        have hxs:x.size<=1048576:=(by rw[hxe.out];omega);have hxrs:xr.size<=1048576:=(by rw[hxr.out];omega);have HNH:Hid (∀W,Calls prog 119 #[.agg #[.string k,.string v,.string x,.string xr],.int .i64 (wd:Int)] W λe W'=>e=.returned (.string (hashP wd (.f k v l r)))/\Below W.heap.size W W'):=λW=>by
         refine(shash_any k v x xr wd W hkz hvz hxs hxrs).mono ?_;rintro e W' ⟨t,he,ht,hb⟩;exact⟨by rw[he,ht.out,hHx.out],hb⟩
        clear hHx;obtain⟨HX,hHX⟩:=eX (hashP wd (.f k v l r));rw[hHX] at HNH
        replace hHX:Hid (HX=hashP wd (.f k v l r)):=hHX.symm
        have hS8:Hid (∀W:World,W.heap[gn]?=some (.cells #[.string k,.string v,.string x,.string xr] 73)->W.heap[ga]?=some (.cells #[.int .i64 (wd:Int),.string lo,.string hi,.string s] 131)->W.heap[gl]?=some (.cells #[.string x,.slice al i cl,.string y,.int .i64 (a3:Int)] 65)->W.heap[gx]?=some (.cells #[.string xr,.slice ar j cr,.string yr,.int .i64 (a4:Int)] 65)->W.cell? ⟨gn,0,none⟩=some (.string k)/\W.cell? ⟨gn,1,none⟩=some (.string v)/\W.cell? ⟨gn,2,none⟩=some (.string x)/\W.cell? ⟨gn,3,none⟩=some (.string xr)/\W.cell? ⟨ga,0,none⟩=some (.int .i64 (wd:Int))/\W.cell? ⟨gl,2,none⟩=some (.string y)/\W.cell? ⟨gx,2,none⟩=some (.string yr)/\W.cell? ⟨gx,3,none⟩=some (.int .i64 (a4:Int))):=λW e1 e2 e3 e4=>⟨ZC e1 0,ZC e1 1,ZC e1 2,ZC e1 3,ZC e2 0,ZC e3 2,ZC e4 2,ZC e4 3⟩;have hS0:=hS8.out _ nNr hQr.nq nLr nRr;have hne1:gn ≠ gr:=qai nNr hQr.nr (by decide);have hne2:ga ≠ gr:=(by have:=hQr.o1;have:=hQr.o2;omega);have hne3:gl ≠ gr:=(by omega);have hne4:gx ≠ gr:=(by omega);clear hsz1 hsz2 hsm;have hln2:(nodesP wd (.f k v l r)).length=1+i+j:=(by rw[<-hNd.out,List.length_cons,List.length_append,hlnH.out,hrnH.out];omega);rw[hNd.out] at hown;have hFin:Hid (∀W,LQ w ga gb gr wd lo hi s over under W->Below wr.heap.size wr W->∀A:Act,A.tmps.getD 10 undef=.pointer (some ⟨gr,0,none⟩)->A.defers=[]->bodyPost prog Tryz.f84 (RdAt wd R w) .ret A ((((W.setCell ⟨gr,0,none⟩ (.string HX)).setCell ⟨gr,1,none⟩ (.slice (some ⟨g',0,none⟩) (1+i+j) cap')).setCell ⟨gr,2,none⟩ (.string ((⟨#[70]⟩++y)++yr))).setCell ⟨gr,3,none⟩ (.int .i64 (a4:Int)))):=λW hq hb A hp hd=>hq.good hRv.out HX _ (some ⟨g',0,none⟩) cap' (1+i+j) hHX.out hSh.out hln2 (own4_mono (qdc hown (λg _ hg=>hb.block g hg)) hwB) _ rfl hp hd;have hst:Hid (∀W v0 v1 v2 v3,LQ w ga gb gr wd lo hi s over under W->Below wr.heap.size wr W->(λW:World=>W.cell? ⟨gn,0,none⟩=some (.string k)/\W.cell? ⟨gn,1,none⟩=some (.string v)/\W.cell? ⟨gn,2,none⟩=some (.string x)/\W.cell? ⟨gn,3,none⟩=some (.string xr)/\W.cell? ⟨ga,0,none⟩=some (.int .i64 (wd:Int))/\W.cell? ⟨gl,2,none⟩=some (.string y)/\W.cell? ⟨gx,2,none⟩=some (.string yr)/\W.cell? ⟨gx,3,none⟩=some (.int .i64 (a4:Int))) ((((W.setCell ⟨gr,0,none⟩ v0).setCell ⟨gr,1,none⟩ v1).setCell ⟨gr,2,none⟩ v2).setCell ⟨gr,3,none⟩ v3)):=λW v0 v1 v2 v3 hq hb=>hS8.out _ (((hq.fin v0 v1 v2 v3).2.2 gn hne1).trans (qab hb nNr)) (((hq.fin v0 v1 v2 v3).2.2 ga hne2).trans hq.nq) (((hq.fin v0 v1 v2 v3).2.2 gl hne3).trans (qab hb nLr)) (((hq.fin v0 v1 v2 v3).2.2 gx hne4).trans (qab hb nRr));have hS4:Hid (∀W,Below wr.heap.size wr W->(λW:World=>W.cell? ⟨gn,0,none⟩=some (.string k)/\W.cell? ⟨gn,1,none⟩=some (.string v)/\W.cell? ⟨gn,2,none⟩=some (.string x)/\W.cell? ⟨gn,3,none⟩=some (.string xr)/\W.cell? ⟨ga,0,none⟩=some (.int .i64 (wd:Int))/\W.cell? ⟨gl,2,none⟩=some (.string y)/\W.cell? ⟨gx,2,none⟩=some (.string yr)/\W.cell? ⟨gx,3,none⟩=some (.int .i64 (a4:Int))) W):=λW hb=>hS8.out _ (qab hb nNr) (qab hb hQr.nq) (qab hb nLr) (qab hb nRr);clear hS8 nNr nLr nRr hown hln2 hSh hHX hNd hRv hsum hye hyr hxe hxr hlnH hrnH hNLe hNRe hQH hlh hlz hrh hrz hsl hsr;go_region_held3 (λW=>W.cell? ⟨gn,0,none⟩=some (.string k)/\W.cell? ⟨gn,1,none⟩=some (.string v)/\W.cell? ⟨gn,2,none⟩=some (.string x)/\W.cell? ⟨gn,3,none⟩=some (.string xr)/\W.cell? ⟨ga,0,none⟩=some (.int .i64 (wd:Int))/\W.cell? ⟨gl,2,none⟩=some (.string y)/\W.cell? ⟨gx,2,none⟩=some (.string yr)/\W.cell? ⟨gx,3,none⟩=some (.int .i64 (a4:Int))) (first|exact hS0|exact hS4.out _ hb4|exact hst.out _ _ _ _ _ hQ4 hb4) (first|(go_at_call 119;refine(HNH.out _).mono ?_;rintro e w4 ⟨rfl,hb4'⟩;have hb4:Below wr.heap.size wr w4:=(Below.refl wr.heap.size wr).drew.trans hb4';have hQ4:=hQr.below hb4;obtain⟨r0,r1,r2,r3,fr⟩:=hfin.out _ hQ4));go_wp2_with fail;exact hFin.out _ hQ4 hb4 _ rfl rfl
end Go.Proofs.YtibjhkpgaaapaaaGreatDoor
