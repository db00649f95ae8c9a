import Derived.Test.YtibjhkpgaaapaaaGreatDoorZibe
import Derived.Test.YtibjhkpgaaapaaaGreatDoorZiah
import Derived.Test.YtibjhkpgaaapaaaGreatDoorZiaw
import Derived.Test.YtibjhkpgaaapaaaGreatDoorZiat
import Derived.Test.YtibjhkpgaaapaaaGreatDoorZibd
import Derived.Test.YtibjhkpgaaapaaaGreatDoorZiaz
import Derived.Test.YtibjhkpgaaapaaaGreatDoorZiaj
import Derived.Test.YtibjhkpgaaapaaaGreatDoorZibb
import Derived.Test.YtibjhkpgaaapaaaGreatDoorZiap
import Derived.Test.YtibjhkpgaaapaaaGreatDoorZiak
import Derived.Deep.AppendLies
import Derived.Deep.RegionLaw
import Derived.Test.YtibjhkpgaaapaaaGreatDoorZial
import Derived.Test.YtibjhkpgaaapaaaGreatDoorZiar
import Derived.Test.YtibjhkpgaaapaaaGreatDoorZiaq
set_option maxRecDepth 100000
set_option maxHeartbeats 1000000
namespace Go.Proofs.YtibjhkpgaaapaaaGreatDoor
open Go.RowKit Go.Proofs.Sha Tryz
theorem ret11 {w:World}{g:Nat}{k v l r:ByteArray}(h:NB g k v l r w){a:Act}{R:Ending->World->Prop}(b:Bool)(h4:a.tmps.getD 4 undef=.pointer (some ⟨g,0,none⟩))(h5:a.tmps.getD 5 undef=.bool b)(hd:a.defers=[])(hR:R (.returned (.tuple #[nodeV k v l r,.bool b])) w):bodyPost prog Tryz.f198 R .ret a w:=by
 have c0:w.cell? ⟨g,0,none⟩=some (.string k):=ZC h 0;have c1:w.cell? ⟨g,1,none⟩=some (.string v):=ZC h 1;have c2:w.cell? ⟨g,2,none⟩=some (.string l):=ZC h 2;have c3:w.cell? ⟨g,3,none⟩=some (.string r):=ZC h 3;have h4':a.tmps[4]?.getD undef=.pointer (some ⟨g,0,none⟩):=by simpa using h4
 have h5':a.tmps[5]?.getD undef=.bool b:=by simpa using h5
 exact bodyPost_ret (v:=.tuple #[nodeV k v l r,.bool b]) (by simp[results,Tryz.results198,go_sem,h4',h5',asAddr,c0,c1,c2,c3]) hd hR
theorem dec_impl (s:ByteArray)(n:Int)(w:World)(hs:s.size<=1048576) : Calls prog 198 #[.string s,.int .i64 n] w λe w'=>decPost s n e/\Below w.heap.size w w':=by
 by_cases hw:1<=n/\n<=32
 ·obtain⟨m,rfl⟩:=Int.eq_ofNat_of_zero_le (show 0<=n by omega);have z1:decide ((1:Int)<=(m:Int))=true:=(by simp;omega);have z2:decide ((m:Int)<=32)=true:=(by simp;omega);have HC:Hid (∀w',Calls prog 203 #[.string s,.iface 285 (.agg #[.int .i64 (m:Int)])] w' λe w''=>∃ (k v l x:ByteArray) (b:Bool),e=.returned (.tuple #[nodeV k v l x,.bool b])/\Hid (decPost s (m:Int) (.returned (.tuple #[nodeV k v l x,.bool b])))/\Below w'.heap.size w' w''):=by
   intro w';refine(whole_node m s w' hs (by omega)).mono ?_;rintro e w'' ⟨k,v,l,x,a',f',rfl,HNR,ha',hb⟩;by_cases hc:f'=false/\a'=s.size
   ·refine⟨k,v,l,x,true,by unfold wholeV;rw[if_pos hc],.inl ⟨k,v,l,x,?_,rfl⟩,hb⟩;have:=HNR.out;rw[hc.1,hc.2] at this;exact this.enc
   ·exact⟨⟨#[]⟩,⟨#[]⟩,⟨#[]⟩,⟨#[]⟩,false,by unfold wholeV;rw[if_neg hc],.inr ⟨λk' v' l' x'=>HNR.out.no hc k' v' l' x',rfl⟩,hb⟩
  obtain⟨fb,hfb⟩:=eX (w.heap.size);go_enter func198,ntmps198;go_wp2_with (first|(go_at_call 203;refine(HC.out _).mono ?_;rintro e w1 ⟨k,v,l,x,b,rfl,HD,hb1⟩;have hn1:NB fb ⟨#[]⟩ ⟨#[]⟩ ⟨#[]⟩ ⟨#[]⟩ w1:=qab hb1 (by rw[<-hfb];exact heap_alloc_new _ _);have c0:w1.cell? ⟨fb,0,none⟩=some (.string ⟨#[]⟩):=ZC hn1 0;have c1:w1.cell? ⟨fb,1,none⟩=some (.string ⟨#[]⟩):=ZC hn1 1;have c2:w1.cell? ⟨fb,2,none⟩=some (.string ⟨#[]⟩):=ZC hn1 2;have c3:w1.cell? ⟨fb,3,none⟩=some (.string ⟨#[]⟩):=ZC hn1 3;have f0:w1.frozen? ⟨fb,0,none⟩=false:=qac hn1;have f1:w1.frozen? ⟨fb,1,none⟩=false:=qac hn1;have f2:w1.frozen? ⟨fb,2,none⟩=false:=qac hn1;have f3:w1.frozen? ⟨fb,3,none⟩=false:=qac hn1)|go_in);refine ret11 ((((hn1.s0 _).s1 _).s2 _).s3 _) b rfl rfl rfl ⟨HD.out,?_⟩;have hb2:Below fb w w1:=((Below.refl _ w).alloc (by omega) _).trans (hb1.mono (by simp[hfb]));rw[hfb];exact(((hb2.setCell (Nat.le_refl _) _).setCell (Nat.le_refl _) _).setCell (Nat.le_refl _) _).setCell (Nat.le_refl _) _
 ·have HN:Hid (∀k v l r,¬ IsEnc s n k v l r):=λk v l r hE=>by have:=qaY hE.1;omega
  by_cases h1:1<=n
  ·have z1:decide (1<=n)=true:=(by simp;omega);have z2:decide (n<=32)=false:=(by simp;omega);go_enter func198,ntmps198;go_wp2_with go_in;exact ret11 (heap_alloc_new _ _) false rfl rfl rfl ⟨.inr ⟨HN.out,rfl⟩,(Below.refl _ _).alloc (Nat.le_refl _) _⟩
  ·have z1:decide (1<=n)=false:=(by simp;omega);go_enter func198,ntmps198;go_wp2_with go_in;exact ret11 (heap_alloc_new _ _) false rfl rfl rfl ⟨.inr ⟨HN.out,rfl⟩,(Below.refl _ _).alloc (Nat.le_refl _) _⟩
theorem IsEnc.one {s:ByteArray}{n:Int}{k v l r k' v' l' r':ByteArray}(h:IsEnc s n k v l r)(h':IsEnc s n k' v' l' r'):k=k'/\v=v'/\l=l'/\r=r':=by
 obtain⟨_,p2,p3⟩:=h.parts;obtain⟨_,p2',p3'⟩:=h'.parts;obtain⟨_,q2,q3⟩:=p3 _ rfl;obtain⟨_,q2',q3'⟩:=p3' _ rfl;obtain⟨r1,r2⟩:=q3 _ rfl;obtain⟨r1',r2'⟩:=q3' _ rfl;refine⟨p2.trans p2'.symm,q2.trans q2'.symm,?_⟩;have s1:=h.sides r1 r2;have s2:=h'.sides r1' r2';by_cases hf:(s.data.toList.getD (0+2+szAt s 0+2+szAt s (0+2+szAt s 0)) 0).toNat % 2=1
 ·have t1:=s1.1 hf;have t2:=s2.1 hf;exact⟨t1.2.1.trans t2.2.1.symm,t1.2.2.trans t2.2.2.symm⟩
 ·have t1:=s1.2 hf;have t2:=s2.2 hf;exact⟨t1.1.trans t2.1.symm,t1.2.trans t2.2.symm⟩
theorem decPost.one {s:ByteArray}{n:Int}{e e':Ending}(h:decPost s n e)(h':decPost s n e'):e=e':=by
 rcases h with ⟨k,v,l,r,hE,rfl⟩|⟨hN,rfl⟩ <;> rcases h' with ⟨k',v',l',r',hE',rfl⟩|⟨hN',rfl⟩
 ·obtain⟨rfl,rfl,rfl,rfl⟩:=hE.one hE';rfl
 ·exact absurd hE (hN' _ _ _ _)
 ·exact absurd hE' (hN _ _ _ _)
 ·rfl
theorem dec_ex (n:Int)(s:ByteArray):∃x:ByteArray × ByteArray × ByteArray × ByteArray × Bool,decPost s n (.returned (.tuple #[nodeV x.1 x.2.1 x.2.2.1 x.2.2.2.1,.bool x.2.2.2.2])):=by
 by_cases hE:∃k v l r,IsEnc s n k v l r
 ·obtain⟨k,v,l,r,hE⟩:=hE;exact⟨(k,v,l,r,true),.inl ⟨k,v,l,r,hE,rfl⟩⟩
 ·exact⟨(⟨#[]⟩,⟨#[]⟩,⟨#[]⟩,⟨#[]⟩,false),.inr ⟨λk v l r h=>hE ⟨k,v,l,r,h⟩,rfl⟩⟩
theorem noP_small:noPair.1.size<=1048576/\noPair.2.size<=1048576:=⟨Nat.zero_le _,Nat.zero_le _⟩
theorem decOk_of {n:Int}{s k v l r:ByteArray}(h:decPost s n (.returned (.tuple #[nodeV k v l r,.bool true]))):nodeOk k.size v.size l.size r.size n=true:=by
 rcases h with ⟨k',v',l',r',hE,e⟩|⟨_,e⟩
 ·simp only[nodeV,Ending.returned.injEq,Value.tuple.injEq,Array.mk.injEq,List.cons.injEq,Value.agg.injEq,Value.string.injEq] at e;obtain⟨⟨rfl,rfl,rfl,rfl,_⟩,_⟩:=e;exact hE.1
 ·simp at e
theorem srange_any (HD:Hid DigSaid)(D:Dec)(n:Int)(HD2:Hid (∀wd:Nat,(wd:Int)=n->1<=wd->wd<=32->DecSaid 146 wd D))(hdo:∀wd:Nat,(wd:Int)=n->DecOk wd D)(a:Option Addr)(ss:List ByteArray)(c:Nat)(root lo hi:ByteArray)(w:World)(h:SArg a ss w)(hs:Hid (∀j,(ss.getD j ⟨#[]⟩).size<=1048575))(hr:root.size<=1048576)(hlo:lo.size<=1048576)(hhi:hi.size<=1048576) : Calls prog 48 #[.agg #[.int .i64 n,.slice a ss.length c],.string root,.string lo,.string hi] w (RangeAt (rangeM (fndD D n.toNat ss) n ss.length root lo hi) w):=by
 cases hp:(poolOk n ss.length && hashOk root.size n) with
 | false=>rw[rangeM_bad hp];exact srange_bad n _ ss.length c root lo hi w h.le hr hp
 | true =>
  have hp2:=(Bool.and_eq_true _ _).mp hp;have hp':1<=n/\n<=32/\ss.length<=20000:=of_decide_eq_true hp2.1;obtain⟨wd,rfl⟩:∃wd:Nat,n=(wd:Int):=⟨n.toNat,by omega⟩;rw[Int.toNat_natCast];exact srange_good HD D wd (HD2.out wd rfl (by omega) (by omega)) (hdo wd rfl) _ ss c root lo hi w h hs (by omega) (by omega) hr hlo hhi hp2.1 hp2.2
theorem proveM_code (fnd:ByteArray->FN)(n:Int)(m:Nat)(root lo hi:ByteArray)(h1:poolOk n m=true->0<=n):(rangeM fnd n m root lo hi).2=(proveM fnd n m root lo hi).2/\((rangeM fnd n m root lo hi).2 ≠ 0->(proveM fnd n m root lo hi).1=⟨#[]⟩)/\((rangeM fnd n m root lo hi).2=0->poolOk n m=true/\hashOk root.size n=true/\(goF fnd hgW lo hi 501 root ⟨#[]⟩ ⟨#[]⟩ ⟨#[]⟩ 0).1=0/\(proveM fnd n m root lo hi).1=⟨(prL fnd lo hi 501 root ⟨#[]⟩ ⟨#[]⟩).toArray⟩):=by
 unfold rangeM proveM proveX;cases hp:poolOk n m with
 | false=>refine⟨rfl,λ_=>rfl,λh=>?_⟩;simp at h
 | true =>
  have e:((n.toNat:Nat):Int)=n:=by have:=h1 hp;omega
  rw[e];cases hh:hashOk root.size n with
  | false=>refine⟨rfl,λ_=>rfl,λh=>?_⟩;simp at h
  | true =>
   simp only[Bool.and_self,if_true];by_cases h0:(goF fnd hgW lo hi 501 root ⟨#[]⟩ ⟨#[]⟩ ⟨#[]⟩ 0).1=0
   ·rw[if_pos h0,if_pos h0];exact⟨rfl,λh=>absurd rfl h,λ_=>⟨trivial,trivial,h0,rfl⟩⟩
   ·rw[if_neg h0,if_neg h0];exact⟨rfl,λ_=>rfl,λh=>absurd h h0⟩
theorem sprove_any (HD:Hid DigSaid)(D:Dec)(n:Int)(HD2:Hid (∀wd:Nat,(wd:Int)=n->1<=wd->wd<=32->DecSaid 146 wd D))(hdo:∀wd:Nat,(wd:Int)=n->DecOk wd D)(a:Option Addr)(ss:List ByteArray)(c:Nat)(root lo hi:ByteArray)(w:World)(h:SArg a ss w)(hs:Hid (∀j,(ss.getD j ⟨#[]⟩).size<=1048575))(hr:root.size<=1048576)(hlo:lo.size<=1048576)(hhi:hi.size<=1048576) : Calls prog 12 #[.agg #[.int .i64 n,.slice a ss.length c],.string root,.string lo,.string hi] w λe w'=>e=.returned (.tuple #[.string (proveM (fndD D n.toNat ss) n ss.length root lo hi).1,.int .i64 (proveM (fndD D n.toNat ss) n ss.length root lo hi).2])/\Below w.heap.size w w':=by
 have hpo:poolOk n ss.length=true->1<=n/\n<=32/\ss.length<=20000:=λhp=>of_decide_eq_true hp;obtain⟨q1,q2,q3⟩:=proveM_code (fndD D n.toNat ss) n ss.length root lo hi (λhp=>by have:=hpo hp;omega);have HR:Hid (∀w',Below w.heap.size w w'->Calls prog 48 #[.agg #[.int .i64 n,.slice a ss.length c],.string root,.string lo,.string hi] w' λe w''=>∃a' c',e=.returned (.tuple #[.slice a' (rangeM (fndD D n.toNat ss) n ss.length root lo hi).1.length c',.int .i64 (rangeM (fndD D n.toNat ss) n ss.length root lo hi).2])/\Below w'.heap.size w' w''):=λw' hb=>by
  refine(srange_any HD D n HD2 hdo a ss c root lo hi w' (h.below hb) hs hr hlo hhi).mono ?_;rintro e w'' ⟨⟨a',c',he,_⟩,hb2⟩;exact⟨a',c',he,hb2⟩
 have hA:=bA w (.cells #[.int .i64 n,.slice a ss.length c] 31);have nA:=heap_alloc_new w (.cells #[.int .i64 n,.slice a ss.length c] 31);obtain⟨RM,hRM⟩:=eX (rangeM (fndD D n.toNat ss) n ss.length root lo hi);obtain⟨PM,hPM⟩:=eX (proveM (fndD D n.toNat ss) n ss.length root lo hi);rw[hRM] at q1 q2 q3 HR;rw[hPM] at q1 q2 q3⊢;obtain⟨ga,hga⟩:=eX (w.heap.size);have nA':(w.alloc (.cells #[.int .i64 n,.slice a ss.length c] 31)).heap[ga]?=some (.cells #[.int .i64 n,.slice a ss.length c] 31):=by rw[<-hga];exact nA
 clear nA;have z0:=ZC nA' 0;have z1:=ZC nA' 1;by_cases h0:RM.2=0
 ·obtain⟨hp,hh,hg0,hX⟩:=q3 h0;obtain⟨p1,p2,p3⟩:=hpo hp;obtain⟨wd,rfl⟩:∃wd:Nat,n=(wd:Int):=⟨n.toNat,by omega⟩;rw[Int.toNat_natCast] at hg0 hX;have hsz:root.size=0\/root.size=wd:=by
   unfold hashOk at hh;rcases(Bool.or_eq_true _ _).mp hh with h|h
   ·exact .inl (of_decide_eq_true h)
   ·exact .inr (by have:=of_decide_eq_true h;omega)
  obtain⟨N,hN⟩:=eX (ss.length);have HHS:Hid (∀w',Below w.heap.size w w'->Calls prog 50 #[.agg #[.int .i64 (wd:Int),.slice a N c]] w' λe w''=>∃g c',e=.returned (.slice (some ⟨g,0,none⟩) N c')/\(∀W,Below w''.heap.size w'' W->Calls prog 49 #[.agg #[.int .i64 (wd:Int),.slice a N c],.slice (some ⟨g,0,none⟩) N c',.string root,.agg #[.string ⟨#[]⟩,.string ⟨#[]⟩],.string lo,.string hi] W λe W'=>e=.returned (.string PM.1)/\Below W.heap.size W W')/\Below w'.heap.size w' w''):=by
   intro w' hb;have hA:=h.below hb;rw[<-hN];refine(qbA HD wd a ss c w' hA hs (by omega) (by omega)).mono ?_;rintro e w'' ⟨g,c',rfl,hrow,hb2⟩;refine⟨g,c',rfl,λW hW=>?_,hb2⟩;have hA2:=hA.below hb2;have HDd:=HD2.out wd rfl (by omega) (by omega);refine(lp_all (fndD D wd ss) wd (qdz D wd ss (hdo wd rfl)) (by omega) a ss.length c g c' lo hi hlo hhi w'' (λw3 hash hb3=>?_) 501 root ⟨#[]⟩ ⟨#[]⟩ ⟨#[]⟩ 0 W (by omega) hsz hg0 hW (by decide) (by decide)).mono ?_
   ·have:=qcY D wd HDd a ss c g c' (ss.map (hashT wd)) hash w3 (hA2.below hb3) (by rw[List.length_map]) (Nat.lt_of_lt_of_le hrow.lt hb3.size) (λj hj=>by
     have e:=(hrow.below hb3).cell j hj
     rw[e,List.getElem?_map,zL,List.getElem?_eq_getElem (by rw[List.length_map];exact hj)]
     rfl)
    rw[qcv] at this;exact this
   ·rintro e W' ⟨⟨t,rfl,_,ht⟩,hb4⟩;refine⟨?_,hb4⟩;rw[hX,<-ht.out]
  have e0:Hid (PM.2=0):=(by show _=_;rw[<-q1];exact h0);have HR':Hid (∀w',Below w.heap.size w w'->Calls prog 48 #[.agg #[.int .i64 (wd:Int),.slice a N c],.string root,.string lo,.string hi] w' λe w''=>∃a' c',e=.returned (.tuple #[.slice a' RM.1.length c',.int .i64 0])/\Below w'.heap.size w' w''):=λw' hb=>by rw[<-hN,<-h0];exact HR.out w' hb
  rw[hN] at hA nA' z0 z1⊢;rw[show PM.2=0 from e0.out];have hg1:ga<(w.alloc (.cells #[.int .i64 (wd:Int),.slice a N c] 31)).heap.size:=(zG nA').1;clear HR q1 q2 q3 h0 hN hX hg0 hp hh hRM hPM h hs hsz;go_enter func12,ntmps12;go_upto_region 1 with fail;generalize w.alloc (.cells #[.int .i64 (wd:Int),.slice a N c] 31)=W at hA nA' z0 z1 hg1⊢;go_upto_region 4 with (first|(go_at_call 48;refine(HR'.out _ hA).mono ?_;rintro e w1 ⟨a',c',rfl,hb1⟩;have hw1:=hA.trans (hb1.mono hA.size);have n1:=qab hb1 nA'));clear hb1 z0 z1;have z0:w1.cell? ⟨ga,0,none⟩=some (.int .i64 (wd:Int)):=ZC n1 0;have z1:w1.cell? ⟨ga,1,none⟩=some (.slice a N c):=ZC n1 1;go_region_held3 (λW=>W.cell? ⟨ga,0,none⟩=some (.int .i64 (wd:Int))/\W.cell? ⟨ga,1,none⟩=some (.slice a N c)) (first|exact⟨z0,z1⟩|exact⟨ZC n2 0,ZC n2 1⟩|exact⟨ZC n3 0,ZC n3 1⟩) (first|(go_at_call 50;refine(HHS.out w1.drew hw1.drew).mono ?_;rintro e w2 ⟨g,c',rfl,HGG,hb2⟩;have hb2':Below w1.heap.size w1 w2:=(Below.refl w1.heap.size w1).drew.trans hb2;have n2:=qab hb2' n1;have hw2:=hw1.trans (hb2'.mono hw1.size))|(go_at_call 49;refine(HGG w2 (Below.refl _ _)).mono ?_;rintro e w3 ⟨rfl,hb3⟩;have n3:=qab hb3 n2;have hw3:=hw2.trans (hb3.mono hw2.size)));go_wp2_with fail;go_ret2;exact⟨rfl,hw3⟩
 ·have e0:=q2 h0;have HR':Hid (∀w',Below w.heap.size w w'->Calls prog 48 #[.agg #[.int .i64 n,.slice a ss.length c],.string root,.string lo,.string hi] w' λe w''=>∃a' c',e=.returned (.tuple #[.slice a' RM.1.length c',.int .i64 PM.2])/\Below w'.heap.size w' w''):=λw' hb=>by rw[<-q1];exact HR.out w' hb
  rw[q1] at h0;rw[e0];have zz:(PM.2 == 0)=false:=(by simp[h0]);clear HR q1 q2 q3 hRM hPM h hs e0;go_enter func12,ntmps12;go_wp2_with (first|(go_at_call 48;refine(HR'.out _ hA).mono ?_;rintro e w1 ⟨a',c',rfl,hb1⟩));go_ret2;exact⟨rfl,hA.trans (hb1.mono hA.size)⟩
theorem ku_app {a b:List ByteArray}(h:KeysUp (a++b)):KeysUp a/\KeysUp b/\∀x ∈ a,∀y ∈ b,lessB x y=true:=by
 induction a with
 | nil=>exact⟨trivial,h,λx hx=>by cases hx⟩
 | cons k ks ih =>
  obtain⟨h1,h2⟩:=h;obtain⟨q1,q2,q3⟩:=ih h2;refine⟨⟨λx hx=>h1 x (List.mem_append_left _ hx),q1⟩,q2,λx hx y hy=>?_⟩;rcases List.mem_cons.1 hx with rfl|hx
  ·exact h1 y (List.mem_append_right _ hy)
  ·exact q3 x hx y hy
theorem filter_no {p:PairT->Bool}{l:List PairT}(h:∀x ∈ l,p x=false):l.filter p=[]:=List.filter_eq_nil_iff.2 λx hx=>by rw[h x hx];decide
theorem qcs {p:PairT}{l:List PairT}(h:p ∈ l):p.1 ∈ keys l:=List.mem_map.2 ⟨p,h,rfl⟩
theorem ku_apart:∀ {ps:List PairT},KeysUp (keys ps)->Apart ps
 | [],_=>List.Pairwise.nil
 | x :: xs,h=>List.Pairwise.cons (λy hy e=>by have:=h.1 _ (qcs hy);rw[e,lessB_irr] at this;cases this) (ku_apart h.2)
abbrev Ub (base c:Nat):World->World->Prop:=Upd (λk=>k=c\/base<=k)
theorem isThere_any (t:Tr PairT)(f:Tr PairT->ByteArray × ByteArray)(p:Option Addr)(w:World){n0:Nat}(h:TA n0 f t p w):Calls prog 160 #[.pointer p] w λe w'=>e=.returned (.bool (someT t))/\w'=w:=by
 have hp:=h.ptr;cases t with
 | nil =>
  obtain rfl:p=none:=h;have q:(binOp .neq 115 (.pointer none) (.pointer none)).run prog w=.ok (.bool false) w:=by
   have:=qdl w;simp only[binOp] at this⊢;cases hq:(Op.equal 115 (.pointer none) (.pointer none)).run prog w <;> simp_all
  have hs:someT .nil=false:=rfl;rw[hs];clear hp hs;go_enter func160,ntmps160;go_wp2_with fail;go_ret;exact⟨rfl,rfl⟩
 | node l x r =>
  obtain⟨b,pl,pr,rfl,_,hb,_,_⟩:=h;have q:(binOp .neq 115 (.pointer (some ⟨b,0,none⟩)) (.pointer none)).run prog w=.ok (.bool true) w:=by
   have:=qcQ _ w hp;simp only[binOp] at this⊢;cases hq:(Op.equal 115 (.pointer (some ⟨b,0,none⟩)) (.pointer none)).run prog w <;> simp_all
  have hs:someT (.node l x r)=true:=rfl;rw[hs];clear hp hb hs;go_enter func160,ntmps160;go_wp2_with fail;go_ret;exact⟨rfl,rfl⟩
theorem own2_parg {w:World}{base cap:Nat}{a:Option Addr}{ps:List PairT}(h:w.ownsRow base 81 2 (.slice a ps.length cap) ps.length (flatP ps))(hs:SmallP ps):PArg a ps w:=by
 refine⟨hs.1,hs.2,λhn=>?_⟩;rcases h.2 with ⟨e,h0⟩|⟨g,cap',cur,e,hb,hg,q1,q2,q3,q4⟩
 ·omega
 ·simp only[Value.slice.injEq] at e;obtain⟨rfl,_,_⟩:=e;refine⟨g,0,rfl,(zG hg).1,λj hj=>?_⟩;obtain⟨e0,e1⟩:=qcO ps j hj;rw[<-q4] at e0 e1;rw[List.getElem?_take,if_pos (by omega)] at e0 e1;rw[Nat.zero_add];exact⟨(ZC hg _).trans (by simpa using e0),(ZC hg _).trans (by simpa using e1)⟩
theorem hitB_left (wd:Nat)(ss ad:List ByteArray)(h:ByteArray)(i:Nat)(hi:i<ss.length):hitB wd (ss++ad) h i=hitB wd ss h i:=by
 unfold hitB;rw[zL,zL,List.getElem?_append_left hi]
theorem hitB_right (wd:Nat)(ss ad:List ByteArray)(h:ByteArray)(i:Nat):hitB wd (ss++ad) h (ss.length+i)=hitB wd ad h i:=by
 unfold hitB;rw[zL,zL,List.getElem?_append_right (by omega),Nat.add_sub_cancel_left]
inductive SvR
 | go (added:List ByteArray)
 | full
 | clash (first enc:ByteArray)
def svStep (wd:Nat) (ss:List ByteArray):SvR->ByteArray->SvR
 | .go ad,e=>match firstI (hitB wd (ss++ad) (hashT wd e)) (ss.length+ad.length) with
  | some i=>if (ss++ad).getD i ⟨#[]⟩=e then .go ad else .clash ((ss++ad).getD i ⟨#[]⟩) e
  | none=>if 20000<=ss.length+ad.length then .full else .go (ad++[e])
 | r,_=>r
def svAll (wd:Nat) (ss es:List ByteArray):SvR:=es.foldl (svStep wd ss) (.go [])
theorem firstI_two (wd:Nat)(ss ad:List ByteArray)(h:ByteArray):firstI (hitB wd (ss++ad) h) (ss.length+ad.length)=match firstI (hitB wd ss h) ss.length with | some i=>some i | none=>(firstI (hitB wd ad h) ad.length).map (ss.length+·):=by
 have h1:firstI (hitB wd (ss++ad) h) ss.length=firstI (hitB wd ss h) ss.length:=qbh λj hj=>hitB_left wd ss ad h j hj;cases hf:firstI (hitB wd ss h) ss.length with
 | some i=>exact qcW (h1.trans hf) _
 | none =>
  have h0:firstI (hitB wd (ss++ad) h) ss.length=none:=h1.trans hf;have key:∀m,firstI (hitB wd (ss++ad) h) (ss.length+m)=(firstI (hitB wd ad h) m).map (ss.length+·):=λm=>by
   induction m with
   | zero=>exact h0
   | succ m ih =>
    rw[<-Nat.add_assoc,firstI,ih,firstI,hitB_right];cases firstI (hitB wd ad h) m with
    | some i=>rfl
    | none=>simp only[Option.map_none];split <;> rfl
  exact key _
theorem svAll_app (wd:Nat)(ss es:List ByteArray)(e:ByteArray):svAll wd ss (es++[e])=svStep wd ss (svAll wd ss es) e:=by
 unfold svAll;rw[List.foldl_append];rfl
def atI:Option Nat->Int
 | some i=>(i:Int)
 | none=>-1
def sameB (xs:List ByteArray) (s:ByteArray) (i:Nat):Bool:=decide (xs.getD i ⟨#[]⟩=s)
theorem l4At_any (a:Option Addr)(xs:List ByteArray)(c:Nat)(s:ByteArray)(w:World)(h:SArg a xs w) : Calls prog 81 #[.slice a xs.length c,.string s] w λe w'=>e=.returned (.int .i64 (atI (firstI (sameB xs s) xs.length)))/\Below w.heap.size w w':=by
 have hn:=h.le;obtain⟨N,hN⟩:=eX (xs.length);rw[hN] at hn⊢;have hNl:Hid (xs.length=N):=hN;clear hN;obtain⟨R,hR⟩:=eX (firstI (sameB xs s) N);rw[hR];have HR:Hid (firstI (sameB xs s) N=R):=hR;clear hR;go_enter func81,ntmps81;go_wp2_with fail;go_loopw [5] (λt wr=>∃k:Nat,k<=N/\t=.int .i64 (k:Int)/\Hid (firstI (sameB xs s) k=none)/\Below w.heap.size w wr) (λt _=>N-(intOf t).toNat)
 case atStart=>exact⟨0,Nat.zero_le _,rfl,rfl,Below.refl _ _⟩
 case round =>
  obtain⟨k,hk,rfl,hf,hbw⟩:=hrel;by_cases hlt:k<N
  ·have z1:decide ((k:Int)<(N:Int))=true:=(by simp;omega);have hx0:(0:Int)<=(k:Int):=Int.natCast_nonneg _;have hx1:(k:Int)<(N:Int):=(by omega);obtain⟨b1,off1,rfl,hbl1,hc⟩:=(h.below hbw).at_ (by rw[hNl.out];omega);have hc1:=hc k (by rw[hNl.out];exact hlt);by_cases e:xs.getD k ⟨#[]⟩=s
   ·have hs:sameB xs s k=true:=decide_eq_true e;have hr:Hid (R=some k):=by
     have h1:=qbq hf.out hs;have h2:=qcW h1 (N-(k+1));rw[show k+1+(N-(k+1))=N by omega,HR.out] at h2;exact h2
    have z2:((xs.getD k ⟨#[]⟩).toList == s.toList)=true:=(by rw[qcD,decide_eq_true e]);generalize xs.getD k ⟨#[]⟩=y at hc1 z2;clear e hs hc hf;go_wp2_with fail;go_ret;exact⟨by rw[hr.out];rfl,hbw⟩
   ·have hs:sameB xs s k=false:=decide_eq_false e;have hf2:Hid (firstI (sameB xs s) (k+1)=none):=qcA hf.out hs;have z2:((xs.getD k ⟨#[]⟩).toList == s.toList)=false:=(by rw[qcD,decide_eq_false e]);generalize xs.getD k ⟨#[]⟩=y at hc1 z2;clear e hs hc hf;go_wp2_with fail;go_roundw
    case rel=>exact⟨k+1,hlt,by go_num,hf2.out,hbw⟩
    case measure=>simp[intOf];omega
  ·obtain rfl:k=N:=by omega
   have z1:decide ((k:Int)<(k:Int))=false:=(by simp);have hr:Hid (R=none):=HR.out.symm.trans hf.out;clear hf;go_wp2_with fail;go_ret;exact⟨by rw[hr.out];rfl,hbw⟩
theorem qas {w:World}{base g n t z:Nat}{v:Value}{xs:List Value}(h:w.ownsRow base t z v n xs)(hv:v.ownBlock=some g):base<=g/\g<w.heap.size/\∃cur,w.heap[g]?=some (.cells cur t (0,0)):=by
 rcases h.2 with ⟨rfl,_⟩|⟨g',cap,cur,rfl,hb,hg,_⟩
 ·cases hv
 ·obtain rfl:g'=g:=Option.some.inj hv;exact⟨hb,(zG hg).1,cur,hg⟩
theorem qaM {w w':World}{base n t z:Nat}{v:Value}{xs:List Value}(h:w.ownsRow base t z v n xs)(hk:∀g,v.ownBlock=some g->g<w.heap.size->w'.heap[g]?=w.heap[g]?):w'.ownsRow base t z v n xs:=by
 refine⟨h.1,?_⟩;rcases h.2 with ⟨h1,h2⟩|⟨g,cap,cur,hv,hb,hg,rest⟩
 ·exact .inl ⟨h1,h2⟩
 ·exact .inr ⟨g,cap,cur,hv,hb,(hk g (by rw[hv];rfl) (zG hg).1).trans hg,rest⟩
theorem ownG_mono {w:World}{base base' n t z:Nat}{v:Value}{xs:List Value}(h:w.ownsRow base t z v n xs)(hb:base'<=base):w.ownsRow base' t z v n xs:=by
 refine⟨h.1,?_⟩;rcases h.2 with ⟨h1,h2⟩|⟨g,cap,cur,hv,hg,rest⟩
 ·exact .inl ⟨h1,h2⟩
 ·exact .inr ⟨g,cap,cur,hv,Nat.le_trans hb hg,rest⟩
theorem mem_ins' {k v:ByteArray}{x:PairT}:∀ {ps:List PairT},x ∈ ins k v ps->x=(k,v)\/x ∈ ps
 | [],h=>by simpa[ins] using h
 | p :: ps,h=>by
  rw[ins] at h
  split at h
  ·simpa using h
  ·rcases List.mem_cons.1 h with h|h
   ·exact .inr (by rw[h];exact List.mem_cons_self)
   ·rcases mem_ins' h with h|h
    ·exact .inl h
    ·exact .inr (List.mem_cons_of_mem _ h)
theorem wth_len (L:List PairT)(k v:ByteArray):(wth L k v).length<=L.length+1:=by
 have hi:∀l:List PairT,(ins k v l).length=l.length+1:=λl=>by
  induction l with
  | nil=>rfl
  | cons p l ih=>rw[ins];split <;> simp[ih]
 unfold Proofs.YtibjhkpgaaapaaaGreatDoor.wth;rw[hi];have:=qdp L k;omega
structure OwnT (w:World) (xs:List ByteArray) (a:Option Addr) (m c:Nat) (W:World):Prop where
 own:W.ownsRow w.heap.size 9 1 (.slice a m c) m (xs.map Value.string)
 bel:Below w.heap.size w W
 len:xs.length=m
theorem OwnT.below {w W W':World}{xs:List ByteArray}{a:Option Addr}{m c:Nat}(h:OwnT w xs a m c W)(hb:Below W.heap.size W W'):OwnT w xs a m c W' :=
 ⟨qaM h.own (λq _ hq=>hb.block q hq),h.bel.trans (hb.mono h.bel.size),h.len⟩
theorem OwnT.more {w W W':World}{xs:List ByteArray}{a:Option Addr}{m c m' g cap:Nat}{y:ByteArray}{o:Obj}(h:OwnT w xs a m c W)(hown:W'.ownsRow w.heap.size 9 1 (.slice (some ⟨g,0,none⟩) m' cap) m' (xs.map Value.string++[.string y]))(hgrow:(W.alloc o).grownBy W' (Value.slice a m c).ownBlock)(hm:m'=m+1):OwnT w (xs++[y]) (some ⟨g,0,none⟩) m' cap W':=by
 have ha:=h.below ((Below.refl W.heap.size W).alloc (Nat.le_refl _) o);refine⟨by rw[List.map_append];exact hown,ha.bel.grown hgrow ha.bel.size (λq hq=>(qas ha.own hq).1),by rw[List.length_append,h.len,hm];rfl⟩
theorem OwnT.up {w w1 W:World}{xs:List ByteArray}{a:Option Addr}{m c:Nat}(h:OwnT w1 xs a m c W)(hb:Below w.heap.size w w1):OwnT w xs a m c W :=
 ⟨ownG_mono h.own hb.size,hb.trans (h.bel.mono hb.size),h.len⟩
theorem takeT (xs:List ByteArray)(i:Nat)(h:i<xs.length):xs.take (i+1)=xs.take i++[xs.getD i ⟨#[]⟩]:=by
 rw[List.take_add_one,List.getElem?_eq_getElem h];simp[List.getD_eq_getElem?_getD,List.getElem?_eq_getElem h]
theorem copyPool_any (n:Int)(a:Option Addr)(xs:List ByteArray)(c:Nat)(w:World)(h:SArg a xs w) : Calls prog 80 #[.agg #[.int .i64 n,.slice a xs.length c]] w λe w'=>∃a' c',e=.returned (.agg #[.int .i64 n,.slice a' xs.length c'])/\OwnT w xs a' xs.length c' w':=by
 obtain⟨i0,hi0,hz0,hz1,hz2⟩:=qaB info9;have hn:=h.le;obtain⟨N,hN⟩:=eX (xs.length);rw[hN] at hn⊢;have hNl:Hid (xs.length=N):=hN;clear hN;have hW:Below w.heap.size w (((w.alloc (.cells #[.int .i64 n,.slice a N c] 31)).alloc (.cells #[.int .i64 0,.slice none 0 0] 31)).alloc (.cells #[] 9)):=(((Below.refl _ _).alloc (Nat.le_refl _) _).alloc (by simp) _).alloc (by simp;omega) _;have n2:=heap_alloc_new ((w.alloc (.cells #[.int .i64 n,.slice a N c] 31)).alloc (.cells #[.int .i64 0,.slice none 0 0] 31)) (.cells #[] 9);rw[World.size_alloc,World.size_alloc] at n2;have n1:((w.alloc (.cells #[.int .i64 n,.slice a N c] 31)).alloc (.cells #[.int .i64 0,.slice none 0 0] 31)).heap[w.heap.size+1]?=some (.cells #[.int .i64 0,.slice none 0 0] 31):=by
  have:=heap_alloc_new (w.alloc (.cells #[.int .i64 n,.slice a N c] 31)) (.cells #[.int .i64 0,.slice none 0 0] 31);rw[World.size_alloc] at this;exact this
 have n0:((w.alloc (.cells #[.int .i64 n,.slice a N c] 31)).alloc (.cells #[.int .i64 0,.slice none 0 0] 31)).heap[w.heap.size]?=some (.cells #[.int .i64 n,.slice a N c] 31):=(Below.heap_alloc (w.alloc (.cells #[.int .i64 n,.slice a N c] 31)) (.cells #[.int .i64 0,.slice none 0 0] 31) w.heap.size (by simp)).trans (heap_alloc_new w _);have n1':=(Below.heap_alloc ((w.alloc (.cells #[.int .i64 n,.slice a N c] 31)).alloc (.cells #[.int .i64 0,.slice none 0 0] 31)) (.cells #[] 9) (w.heap.size+1) (by simp)).trans n1;have n0':=(Below.heap_alloc ((w.alloc (.cells #[.int .i64 n,.slice a N c] 31)).alloc (.cells #[.int .i64 0,.slice none 0 0] 31)) (.cells #[] 9) w.heap.size (by simp;omega)).trans n0;have hzz:(((w.alloc (.cells #[.int .i64 n,.slice a N c] 31)).alloc (.cells #[.int .i64 0,.slice none 0 0] 31)).alloc (.cells #[] 9)).heap.size=w.heap.size+3:=by simp
 have hO:OwnT w [] (some ⟨w.heap.size+1+1,0,none⟩) 0 0 (((w.alloc (.cells #[.int .i64 n,.slice a N c] 31)).alloc (.cells #[.int .i64 0,.slice none 0 0] 31)).alloc (.cells #[] 9)):=⟨⟨rfl,.inr ⟨_,0,#[],rfl,by omega,n2,by simp⟩⟩,hW,rfl⟩;clear n0 n1 n2;go_enter func80,ntmps80;go_wp2_with fail;generalize ((w.alloc (.cells #[.int .i64 n,.slice a N c] 31)).alloc (.cells #[.int .i64 0,.slice none 0 0] 31)).alloc (.cells #[] 9)=W0 at hW n1' n0' hzz hO⊢;obtain⟨gp,hgp⟩:∃g,w.heap.size=g:=⟨_,rfl⟩;rw[hgp] at n1' n0' hzz hO
 try rw[hgp]
 have hgl:w.heap.size<=gp:=Nat.le_of_eq hgp;clear hgp hzz;go_loopw [3,4] (λt3 t4 wr=>∃k:Nat,k<=N/\t4=.int .i64 (k:Int)/\∃ (a':Option Addr) (m c':Nat),t3=.slice a' m c'/\OwnT w (xs.take k) a' m c' wr/\wr.heap[gp]?=some (.cells #[.int .i64 n,.slice a N c] 31)/\wr.heap[gp+1]?=some (.cells #[.int .i64 0,.slice none 0 0] 31)) (λ_ t4 _=>N-(intOf t4).toNat)
 case atStart=>exact⟨0,Nat.zero_le _,rfl,_,_,_,rfl,hO,n0',n1'⟩
 case round =>
  obtain⟨k,hk,rfl,a',m,c',rfl,hT,m0,m1⟩:=hrel;have p0:=ZC m0 0;have p1:=ZC m0 1;have own:=hT.own;have hbs:=hT.bel.size;by_cases hlt:k<N
  ·have z1:decide ((k:Int)<(N:Int))=true:=(by simp;omega);have hx0:(0:Int)<=(k:Int):=Int.natCast_nonneg _;have hx1:(k:Int)<(N:Int):=(by omega);obtain⟨b1,off1,rfl,hbl1,hc⟩:=(h.below hT.bel).at_ (by rw[hNl.out];omega);have hc1:=hc k (by rw[hNl.out];exact hlt);have htk:Hid (xs.take (k+1)=xs.take k++[xs.getD k ⟨#[]⟩]):=takeT xs k (by rw[hNl.out];exact hlt);have hml:m<=1048576:=(by have:=hT.len;rw[List.length_take] at this;omega);generalize xs.getD k ⟨#[]⟩=y at hc1 htk;clear hc;go_wp2_with (at_builtin;refine wpList_append_lies _ rfl (.tmp 13) (.tmp 19) 25 rfl w.heap.size 9 i0 (.string ⟨#[]⟩) 1 16 Tryz.underlying25 hi0 hz0 hz1 hz2 rfl (by decide) (.slice a' m c') m ((xs.take k).map Value.string) rfl (own.alloc _) ⟨wr.heap.size,0,none⟩ 1 1 [.string y] rfl rfl (World.news_of_block (heap_alloc_new wr _)) (by simp[Value.oneCell']) (by decide) (by unfold maxLen;omega) (by omega) (by simp;omega) (wr.heap.size+1) (by simp) ?_;intro g5 c5 w5 hown5 hgrow5 hat5 hlt5);go_roundw
   case rel =>
    have hk29:∀ (q:Nat) (cs:Array Value),wr.heap[q]?=some (.cells cs 31)->w5.heap[q]?=some (.cells cs 31):=λq cs hq=>by
     have hql:=(zG hq).1;have hqa:=(Below.heap_alloc wr (.cells #[.string y] 9) q hql).trans hq;refine(hgrow5.block q (by simp;omega) (λe=>?_)).trans hqa;obtain⟨_,_,cur,h4⟩:=qas (own.alloc (.cells #[.string y] 9)) e.symm;exact qai hqa h4 (by decide) rfl
    exact⟨k+1,hlt,by go_num,_,_,_,rfl,by rw[htk.out];exact hT.more hown5 hgrow5 rfl,hk29 _ _ m0,hk29 _ _ m1⟩
   case measure=>simp[intOf];omega
  ·obtain rfl:k=N:=by omega
   have z1:decide ((k:Int)<(k:Int))=false:=(by simp);rw[List.take_of_length_le (by rw[hNl.out];exact Nat.le_refl _)] at hT;have hl:=hT.len;rw[hNl.out] at hl;subst hl;have q0:=ZC m1 0;have q1:=ZC m1 1;have fz:∀j,wr.frozen? ⟨gp+1,j,none⟩=false:=λj=>by rw[World.frozen?,m1];rfl
   have m2:=heap_setCell_same _ (gp+1) 1 _ 31 (.slice a' k c') (heap_setCell_same _ (gp+1) 0 _ 31 (.int .i64 n) m1);have hT2:OwnT w xs a' k c' ((wr.setCell ⟨gp+1,0,none⟩ (.int .i64 n)).setCell ⟨gp+1,1,none⟩ (.slice a' k c')):=by
    have hb2:=(hT.bel.setCell (p:=⟨gp+1,0,none⟩) (by show w.heap.size<=gp+1;omega) (.int .i64 n)).setCell (p:=⟨gp+1,1,none⟩) (by show w.heap.size<=gp+1;omega) (.slice a' k c');refine⟨qaM hT.own (λq hv hq=>?_),hb2,hT.len⟩;obtain⟨_,_,cur,h4⟩:=qas hT.own hv;have hne:q ≠ gp+1:=qai h4 m1 (by decide);rw[Below.heap_setCell _ _ _ _ (by show q ≠ gp+1;exact hne),Below.heap_setCell _ _ _ _ (by show q ≠ gp+1;exact hne)]
   clear hT own;go_wp2_with fail;exact retP Tryz.results80 rfl rfl m2 ⟨a',c',rfl,hT2⟩
abbrev svV (cd n:Int) (a:Option Addr) (m c:Nat) (root x y:ByteArray):Value:=.agg #[.int .i64 cd,.int .i64 n,.slice a m c,.string root,.string x,.string y]
def SVb (gs so sa:Nat) (cd:Int) (x y:ByteArray) (w:World):Prop:=w.heap[gs]?=some (.cells #[.pointer (some ⟨so,0,none⟩),.pointer (some ⟨sa,0,none⟩),.int .i64 cd,.string x,.string y] 188)
theorem SVb.below {gs so sa:Nat}{cd:Int}{x y:ByteArray}{w w':World}(h:SVb gs so sa cd x y w)(hb:Below w.heap.size w w'):SVb gs so sa cd x y w':=(hb.block gs (zG h).1).trans h
def fst2 (wd:Nat) (ss ad:List ByteArray) (hash:ByteArray):Option ByteArray:=(firstI (hitB wd (ss++ad) hash) (ss.length+ad.length)).map λi=>(ss++ad).getD i ⟨#[]⟩
theorem fst2_old {wd:Nat}{ss ad:List ByteArray}{hash:ByteArray}{i:Nat}(h:firstI (hitB wd ss hash) ss.length=some i):fst2 wd ss ad hash=some (ss.getD i ⟨#[]⟩):=by
 unfold fst2;rw[firstI_two,h];simp only[Option.map_some,List.getD_eq_getElem?_getD,List.getElem?_append_left (qbB h)]
theorem fst2_new {wd:Nat}{ss ad:List ByteArray}{hash:ByteArray}(h:firstI (hitB wd ss hash) ss.length=none):fst2 wd ss ad hash=(firstI (hitB wd ad hash) ad.length).map λi=>ad.getD i ⟨#[]⟩:=by
 unfold fst2;rw[firstI_two,h];cases firstI (hitB wd ad hash) ad.length with
 | none=>rfl
 | some i=>simp only[Option.map_some,List.getD_eq_getElem?_getD,List.getElem?_append_right (Nat.le_add_right ..),Nat.add_sub_cancel_left]
def encO:Option ByteArray->ByteArray
 | some e=>e
 | none=>⟨#[]⟩
theorem savFirst_any (gs so sa:Nat)(cd:Int)(x y:ByteArray)(wd:Nat)(ss ad:List ByteArray)(hash:ByteArray)(w:World)(hg:SVb gs so sa cd x y w)(H1:Hid (∀w',Below w.heap.size w w'->∀fx,firstI (hitB wd ss hash) ss.length=fx->Calls prog 192 #[.pointer (some ⟨so,0,none⟩),.string hash] w' λe w''=>e=.returned (.tuple #[.string (encAt ss fx),.bool fx.isSome])/\Below w'.heap.size w' w''))(H2:Hid (∀w',Below w.heap.size w w'->∀fx,firstI (hitB wd ad hash) ad.length=fx->Calls prog 192 #[.pointer (some ⟨sa,0,none⟩),.string hash] w' λe w''=>e=.returned (.tuple #[.string (encAt ad fx),.bool fx.isSome])/\Below w'.heap.size w' w'')) : Calls prog 180 #[.pointer (some ⟨gs,0,none⟩),.string hash] w λe w'=>e=.returned (.tuple #[.string (encO (fst2 wd ss ad hash)),.bool (fst2 wd ss ad hash).isSome])/\Below w.heap.size w w':=by
 have c0:=ZC hg 0;cases hf:firstI (hitB wd ss hash) ss.length with
 | some i =>
  rw[fst2_old hf];have HA:=H1.out w (Below.refl _ _) _ hf;have e1:encAt ss (some i)=ss.getD i ⟨#[]⟩:=rfl;have e2:encO (some (ss.getD i ⟨#[]⟩))=ss.getD i ⟨#[]⟩:=rfl;rw[e1] at HA;rw[e2];have hs1:(some i).isSome=true:=rfl;have hs2:(some (ss.getD i ⟨#[]⟩)).isSome=true:=rfl;rw[hs1] at HA;rw[hs2];generalize ss.getD i ⟨#[]⟩=u at HA⊢;clear H1 H2 hf e1 e2 hs1 hs2;go_enter func180,ntmps180;go_wp2_with fail;refine HA.mono ?_;rintro e w1 ⟨rfl,hb1⟩;go_wp2_with fail;go_ret2;exact⟨rfl,hb1⟩
 | none =>
  rw[fst2_new hf];have HA:=H1.out w (Below.refl _ _) _ hf;obtain⟨fx,hfx⟩:=eX (firstI (hitB wd ad hash) ad.length);rw[hfx];have HB:Hid (∀w',Below w.heap.size w w'->Calls prog 192 #[.pointer (some ⟨sa,0,none⟩),.string hash] w' λe w''=>e=.returned (.tuple #[.string (encAt ad fx),.bool fx.isSome])/\Below w'.heap.size w' w''):=λw' hb=>H2.out w' hb fx hfx;have he:Hid (encO (fx.map λi=>ad.getD i ⟨#[]⟩)=encAt ad fx/\(fx.map λi=>ad.getD i ⟨#[]⟩).isSome=fx.isSome):=by cases fx <;> exact⟨rfl,rfl⟩
  rw[he.out.1,he.out.2];have e0:encAt ss none=⟨#[]⟩:=rfl;have e1:(none:Option Nat).isSome=false:=rfl;rw[e0,e1] at HA;generalize encAt ad fx=u at HB⊢;generalize fx.isSome=v at HB⊢;clear H1 H2 hf he hfx e0 e1;go_enter func180,ntmps180;go_wp2_with fail;refine HA.mono ?_;rintro e w1 ⟨rfl,hb1⟩;have c1:=ZC (hg.below hb1) 1;go_wp2_with fail;refine(HB.out _ hb1).mono ?_;rintro e w2 ⟨rfl,hb2⟩;go_wp2_with fail;go_ret2;exact⟨rfl,hb1.trans (hb2.mono hb1.size)⟩
end Go.Proofs.YtibjhkpgaaapaaaGreatDoor
