import Derived.Test.YtibjhkpgaaapaaaGreatDoorZibl
import Derived.Test.YtibjhkpgaaapaaaGreatDoorZibj
import Derived.Test.YtibjhkpgaaapaaaGreatDoorZibk
import Derived.Test.YtibjhkpgaaapaaaGreatDoorZian
import Derived.Test.YtibjhkpgaaapaaaGreatDoorZiak
import Derived.Test.YtibjhkpgaaapaaaGreatDoorZias
import Derived.Deep.DeepCutAuto
import Derived.Deep.CutBlock
import Derived.Deep.Cut
set_option maxRecDepth 100000
set_option maxHeartbeats 4000000
namespace Go.Proofs.YtibjhkpgaaapaaaGreatDoor
open Go.RowKit Go.Proofs.Sha Tryz
def MGot (qs:List PairT) (z:Nat) (w:World) (e:Ending) (w':World):Prop:=∃a' c',e=.returned (.tuple #[.slice a' qs.length c',.int .i64 (z:Int)])/\PArg a' qs w'/\qs.length<=c'/\Below w.heap.size w w'
theorem amap_a (a:Option Addr)(xs:List Nat)(cap p x n z:Nat)(ps:List PairT)(hS:SmP ps n)(hn:n<=14)(_hz:z<=100000)(HT:∀w,BL a xs w->Calls prog 58 #[.slice a xs.length cap,.int .i64 (p:Int),.int .i64 40] w λe w'=>e=.returned (.tuple #[.int .i64 (x:Int),.int .i64 ((p+1:Nat):Int)])/\Below w.heap.size w w')(HC:∀w,Calls prog 118 #[.slice a xs.length cap,.int .i64 8,.int .i64 1,.int .i64 14] w λe w'=>e=.returned (.int .i64 (n:Int))/\w'=w)(HM:∀w,BL a xs w->Calls prog 117 #[.slice a xs.length cap,.int .i64 ((p+1:Nat):Int),.int .i64 (n:Int)] w λe w'=>∃a' c',e=.returned (.tuple #[.slice a' ps.length c',.int .i64 (z:Int)])/\OwnP w ps a' ps.length c' w')(hx:x<35) : ∀w,BL a xs w->Calls prog 74 #[.slice a xs.length cap,.int .i64 (p:Int)] w (MGot ps z w):=by
 intro w hB;have HT':Hid (∀w',Below w.heap.size w w'->Calls prog 58 #[.slice a xs.length cap,.int .i64 (p:Int),.int .i64 40] w' λe w''=>e=.returned (.tuple #[.int .i64 (x:Int),.int .i64 ((p+1:Nat):Int)])/\Below w'.heap.size w' w''):=λw' hb=>HT w' (hB.below hb);have HM':Hid (∀w',Below w.heap.size w w'->Calls prog 117 #[.slice a xs.length cap,.int .i64 ((p+1:Nat):Int),.int .i64 (n:Int)] w' λe w''=>∃a' c',e=.returned (.tuple #[.slice a' ps.length c',.int .i64 (z:Int)])/\OwnP w' ps a' ps.length c' w''):=λw' hb=>HM w' (hB.below hb);have HC':Hid (∀w',Calls prog 118 #[.slice a xs.length cap,.int .i64 8,.int .i64 1,.int .i64 14] w' λe w''=>e=.returned (.int .i64 (n:Int))/\w''=w'):=HC;clear HT HM HC hB;have hpl:=hS.len;obtain⟨L,hLL⟩:=eX (xs.length);rw[hLL] at HT' HM' HC'⊢;obtain⟨q1,hq1⟩:∃q,p+1=q:=⟨_,rfl⟩;rw[hq1] at HT' HM';clear hq1 hLL;obtain⟨N,hN⟩:=eX (ps.length);rw[hN] at HM' hpl;go_enter func74,ntmps74;go_upto_region 3 with (first|(go_at_call 58;refine(HT'.out _ (Below.refl _ _)).mono ?_;rintro e w1 ⟨rfl,hb1⟩));go_upto_region 4 with (first|(go_at_call 118;refine(HC'.out _).mono ?_;rintro e wt ⟨rfl,hwt⟩;subst wt)|(go_at_call 117;refine(HM'.out _ hb1).mono ?_;rintro e w2 ⟨a2,c2,rfl,hO2⟩));have hbw:=hb1.trans (hO2.bel.mono hb1.size);have hle:=qaU hO2.own;have hsm:=hS.small (by omega);clear HT' HM' HC';have z35:((x:Int) == 35)=false:=by simp;omega
 have z36:((x:Int) == 36)=false:=by simp;omega
 have z37:((x:Int) == 37)=false:=by simp;omega
 have z38:((x:Int) == 38)=false:=by simp;omega
 have z39:((x:Int) == 39)=false:=by simp;omega
 clear hx;have hP:=qau hO2 hsm;have hfin:Hid (MGot ps z w (.returned (.tuple #[.slice a2 N c2,.int .i64 (z:Int)])) w2):=⟨a2,c2,by rw[hN],hP,by rw[hN];exact hle,hbw⟩;clear hP hO2 hle hsm hbw;go_wp2_with fail;go_ret2;exact hfin.out
theorem amap_b (a:Option Addr)(xs:List Nat)(cap p x n z:Nat)(ps:List PairT)(hS:SmP ps n)(hn:n<=14)(_hz:z<=100000)(HT:∀w,BL a xs w->Calls prog 58 #[.slice a xs.length cap,.int .i64 (p:Int),.int .i64 40] w λe w'=>e=.returned (.tuple #[.int .i64 (x:Int),.int .i64 ((p+1:Nat):Int)])/\Below w.heap.size w w')(HC:∀w,Calls prog 118 #[.slice a xs.length cap,.int .i64 8,.int .i64 1,.int .i64 14] w λe w'=>e=.returned (.int .i64 (n:Int))/\w'=w)(HM:∀w,BL a xs w->Calls prog 117 #[.slice a xs.length cap,.int .i64 ((p+1:Nat):Int),.int .i64 (n:Int)] w λe w'=>∃a' c',e=.returned (.tuple #[.slice a' ps.length c',.int .i64 (z:Int)])/\OwnP w ps a' ps.length c' w')(hx:x=35)(hl:ps.length<=1) : ∀w,BL a xs w->Calls prog 74 #[.slice a xs.length cap,.int .i64 (p:Int)] w (MGot ps z w):=by
 intro w hB;have HT':Hid (∀w',Below w.heap.size w w'->Calls prog 58 #[.slice a xs.length cap,.int .i64 (p:Int),.int .i64 40] w' λe w''=>e=.returned (.tuple #[.int .i64 (x:Int),.int .i64 ((p+1:Nat):Int)])/\Below w'.heap.size w' w''):=λw' hb=>HT w' (hB.below hb);have HM':Hid (∀w',Below w.heap.size w w'->Calls prog 117 #[.slice a xs.length cap,.int .i64 ((p+1:Nat):Int),.int .i64 (n:Int)] w' λe w''=>∃a' c',e=.returned (.tuple #[.slice a' ps.length c',.int .i64 (z:Int)])/\OwnP w' ps a' ps.length c' w''):=λw' hb=>HM w' (hB.below hb);have HC':Hid (∀w',Calls prog 118 #[.slice a xs.length cap,.int .i64 8,.int .i64 1,.int .i64 14] w' λe w''=>e=.returned (.int .i64 (n:Int))/\w''=w'):=HC;clear HT HM HC hB;have hpl:=hS.len;obtain⟨L,hLL⟩:=eX (xs.length);rw[hLL] at HT' HM' HC'⊢;obtain⟨q1,hq1⟩:∃q,p+1=q:=⟨_,rfl⟩;rw[hq1] at HT' HM';clear hq1 hLL;obtain⟨N,hN⟩:=eX (ps.length);rw[hN] at HM' hpl;go_enter func74,ntmps74;go_upto_region 3 with (first|(go_at_call 58;refine(HT'.out _ (Below.refl _ _)).mono ?_;rintro e w1 ⟨rfl,hb1⟩));go_upto_region 4 with (first|(go_at_call 118;refine(HC'.out _).mono ?_;rintro e wt ⟨rfl,hwt⟩;subst wt)|(go_at_call 117;refine(HM'.out _ hb1).mono ?_;rintro e w2 ⟨a2,c2,rfl,hO2⟩));have hbw:=hb1.trans (hO2.bel.mono hb1.size);have hle:=qaU hO2.own;have hsm:=hS.small (by omega);clear HT' HM' HC';have zl:decide ((1:Int)<(N:Int))=false:=by simp;omega
 have zl':decide (1<N)=false:=by simp;omega
 have z35:((x:Int) == 35)=true:=by simp;omega
 have z36:((x:Int) == 36)=false:=by simp;omega
 have z37:((x:Int) == 37)=false:=by simp;omega
 have z38:((x:Int) == 38)=false:=by simp;omega
 have z39:((x:Int) == 39)=false:=by simp;omega
 clear hx;have hP:=qau hO2 hsm;have hfin:Hid (MGot ps z w (.returned (.tuple #[.slice a2 N c2,.int .i64 (z:Int)])) w2):=⟨a2,c2,by rw[hN],hP,by rw[hN];exact hle,hbw⟩;clear hP hO2 hle hsm hbw;go_wp2_with fail;go_ret2;exact hfin.out
theorem amap_c (a:Option Addr)(xs:List Nat)(cap p x n z:Nat)(ps:List PairT)(hS:SmP ps n)(hn:n<=14)(_hz:z<=100000)(HT:∀w,BL a xs w->Calls prog 58 #[.slice a xs.length cap,.int .i64 (p:Int),.int .i64 40] w λe w'=>e=.returned (.tuple #[.int .i64 (x:Int),.int .i64 ((p+1:Nat):Int)])/\Below w.heap.size w w')(HC:∀w,Calls prog 118 #[.slice a xs.length cap,.int .i64 8,.int .i64 1,.int .i64 14] w λe w'=>e=.returned (.int .i64 (n:Int))/\w'=w)(HM:∀w,BL a xs w->Calls prog 117 #[.slice a xs.length cap,.int .i64 ((p+1:Nat):Int),.int .i64 (n:Int)] w λe w'=>∃a' c',e=.returned (.tuple #[.slice a' ps.length c',.int .i64 (z:Int)])/\OwnP w ps a' ps.length c' w')(hx:x=36)(hl:ps.length=0) : ∀w,BL a xs w->Calls prog 74 #[.slice a xs.length cap,.int .i64 (p:Int)] w (MGot ps z w):=by
 intro w hB;have HT':Hid (∀w',Below w.heap.size w w'->Calls prog 58 #[.slice a xs.length cap,.int .i64 (p:Int),.int .i64 40] w' λe w''=>e=.returned (.tuple #[.int .i64 (x:Int),.int .i64 ((p+1:Nat):Int)])/\Below w'.heap.size w' w''):=λw' hb=>HT w' (hB.below hb);have HM':Hid (∀w',Below w.heap.size w w'->Calls prog 117 #[.slice a xs.length cap,.int .i64 ((p+1:Nat):Int),.int .i64 (n:Int)] w' λe w''=>∃a' c',e=.returned (.tuple #[.slice a' ps.length c',.int .i64 (z:Int)])/\OwnP w' ps a' ps.length c' w''):=λw' hb=>HM w' (hB.below hb);have HC':Hid (∀w',Calls prog 118 #[.slice a xs.length cap,.int .i64 8,.int .i64 1,.int .i64 14] w' λe w''=>e=.returned (.int .i64 (n:Int))/\w''=w'):=HC;clear HT HM HC hB;have hpl:=hS.len;obtain⟨L,hLL⟩:=eX (xs.length);rw[hLL] at HT' HM' HC'⊢;obtain⟨q1,hq1⟩:∃q,p+1=q:=⟨_,rfl⟩;rw[hq1] at HT' HM';clear hq1 hLL;obtain⟨N,hN⟩:=eX (ps.length);rw[hN] at HM' hpl;go_enter func74,ntmps74;go_upto_region 3 with (first|(go_at_call 58;refine(HT'.out _ (Below.refl _ _)).mono ?_;rintro e w1 ⟨rfl,hb1⟩));go_upto_region 4 with (first|(go_at_call 118;refine(HC'.out _).mono ?_;rintro e wt ⟨rfl,hwt⟩;subst wt)|(go_at_call 117;refine(HM'.out _ hb1).mono ?_;rintro e w2 ⟨a2,c2,rfl,hO2⟩));have hbw:=hb1.trans (hO2.bel.mono hb1.size);have hle:=qaU hO2.own;have hsm:=hS.small (by omega);clear HT' HM' HC';have zl:decide ((0:Int)<(N:Int))=false:=by simp;omega
 have zl':decide (0<N)=false:=by simp;omega
 have z35:((x:Int) == 35)=false:=by simp;omega
 have z36:((x:Int) == 36)=true:=by simp;omega
 have z37:((x:Int) == 37)=false:=by simp;omega
 have z38:((x:Int) == 38)=false:=by simp;omega
 have z39:((x:Int) == 39)=false:=by simp;omega
 clear hx;have hP:=qau hO2 hsm;have hfin:Hid (MGot ps z w (.returned (.tuple #[.slice a2 N c2,.int .i64 (z:Int)])) w2):=⟨a2,c2,by rw[hN],hP,by rw[hN];exact hle,hbw⟩;clear hP hO2 hle hsm hbw;go_wp2_with fail;go_ret2;exact hfin.out
theorem flatP_one:∀ps:List PairT,∀u ∈ flatP ps,u.oneCell'=true
 | [],u,hu=>absurd hu List.not_mem_nil
 | p :: ps,u,hu=>by
  rcases List.mem_cons.1 hu with h|h
  ·rw[h];rfl
  ·rcases List.mem_cons.1 h with h|h
   ·rw[h];rfl
   ·exact flatP_one ps u h
theorem amap_d (a:Option Addr)(xs:List Nat)(cap p x n z:Nat)(ps:List PairT)(hS:SmP ps n)(hn:n<=14)(_hz:z<=100000)(HT:∀w,BL a xs w->Calls prog 58 #[.slice a xs.length cap,.int .i64 (p:Int),.int .i64 40] w λe w'=>e=.returned (.tuple #[.int .i64 (x:Int),.int .i64 ((p+1:Nat):Int)])/\Below w.heap.size w w')(HC:∀w,Calls prog 118 #[.slice a xs.length cap,.int .i64 8,.int .i64 1,.int .i64 14] w λe w'=>e=.returned (.int .i64 (n:Int))/\w'=w)(HM:∀w,BL a xs w->Calls prog 117 #[.slice a xs.length cap,.int .i64 ((p+1:Nat):Int),.int .i64 (n:Int)] w λe w'=>∃a' c',e=.returned (.tuple #[.slice a' ps.length c',.int .i64 (z:Int)])/\OwnP w ps a' ps.length c' w')(hx:x=36)(hl:0<ps.length) : ∀w,BL a xs w->Calls prog 74 #[.slice a xs.length cap,.int .i64 (p:Int)] w (MGot (ps++[ps.getD (ps.length-1) noPair]) z w):=by
 intro w hB;have HT':Hid (∀w',Below w.heap.size w w'->Calls prog 58 #[.slice a xs.length cap,.int .i64 (p:Int),.int .i64 40] w' λe w''=>e=.returned (.tuple #[.int .i64 (x:Int),.int .i64 ((p+1:Nat):Int)])/\Below w'.heap.size w' w''):=λw' hb=>HT w' (hB.below hb);have HM':Hid (∀w',Below w.heap.size w w'->Calls prog 117 #[.slice a xs.length cap,.int .i64 ((p+1:Nat):Int),.int .i64 (n:Int)] w' λe w''=>∃a' c',e=.returned (.tuple #[.slice a' ps.length c',.int .i64 (z:Int)])/\OwnP w' ps a' ps.length c' w''):=λw' hb=>HM w' (hB.below hb);have HC':Hid (∀w',Calls prog 118 #[.slice a xs.length cap,.int .i64 8,.int .i64 1,.int .i64 14] w' λe w''=>e=.returned (.int .i64 (n:Int))/\w''=w'):=HC;clear HT HM HC hB;have hpl:=hS.len;obtain⟨L,hLL⟩:=eX (xs.length);rw[hLL] at HT' HM' HC'⊢;obtain⟨q1,hq1⟩:∃q,p+1=q:=⟨_,rfl⟩;rw[hq1] at HT' HM';clear hq1 hLL;obtain⟨N,hN⟩:=eX (ps.length);rw[hN] at HM' hpl;go_enter func74,ntmps74;go_upto_region 3 with (first|(go_at_call 58;refine(HT'.out _ (Below.refl _ _)).mono ?_;rintro e w1 ⟨rfl,hb1⟩));go_upto_region 4 with (first|(go_at_call 118;refine(HC'.out _).mono ?_;rintro e wt ⟨rfl,hwt⟩;subst wt)|(go_at_call 117;refine(HM'.out _ hb1).mono ?_;rintro e w2 ⟨a2,c2,rfl,hO2⟩));have hbw:=hb1.trans (hO2.bel.mono hb1.size);have hle:=qaU hO2.own;have hsm:=hS.small (by omega);clear HT' HM' HC';have zl:decide ((0:Int)<(N:Int))=true:=by simp;omega
 have zl':decide (0<N)=true:=by simp;omega
 have z35:((x:Int) == 35)=false:=by simp;omega
 have z36:((x:Int) == 36)=true:=by simp;omega
 have z37:((x:Int) == 37)=false:=by simp;omega
 have z38:((x:Int) == 38)=false:=by simp;omega
 have z39:((x:Int) == 39)=false:=by simp;omega
 clear hx;obtain⟨i0,hi0,hz0,hz1,hz2⟩:=qaB info37;have hP:=qau hO2 hsm;obtain⟨b1,off1,rfl,hbl1,hc⟩:=hP.at_ (by omega);obtain⟨hc1,hc2⟩:=hc (ps.length-1) (by omega);have hsz:=hsm.2 (ps.length-1);have hsS:SmallP (ps++[ps.getD (ps.length-1) noPair]):=by
  refine qbg (by rw[List.length_append,hN];show N+1<=_;omega) (λq hq=>?_);rcases List.mem_append.1 hq with h|h
  ·have:=hS.sz q h;omega
  ·rw[List.mem_singleton.1 h];exact hsz
 obtain⟨u,hu⟩:=eX (ps.getD (ps.length-1) noPair);rw[hu] at hc1 hc2 hsS;obtain⟨k,hk⟩:=eX (N-1);rw[hN,hk] at hc1 hc2;have hk0:(0:Int)<=(k:Int):=Int.natCast_nonneg _;have hk1:(k:Int)<(N:Int):=by omega
 have yk:IntKind.i64.wrap ((N:Int)-1)=(k:Int):=by rw[qaf _ (by omega) (by omega)];omega
 obtain⟨uk,uv⟩:=u;simp only at hc1 hc2;have own:=hO2.own;have hbs:=hO2.bel.size;have hNs:N<=1048576:=by omega
 clear hP hc hsz;have hbz:=hb1.size;go_wp2_with (at_builtin;refine wpList_append_lies _ rfl (.tmp 49) (.tmp 56) 35 rfl w1.heap.size 81 i0 (.agg #[.string ⟨#[]⟩,.string ⟨#[]⟩]) 2 32 Tryz.underlying35 hi0 hz0 hz1 hz2 rfl (by decide) (.slice (some ⟨b1,off1,none⟩) N c2) N (flatP ps) rfl (own.alloc _) ⟨w2.heap.size,0,none⟩ 1 1 [.string uk,.string uv] rfl rfl (World.news_of_block (heap_alloc_new w2 _)) (by simp[Value.oneCell']) (by decide) (by unfold maxLen;omega) (by omega) (by simp;omega) (w2.heap.size+1) (by simp) ?_;intro g5 c5 w5 hown5 hgrow5 hat5 hlt5);have hM:=hO2.more (y:=(uk,uv)) hown5 hgrow5 rfl;have hl5:(ps++[(uk,uv)]).length=N+1:=by rw[List.length_append,hN];rfl
 go_ret2;rw[hu];exact⟨_,_,by rw[hl5];rfl,qau hM hsS,by rw[hl5];exact qaU hM.own,hb1.trans (hM.bel.mono hb1.size)⟩
theorem OwnP.setp {w W:World}{xs:List PairT}{b m c:Nat}(h:OwnP w xs (some ⟨b,0,none⟩) m c W)(k:Nat)(hk:k<xs.length)(x y:ByteArray):OwnP w (xs.set k (x,y)) (some ⟨b,0,none⟩) m c ((W.setCell ⟨b,k*2,none⟩ (.string x)).setCell ⟨b,k*2+1,none⟩ (.string y)):=by
 obtain⟨k1,_⟩:=h.own.stored (k*2) (.string x);obtain⟨k2,_⟩:=k1.stored (k*2+1) (.string y);have hg:=(qaI h.own (g:=b) rfl).1;refine⟨?_,(h.bel.setCell (p:=⟨b,k*2,none⟩) hg _).setCell (p:=⟨b,k*2+1,none⟩) hg _,by rw[List.length_set];exact h.len⟩;rw[flatP_set xs k x y hk] at k2;exact k2
theorem parg_one (W:World)(k v:ByteArray)(hk:k.size<=1048576)(hv:v.size<=1048576):PArg (some ⟨W.heap.size,0,none⟩) [(k,v)] (W.alloc (.cells #[.string k,.string v] 81)):=by
 refine⟨by simp,λj=>?_,λ_=>⟨W.heap.size,0,rfl,by simp,λj hj=>?_⟩⟩
 ·cases j with
  | zero=>exact⟨hk,hv⟩
  | succ j=>exact⟨Nat.zero_le _,Nat.zero_le _⟩
 ·obtain rfl:j=0:=by simpa using hj
  exact⟨ZC (heap_alloc_new W _) 0,ZC (heap_alloc_new W _) 1⟩
theorem amap_e (a:Option Addr)(xs:List Nat)(cap p x n z:Nat)(ps:List PairT)(hS:SmP ps n)(hn:n<=14)(_hz:z<=100000)(HT:∀w,BL a xs w->Calls prog 58 #[.slice a xs.length cap,.int .i64 (p:Int),.int .i64 40] w λe w'=>e=.returned (.tuple #[.int .i64 (x:Int),.int .i64 ((p+1:Nat):Int)])/\Below w.heap.size w w')(HC:∀w,Calls prog 118 #[.slice a xs.length cap,.int .i64 8,.int .i64 1,.int .i64 14] w λe w'=>e=.returned (.int .i64 (n:Int))/\w'=w)(HM:∀w,BL a xs w->Calls prog 117 #[.slice a xs.length cap,.int .i64 ((p+1:Nat):Int),.int .i64 (n:Int)] w λe w'=>∃a' c',e=.returned (.tuple #[.slice a' ps.length c',.int .i64 (z:Int)])/\OwnP w ps a' ps.length c' w')(hx:x=35)(hl:1<ps.length) : ∀w,BL a xs w->Calls prog 74 #[.slice a xs.length cap,.int .i64 (p:Int)] w (MGot ((ps.set 0 (ps.getD 1 noPair)).set 1 (ps.getD 0 noPair)) z w):=by
 intro w hB;have HT':Hid (∀w',Below w.heap.size w w'->Calls prog 58 #[.slice a xs.length cap,.int .i64 (p:Int),.int .i64 40] w' λe w''=>e=.returned (.tuple #[.int .i64 (x:Int),.int .i64 ((p+1:Nat):Int)])/\Below w'.heap.size w' w''):=λw' hb=>HT w' (hB.below hb);have HM':Hid (∀w',Below w.heap.size w w'->Calls prog 117 #[.slice a xs.length cap,.int .i64 ((p+1:Nat):Int),.int .i64 (n:Int)] w' λe w''=>∃a' c',e=.returned (.tuple #[.slice a' ps.length c',.int .i64 (z:Int)])/\OwnP w' ps a' ps.length c' w''):=λw' hb=>HM w' (hB.below hb);have HC':Hid (∀w',Calls prog 118 #[.slice a xs.length cap,.int .i64 8,.int .i64 1,.int .i64 14] w' λe w''=>e=.returned (.int .i64 (n:Int))/\w''=w'):=HC;clear HT HM HC hB;have hpl:=hS.len;obtain⟨L,hLL⟩:=eX (xs.length);rw[hLL] at HT' HM' HC'⊢;obtain⟨q1,hq1⟩:∃q,p+1=q:=⟨_,rfl⟩;rw[hq1] at HT' HM';clear hq1 hLL;obtain⟨N,hN⟩:=eX (ps.length);rw[hN] at HM' hpl;go_enter func74,ntmps74;go_upto_region 3 with (first|(go_at_call 58;refine(HT'.out _ (Below.refl _ _)).mono ?_;rintro e w1 ⟨rfl,hb1⟩));go_upto_region 4 with (first|(go_at_call 118;refine(HC'.out _).mono ?_;rintro e wt ⟨rfl,hwt⟩;subst wt)|(go_at_call 117;refine(HM'.out _ hb1).mono ?_;rintro e w2 ⟨a2,c2,rfl,hO2⟩));have hbw:=hb1.trans (hO2.bel.mono hb1.size);have hle:=qaU hO2.own;have hsm:=hS.small (by omega);clear HT' HM' HC';have zl:decide ((1:Int)<(N:Int))=true:=by simp;omega
 have zl':decide (1<N)=true:=by simp;omega
 have z35:((x:Int) == 35)=true:=by simp;omega
 have z36:((x:Int) == 36)=false:=by simp;omega
 have z37:((x:Int) == 37)=false:=by simp;omega
 have z38:((x:Int) == 38)=false:=by simp;omega
 have z39:((x:Int) == 39)=false:=by simp;omega
 clear hx;have hP:=qau hO2 hsm;rcases hO2.own.2 with ⟨_,h0⟩|⟨b1,cap',cur,e,hb,hg,w1c,w2c,w3c,w4c⟩
 ·omega
 simp only[Value.slice.injEq] at e;obtain⟨rfl,_,rfl⟩:=e;obtain⟨b2,off2,e2,hbl1,hc⟩:=hP.at_ (by omega);obtain⟨rfl,rfl⟩:b1=b2/\0=off2:=by simpa using e2
 obtain⟨hc1,hc2⟩:=hc 0 (by omega);obtain⟨hc3,hc4⟩:=hc 1 (by omega);have hs0:=hsm.2 0;have hs1:=hsm.2 1;obtain⟨u0,hu0⟩:∃u,ps.getD 0 noPair=u:=⟨_,rfl⟩;obtain⟨u1,hu1⟩:∃u,ps.getD 1 noPair=u:=⟨_,rfl⟩;rw[hu0] at hc1 hc2 hs0;rw[hu1] at hc3 hc4 hs1;obtain⟨k0,v0⟩:=u0;obtain⟨k1,v1⟩:=u1;simp only[Nat.zero_mul,Nat.zero_add,Nat.one_mul] at hc1 hc2 hc3 hc4;have own:=hO2.own;have hge:w1.heap.size<=b1:=hb;have hlen:((ps.set 0 (k1,v1)).set 1 (k0,v0)).length=N:=by rw[List.length_set,List.length_set,hN]
 have hsS:SmallP ((ps.set 0 (k1,v1)).set 1 (k0,v0)):=by
  refine qbg (by rw[hlen];omega) (λq hq=>?_);rcases List.mem_or_eq_of_mem_set hq with h|h
  ·rcases List.mem_or_eq_of_mem_set h with h|h
   ·have:=hS.sz q h;omega
   ·rw[h];exact hs1
  ·rw[h];exact hs0
 have al:=bA w2 (.cells #[.string k0,.string v0] 81);have hO3:OwnP w1 ps (some ⟨b1,0,none⟩) N c2 (w2.alloc (.cells #[.string k0,.string v0] 81)):=hO2.below al;have nX:=heap_alloc_new w2 (.cells #[.string k0,.string v0] 81);have hd1:=(al.cell (p:=⟨b1,0,none⟩) hbl1).trans hc1;have hd2:=(al.cell (p:=⟨b1,1,none⟩) hbl1).trans hc2;have hd3:=(al.cell (p:=⟨b1,2,none⟩) hbl1).trans hc3;have hd4:=(al.cell (p:=⟨b1,3,none⟩) hbl1).trans hc4;have ef:∀j,(w2.alloc (.cells #[.string k0,.string v0] 81)).frozen? ⟨b1,j,none⟩=false:=λj=>by rw[World.frozen?,(al.block b1 hbl1).trans hg];rfl
 have hbX:Below w1.heap.size w1 (w2.alloc (.cells #[.string k0,.string v0] 81)):=hO3.bel;have hbl3:b1<(w2.alloc (.cells #[.string k0,.string v0] 81)).heap.size:=Nat.lt_of_lt_of_le hbl1 al.size;have hgx:w2.heap.size ≠ b1:=by omega
 clear hP hc e2 hO2 hg w1c w2c w3c w4c hb;go_upto_region 6 with fail;generalize w2.alloc (.cells #[.string k0,.string v0] 81)=wX at hO3 nX hd1 hd2 hd3 hd4 ef hbX hbl3⊢;obtain⟨gx,hgxe⟩:∃g,w2.heap.size=g:=⟨_,rfl⟩;rw[hgxe] at nX hgx
 try rw[hgxe]
 clear hgxe al;have hO4:=hO3.setp 0 (by omega) k1 v1;simp only[Nat.zero_mul,Nat.zero_add] at hO4;have nX4:((wX.setCell ⟨b1,0,none⟩ (.string k1)).setCell ⟨b1,1,none⟩ (.string v1)).heap[gx]?=some (.cells #[.string k0,.string v0] 81):=(Below.heap_setCell _ _ _ _ (by show gx ≠ b1;exact hgx)).trans ((Below.heap_setCell _ _ _ _ (by show gx ≠ b1;exact hgx)).trans nX);go_upto_region 7 with fail;generalize (wX.setCell ⟨b1,0,none⟩ (.string k1)).setCell ⟨b1,1,none⟩ (.string v1)=wY at hO4 nX4⊢;clear hd1 hd2 hd3 hd4 ef nX hO3;have x0:=ZC nX4 0;have x1:=ZC nX4 1;obtain⟨_,_,cur',hcur⟩:=qaI hO4.own (g:=b1) rfl;have y2:=fZ hcur;have c2x:=qau hO4 (qbg (by rw[List.length_set];omega) (λq hq=>by
  rcases List.mem_or_eq_of_mem_set hq with h|h
  ·have:=hS.sz q h;omega
  ·rw[h];exact hs1))
 obtain⟨b3,off3,e3,hbl4,hcc⟩:=c2x.at_ (by rw[List.length_set];omega);obtain⟨rfl,rfl⟩:b1=b3/\0=off3:=by simpa using e3
 obtain⟨hcA,hcB⟩:=hcc 1 (by rw[List.length_set];omega);simp only[Nat.zero_add,Nat.one_mul] at hcA hcB;have hO5:=hO4.setp 1 (by rw[List.length_set];omega) k0 v0;simp only[Nat.one_mul] at hO5;have hfin:Hid (MGot ((ps.set 0 (k1,v1)).set 1 (k0,v0)) z w (.returned (.tuple #[.slice (some ⟨b1,0,none⟩) N c2,.int .i64 (z:Int)])) ((wY.setCell ⟨b1,2,none⟩ (.string k0)).setCell ⟨b1,3,none⟩ (.string v0))):=⟨_,c2,by rw[hlen],qau hO5 hsS,by rw[hlen];exact hle,hb1.trans (hO5.bel.mono hb1.size)⟩;clear hO4 hO5 hcur nX4 hcc e3 c2x hsS;go_wp2_with fail;go_ret2
 try simp only[<-List.getD_eq_getElem?_getD]
 rw[hu0,hu1];exact hfin.out
theorem amap_g (a:Option Addr)(xs:List Nat)(cap p x n z:Nat)(ps:List PairT)(hS:SmP ps n)(hn:n<=14)(hz:z<=100000)(HT:∀w,BL a xs w->Calls prog 58 #[.slice a xs.length cap,.int .i64 (p:Int),.int .i64 40] w λe w'=>e=.returned (.tuple #[.int .i64 (x:Int),.int .i64 ((p+1:Nat):Int)])/\Below w.heap.size w w')(HC:∀w,Calls prog 118 #[.slice a xs.length cap,.int .i64 8,.int .i64 1,.int .i64 14] w λe w'=>e=.returned (.int .i64 (n:Int))/\w'=w)(HM:∀w,BL a xs w->Calls prog 117 #[.slice a xs.length cap,.int .i64 ((p+1:Nat):Int),.int .i64 (n:Int)] w λe w'=>∃a' c',e=.returned (.tuple #[.slice a' ps.length c',.int .i64 (z:Int)])/\OwnP w ps a' ps.length c' w')(hx:x=38) : ∀w,BL a xs w->Calls prog 74 #[.slice a xs.length cap,.int .i64 (p:Int)] w (MGot [(reps (256+z % 2) 107,reps 2000 118)] z w):=by
 intro w hB;have HT':Hid (∀w',Below w.heap.size w w'->Calls prog 58 #[.slice a xs.length cap,.int .i64 (p:Int),.int .i64 40] w' λe w''=>e=.returned (.tuple #[.int .i64 (x:Int),.int .i64 ((p+1:Nat):Int)])/\Below w'.heap.size w' w''):=λw' hb=>HT w' (hB.below hb);have HM':Hid (∀w',Below w.heap.size w w'->Calls prog 117 #[.slice a xs.length cap,.int .i64 ((p+1:Nat):Int),.int .i64 (n:Int)] w' λe w''=>∃a' c',e=.returned (.tuple #[.slice a' ps.length c',.int .i64 (z:Int)])/\OwnP w' ps a' ps.length c' w''):=λw' hb=>HM w' (hB.below hb);have HC':Hid (∀w',Calls prog 118 #[.slice a xs.length cap,.int .i64 8,.int .i64 1,.int .i64 14] w' λe w''=>e=.returned (.int .i64 (n:Int))/\w''=w'):=HC;clear HT HM HC hB;have hpl:=hS.len;obtain⟨L,hLL⟩:=eX (xs.length);rw[hLL] at HT' HM' HC'⊢;obtain⟨q1,hq1⟩:∃q,p+1=q:=⟨_,rfl⟩;rw[hq1] at HT' HM';clear hq1 hLL;obtain⟨N,hN⟩:=eX (ps.length);rw[hN] at HM' hpl;go_enter func74,ntmps74;go_upto_region 3 with (first|(go_at_call 58;refine(HT'.out _ (Below.refl _ _)).mono ?_;rintro e w1 ⟨rfl,hb1⟩));go_upto_region 4 with (first|(go_at_call 118;refine(HC'.out _).mono ?_;rintro e wt ⟨rfl,hwt⟩;subst wt)|(go_at_call 117;refine(HM'.out _ hb1).mono ?_;rintro e w2 ⟨a2,c2,rfl,hO2⟩));have hbw:=hb1.trans (hO2.bel.mono hb1.size);have hle:=qaU hO2.own;have hsm:=hS.small (by omega);clear HT' HM' HC';have z35:((x:Int) == 35)=false:=by simp;omega
 have z36:((x:Int) == 36)=false:=by simp;omega
 have z37:((x:Int) == 37)=false:=by simp;omega
 have z38:((x:Int) == 38)=true:=by simp;omega
 have z39:((x:Int) == 39)=false:=by simp;omega
 clear hx;have ym:(z:Int).tmod 2=((z % 2:Nat):Int):=by rw[Int.tmod_eq_emod_of_nonneg (by omega)];omega
 have hm2:z % 2<2:=Nat.mod_lt _ (by omega);obtain⟨r,hr⟩:=eX (z % 2);rw[hr] at ym hm2;have HK1:Hid (∀w',Calls prog 134 #[.int .i64 ((256+r:Nat):Int),.string ⟨#[107]⟩] w' λe w''=>e=.returned (.string (reps (256+r) 107))/\Below w'.heap.size w' w''):=λw'=>long_d 107 _ (256+r) rfl (by omega) w';have HK2:Hid (∀w',Calls prog 134 #[.int .i64 2000,.string ⟨#[118]⟩] w' λe w''=>e=.returned (.string (reps 2000 118))/\Below w'.heap.size w' w''):=λw'=>long_d 118 _ 2000 rfl (by omega) w';have yk:IntKind.i64.wrap (256+(r:Int))=((256+r:Nat):Int):=by rw[qaf _ (by omega) (by omega)];omega
 obtain⟨r2,hr2⟩:=eX (256+r);rw[hr2] at yk HK1;have al:∀o w',Below w2.heap.size w2 w'->Below w2.heap.size w2 (w'.alloc o):=λo w' hb=>hb.alloc hb.size o;go_wp2_with (first|(go_at_call_of 134 (Value.int .i64 (r2:Int));refine(HK1.out _).mono ?_;rintro e w3 ⟨rfl,hb3⟩)|(go_at_call_of 134 (Value.int .i64 2000);refine(HK2.out _).mono ?_;rintro e w4 ⟨rfl,hb4⟩));have hb5:=(hbw.trans (hb3.mono hbw.size)).trans (hb4.mono (hbw.trans (hb3.mono hbw.size)).size);have hP5:=parg_one w4 (reps r2 107) (reps 2000 118) (by rw[qaS];omega) (by rw[qaS];omega);go_ret2;rw[hr,hr2];exact⟨_,_,rfl,hP5,Nat.le_refl _,hb5.alloc hb5.size _⟩
theorem amap_h (a:Option Addr)(xs:List Nat)(cap p x n z:Nat)(ps:List PairT)(hS:SmP ps n)(hn:n<=14)(hz:z<=100000)(HT:∀w,BL a xs w->Calls prog 58 #[.slice a xs.length cap,.int .i64 (p:Int),.int .i64 40] w λe w'=>e=.returned (.tuple #[.int .i64 (x:Int),.int .i64 ((p+1:Nat):Int)])/\Below w.heap.size w w')(HC:∀w,Calls prog 118 #[.slice a xs.length cap,.int .i64 8,.int .i64 1,.int .i64 14] w λe w'=>e=.returned (.int .i64 (n:Int))/\w'=w)(HM:∀w,BL a xs w->Calls prog 117 #[.slice a xs.length cap,.int .i64 ((p+1:Nat):Int),.int .i64 (n:Int)] w λe w'=>∃a' c',e=.returned (.tuple #[.slice a' ps.length c',.int .i64 (z:Int)])/\OwnP w ps a' ps.length c' w')(hx:x=39) : ∀w,BL a xs w->Calls prog 74 #[.slice a xs.length cap,.int .i64 (p:Int)] w (MGot [((⟨#[107]⟩:ByteArray),reps (2000+z % 2) 118)] z w):=by
 intro w hB;have HT':Hid (∀w',Below w.heap.size w w'->Calls prog 58 #[.slice a xs.length cap,.int .i64 (p:Int),.int .i64 40] w' λe w''=>e=.returned (.tuple #[.int .i64 (x:Int),.int .i64 ((p+1:Nat):Int)])/\Below w'.heap.size w' w''):=λw' hb=>HT w' (hB.below hb);have HM':Hid (∀w',Below w.heap.size w w'->Calls prog 117 #[.slice a xs.length cap,.int .i64 ((p+1:Nat):Int),.int .i64 (n:Int)] w' λe w''=>∃a' c',e=.returned (.tuple #[.slice a' ps.length c',.int .i64 (z:Int)])/\OwnP w' ps a' ps.length c' w''):=λw' hb=>HM w' (hB.below hb);have HC':Hid (∀w',Calls prog 118 #[.slice a xs.length cap,.int .i64 8,.int .i64 1,.int .i64 14] w' λe w''=>e=.returned (.int .i64 (n:Int))/\w''=w'):=HC;clear HT HM HC hB;have hpl:=hS.len;obtain⟨L,hLL⟩:=eX (xs.length);rw[hLL] at HT' HM' HC'⊢;obtain⟨q1,hq1⟩:∃q,p+1=q:=⟨_,rfl⟩;rw[hq1] at HT' HM';clear hq1 hLL;obtain⟨N,hN⟩:=eX (ps.length);rw[hN] at HM' hpl;go_enter func74,ntmps74;go_upto_region 3 with (first|(go_at_call 58;refine(HT'.out _ (Below.refl _ _)).mono ?_;rintro e w1 ⟨rfl,hb1⟩));go_upto_region 4 with (first|(go_at_call 118;refine(HC'.out _).mono ?_;rintro e wt ⟨rfl,hwt⟩;subst wt)|(go_at_call 117;refine(HM'.out _ hb1).mono ?_;rintro e w2 ⟨a2,c2,rfl,hO2⟩));have hbw:=hb1.trans (hO2.bel.mono hb1.size);have hle:=qaU hO2.own;have hsm:=hS.small (by omega);clear HT' HM' HC';have z35:((x:Int) == 35)=false:=by simp;omega
 have z36:((x:Int) == 36)=false:=by simp;omega
 have z37:((x:Int) == 37)=false:=by simp;omega
 have z38:((x:Int) == 38)=false:=by simp;omega
 have z39:((x:Int) == 39)=true:=by simp;omega
 clear hx;have ym:(z:Int).tmod 2=((z % 2:Nat):Int):=by rw[Int.tmod_eq_emod_of_nonneg (by omega)];omega
 have hm2:z % 2<2:=Nat.mod_lt _ (by omega);obtain⟨r,hr⟩:=eX (z % 2);rw[hr] at ym hm2;have HK1:Hid (∀w',Calls prog 134 #[.int .i64 ((2000+r:Nat):Int),.string ⟨#[118]⟩] w' λe w''=>e=.returned (.string (reps (2000+r) 118))/\Below w'.heap.size w' w''):=λw'=>long_d 118 _ (2000+r) rfl (by omega) w';have yk:IntKind.i64.wrap (2000+(r:Int))=((2000+r:Nat):Int):=by rw[qaf _ (by omega) (by omega)];omega
 obtain⟨r2,hr2⟩:=eX (2000+r);rw[hr2] at yk HK1;have al:∀o w',Below w2.heap.size w2 w'->Below w2.heap.size w2 (w'.alloc o):=λo w' hb=>hb.alloc hb.size o;go_wp2_with (first|(go_at_call 134;refine(HK1.out _).mono ?_;rintro e w3 ⟨rfl,hb3⟩));have hb5:=hbw.trans (hb3.mono hbw.size);have hP5:=parg_one w3 ⟨#[107]⟩ (reps r2 118) (by decide) (by rw[qaS];omega);go_ret2;rw[hr,hr2];exact⟨_,_,rfl,hP5,Nat.le_refl _,hb5.alloc hb5.size _⟩
theorem amap_f (a:Option Addr)(xs:List Nat)(cap p x n z:Nat)(ps:List PairT)(hS:SmP ps n)(hn:n<=14)(_hz:z<=100000)(HT:∀w,BL a xs w->Calls prog 58 #[.slice a xs.length cap,.int .i64 (p:Int),.int .i64 40] w λe w'=>e=.returned (.tuple #[.int .i64 (x:Int),.int .i64 ((p+1:Nat):Int)])/\Below w.heap.size w w')(HC:∀w,Calls prog 118 #[.slice a xs.length cap,.int .i64 8,.int .i64 1,.int .i64 14] w λe w'=>e=.returned (.int .i64 (n:Int))/\w'=w)(HM:∀w,BL a xs w->Calls prog 117 #[.slice a xs.length cap,.int .i64 ((p+1:Nat):Int),.int .i64 (n:Int)] w λe w'=>∃a' c',e=.returned (.tuple #[.slice a' ps.length c',.int .i64 (z:Int)])/\OwnP w ps a' ps.length c' w')(hx:x=37)(hl:0<ps.length) : ∀w,BL a xs w->Calls prog 74 #[.slice a xs.length cap,.int .i64 (p:Int)] w (MGot (noPair :: ps) z w):=by
 intro w hB;have HT':Hid (∀w',Below w.heap.size w w'->Calls prog 58 #[.slice a xs.length cap,.int .i64 (p:Int),.int .i64 40] w' λe w''=>e=.returned (.tuple #[.int .i64 (x:Int),.int .i64 ((p+1:Nat):Int)])/\Below w'.heap.size w' w''):=λw' hb=>HT w' (hB.below hb);have HM':Hid (∀w',Below w.heap.size w w'->Calls prog 117 #[.slice a xs.length cap,.int .i64 ((p+1:Nat):Int),.int .i64 (n:Int)] w' λe w''=>∃a' c',e=.returned (.tuple #[.slice a' ps.length c',.int .i64 (z:Int)])/\OwnP w' ps a' ps.length c' w''):=λw' hb=>HM w' (hB.below hb);have HC':Hid (∀w',Calls prog 118 #[.slice a xs.length cap,.int .i64 8,.int .i64 1,.int .i64 14] w' λe w''=>e=.returned (.int .i64 (n:Int))/\w''=w'):=HC;clear HT HM HC hB;have hpl:=hS.len;obtain⟨L,hLL⟩:=eX (xs.length);rw[hLL] at HT' HM' HC'⊢;obtain⟨q1,hq1⟩:∃q,p+1=q:=⟨_,rfl⟩;rw[hq1] at HT' HM';clear hq1 hLL;obtain⟨N,hN⟩:=eX (ps.length);rw[hN] at HM' hpl;go_enter func74,ntmps74;go_upto_region 3 with (first|(go_at_call 58;refine(HT'.out _ (Below.refl _ _)).mono ?_;rintro e w1 ⟨rfl,hb1⟩));go_upto_region 4 with (first|(go_at_call 118;refine(HC'.out _).mono ?_;rintro e wt ⟨rfl,hwt⟩;subst wt)|(go_at_call 117;refine(HM'.out _ hb1).mono ?_;rintro e w2 ⟨a2,c2,rfl,hO2⟩));have hbw:=hb1.trans (hO2.bel.mono hb1.size);have hle:=qaU hO2.own;have hsm:=hS.small (by omega);clear HT' HM' HC';have z35:((x:Int) == 35)=false:=by simp;omega
 have z36:((x:Int) == 36)=false:=by simp;omega
 have z37:((x:Int) == 37)=true:=by simp;omega
 have z38:((x:Int) == 38)=false:=by simp;omega
 have z39:((x:Int) == 39)=false:=by simp;omega
 clear hx;obtain⟨i0,hi0,hz0,hz1,hz2⟩:=qaB info37;have hP:=qau hO2 hsm;rcases hO2.own.2 with ⟨_,h0⟩|⟨b1,cap',cur,e,hb,hg,w1c,w2c,w3c,w4c⟩
 ·omega
 simp only[Value.slice.injEq] at e;obtain⟨rfl,_,rfl⟩:=e;have al:=bA w2 (.cells #[.string ⟨#[]⟩,.string ⟨#[]⟩] 81);have nX:=heap_alloc_new w2 (.cells #[.string ⟨#[]⟩,.string ⟨#[]⟩] 81);have hnews:∀ (j:Nat) u,(flatP ps)[j]?=some u->(w2.alloc (.cells #[.string ⟨#[]⟩,.string ⟨#[]⟩] 81)).cell? ((⟨b1,0,none⟩:Addr).add j)=some u:=λj u hu=>by
  rw[<-w4c] at hu;have hj:j<N*2:=by
   have:=(List.getElem?_eq_some_iff.1 hu).1;rw[List.length_take] at this;omega
  rw[List.getElem?_take,if_pos hj] at hu;rw[show (⟨b1,0,none⟩:Addr).add j=⟨b1,j,none⟩ by simp[Addr.add];omega];exact(al.cell (p:=⟨b1,j,none⟩) (zG hg).1).trans ((ZC hg _).trans (by simpa using hu))
 have hown:(w2.alloc (.cells #[.string ⟨#[]⟩,.string ⟨#[]⟩] 81)).ownsRow w2.heap.size 81 2 (.slice (some ⟨w2.heap.size,0,none⟩) 1 1) 1 (flatP [noPair]):=⟨rfl,.inr ⟨w2.heap.size,1,#[.string ⟨#[]⟩,.string ⟨#[]⟩],rfl,Nat.le_refl _,nX,by decide,by decide,rfl,rfl⟩⟩;have h1c:∀u ∈ flatP ps,u.oneCell'=true:=flatP_one ps;have hfl:(flatP ps).length=N*2:=by rw[flatP_len,hN]
 have hsS:SmallP (noPair :: ps):=qbg (by rw[List.length_cons,hN];omega) (λq hq=>by
  rcases List.mem_cons.1 hq with h|h
  ·rw[h];exact⟨Nat.zero_le _,Nat.zero_le _⟩
  ·have:=hS.sz q h;omega)
 have hNs:N<=14:=by omega
 have hNp:0<N:=by omega
 clear hP hg w1c w2c w3c w4c;go_wp2_with (at_builtin;refine wpList_append_lies _ rfl (.tmp 61) (.tmp 62) 35 rfl w2.heap.size 81 i0 (.agg #[.string ⟨#[]⟩,.string ⟨#[]⟩]) 2 32 Tryz.underlying35 hi0 hz0 hz1 hz2 rfl (by decide) (.slice (some ⟨w2.heap.size,0,none⟩) 1 1) 1 (flatP [noPair]) rfl hown ⟨b1,0,none⟩ N c2 (flatP ps) rfl hfl hnews h1c hNp (by unfold maxLen;omega) (by omega) (by simp) (w2.heap.size+1) (by simp) ?_;intro g5 c5 w5 hown5 hgrow5 hat5 hlt5);have hl5:(noPair :: ps).length=1+N:=by rw[List.length_cons,hN];omega
 have hO5:OwnP w2 (noPair :: ps) (some ⟨g5,0,none⟩) (1+N) c5 w5:=⟨hown5,al.grown hgrow5 al.size (λq hq=>by cases hq;exact Nat.le_refl _),hl5⟩;go_ret2;exact⟨_,_,by rw[hl5];rfl,qau hO5 hsS,by rw[hl5];exact qaU hO5.own,hbw.trans (hO5.bel.mono hbw.size)⟩
theorem anymap_det (a:Option Addr)(xs:List Nat)(cap p:Nat)(hX:Code8 xs)(hp:p<=60000) : ∃ (ps:List PairT) (z:Nat),(SmQ ps 15/\z<=p+43)/\∀w,BL a xs w->Calls prog 74 #[.slice a xs.length cap,.int .i64 (p:Int)] w (MGot ps z w):=by
 obtain⟨x,hx,HT⟩:=qaP a xs cap p 40 hX (by omega) (by omega) (by omega);have hL:=hX.le;obtain⟨n,hn⟩:=eX ((if 14<1+xs.length / 8 then 14 else 1+xs.length / 8));have hn1:1<=n/\n<=14:=by split at hn <;> omega
 have HC:∀w,Calls prog 118 #[.slice a xs.length cap,.int .i64 8,.int .i64 1,.int .i64 14] w λe w'=>e=.returned (.int .i64 (n:Int))/\w'=w:=λw=>by
  rw[<-hn];exact count_any a xs.length cap 8 1 14 w (by omega) hL (by omega) (by omega)
 obtain⟨ps,⟨hS,hpos⟩,HM⟩:=map1_det a xs cap (p+1) n hX (by omega) (by omega);have hp0:=hpos (by omega);have hlen:=hS.len;have hq:=hS.q;have hq15:SmQ ps 15:=⟨by omega,hq.sz⟩;have hget:∀j,(ps.getD j noPair).1.size<=300/\(ps.getD j noPair).2.size<=2001:=λj=>by
  by_cases hj:j<ps.length
  ·rw[zL,List.getElem?_eq_getElem hj];exact hq.sz _ (List.getElem_mem hj)
  ·rw[zL,List.getElem?_eq_none (by omega)];exact⟨Nat.zero_le _,Nat.zero_le _⟩
 have hm2:(p+1+3*n) % 2<2:=Nat.mod_lt _ (by omega);by_cases h1:x<35
 ·exact⟨ps,_,⟨hq15,by omega⟩,amap_a a xs cap p x n _ ps hS hn1.2 (by omega) HT HC HM h1⟩
 by_cases h2:x=35
 ·by_cases hl:ps.length<=1
  ·exact⟨ps,_,⟨hq15,by omega⟩,amap_b a xs cap p x n _ ps hS hn1.2 (by omega) HT HC HM h2 hl⟩
  ·refine⟨_,_,⟨⟨by rw[List.length_set,List.length_set];omega,λq hq'=>?_⟩,by omega⟩,amap_e a xs cap p x n _ ps hS hn1.2 (by omega) HT HC HM h2 (by omega)⟩;rcases List.mem_or_eq_of_mem_set hq' with h|h
   ·rcases List.mem_or_eq_of_mem_set h with h|h
    ·exact hq.sz q h
    ·rw[h];exact hget 1
   ·rw[h];exact hget 0
 by_cases h3:x=36
 ·refine⟨_,_,⟨⟨by rw[List.length_append];show _+1<=15;omega,λq hq'=>?_⟩,by omega⟩,amap_d a xs cap p x n _ ps hS hn1.2 (by omega) HT HC HM h3 hp0⟩;rcases List.mem_append.1 hq' with h|h
  ·exact hq.sz q h
  ·rw[List.mem_singleton.1 h];exact hget _
 by_cases h4:x=37
 ·refine⟨_,_,⟨⟨by rw[List.length_cons];omega,λq hq'=>?_⟩,by omega⟩,amap_f a xs cap p x n _ ps hS hn1.2 (by omega) HT HC HM h4 hp0⟩;rcases List.mem_cons.1 hq' with h|h
  ·rw[h];exact⟨Nat.zero_le _,Nat.zero_le _⟩
  ·exact hq.sz q h
 by_cases h5:x=38
 ·refine⟨_,_,⟨⟨by simp,λq hq'=>?_⟩,by omega⟩,amap_g a xs cap p x n _ ps hS hn1.2 (by omega) HT HC HM h5⟩;rw[List.mem_singleton.1 hq',qaS,qaS];omega
 ·refine⟨_,_,⟨⟨by simp,λq hq'=>?_⟩,by omega⟩,amap_h a xs cap p x n _ ps hS hn1.2 (by omega) HT HC HM (by omega)⟩;rw[List.mem_singleton.1 hq',qaS];exact⟨by show (⟨#[107]⟩:ByteArray).size<=300;decide,by omega⟩
theorem qdt {B gn:Nat}{a W:World}(h:Below B a W)(hg:B<=gn)(u0 u1 u2 u3:Value):Below B a ((((W.setCell ⟨gn,0,none⟩ u0).setCell ⟨gn,1,none⟩ u1).setCell ⟨gn,2,none⟩ u2).setCell ⟨gn,3,none⟩ u3) :=
 (((h.setCell (p:=⟨gn,0,none⟩) hg _).setCell (p:=⟨gn,1,none⟩) hg _).setCell (p:=⟨gn,2,none⟩) hg _).setCell (p:=⟨gn,3,none⟩) hg _
theorem byteS_size (n:Nat):(byteS n).size=1:=rfl
theorem node_set {W:World}{gn:Nat}{a0 a1 a2 a3:Value}(h:W.heap[gn]?=some (.cells #[a0,a1,a2,a3] 73))(k v l r:ByteArray):((((W.setCell ⟨gn,0,none⟩ (.string k)).setCell ⟨gn,1,none⟩ (.string v)).setCell ⟨gn,2,none⟩ (.string l)).setCell ⟨gn,3,none⟩ (.string r)).heap[gn]?=some (.cells #[.string k,.string v,.string l,.string r] 73) :=
 heap_setCell_same _ gn 3 _ 73 (.string r) (heap_setCell_same _ gn 2 _ 73 (.string l) (heap_setCell_same _ gn 1 _ 73 (.string v) (heap_setCell_same W gn 0 _ 73 (.string k) h)))
end Go.Proofs.YtibjhkpgaaapaaaGreatDoor
