import Derived.Test.YtibjhkpgaaapaaaGreatDoorZiaj
import Derived.Test.YtibjhkpgaaapaaaGreatDoorZiah
import Derived.Deep.AppendLies
import Derived.Test.YtibjhkpgaaapaaaGreatDoorZiai
import Derived.Laws.MakeOwn
import Derived.Laws.OwnMore
set_option maxRecDepth 100000
set_option maxHeartbeats 4000000
namespace Go.Proofs.YtibjhkpgaaapaaaGreatDoor
open Go.RowKit Go.Proofs.Sha Tryz
theorem root_any (m:Nat)(t:Tr PairT)(p:Option Addr)(w:World){n0:Nat}(h:TA n0 (hf m) t p w):Calls prog 131 #[.pointer p] w λe w'=>e=.returned (.string (rootT m t))/\w'=w:=by
 have hp:=h.ptr;cases t with
 | nil =>
  obtain rfl:p=none:=h;have q:=qdl w;have hr:Hid (rootT m .nil=⟨#[]⟩):=rfl;clear hp;go_enter func131,ntmps131;go_wp2_with fail;go_ret;exact⟨by rw[hr.out];rfl,rfl⟩
 | node l x r =>
  obtain⟨b,pl,pr,rfl,_,hb,_,_⟩:=h;have q:=qcQ _ w hp;have c:=hb.c38;have e:(hf m (.node l x r)).2=rootT m (.node l x r):=rfl;rw[e] at c;generalize rootT m (.node l x r)=H at c;clear hp hb e;go_enter func131,ntmps131;go_wp2_with fail;go_ret;exact⟨rfl,rfl⟩
def someT:Tr PairT->Bool
 | .nil=>false
 | .node _ _ _=>true
theorem isUn_any (t:Tr PairT)(p:Option Addr)(w:World){n0:Nat}(h:TA n0 bare t p w):Calls prog 177 #[.pointer p] w λe w'=>e=.returned (.bool (someT t))/\w'=w:=by
 have hp:=h.ptr;cases t with
 | nil =>
  obtain rfl:p=none:=h;have q:(binOp .neq 115 (.pointer none) (.pointer none)).run prog w=.ok (.bool false) w:=by
   have:=qdl w;simp only[binOp] at this⊢;cases hq:(Op.equal 115 (.pointer none) (.pointer none)).run prog w <;> simp_all
  clear hp;go_enter func177,ntmps177;go_wp2_with fail;go_ret;exact⟨rfl,rfl⟩
 | node l x r =>
  obtain⟨b,pl,pr,rfl,_,hb,_,_⟩:=h;have q:(binOp .neq 115 (.pointer (some ⟨b,0,none⟩)) (.pointer none)).run prog w=.ok (.bool true) w:=by
   have:=qcQ _ w hp;simp only[binOp] at this⊢;cases hq:(Op.equal 115 (.pointer (some ⟨b,0,none⟩)) (.pointer none)).run prog w <;> simp_all
  have c:=hb.c37;have e:(bare (.node l x r)).1=⟨#[]⟩:=rfl;rw[e] at c;clear hp hb e;go_enter func177,ntmps177;go_wp2_with fail;go_ret;exact⟨rfl,rfl⟩
theorem subs_any (b:Nat)(x:PairT)(l r:Option Addr)(e:ByteArray × ByteArray)(w:World)(h:TB b x l r e w):Calls prog 227 #[.pointer (some ⟨b,0,none⟩)] w λe w'=>e=.returned (.tuple #[.pointer l,.pointer r])/\Below w.heap.size w w':=by
 have c1:=h.c35;have c2:=h.c36;clear h;go_enter func227,ntmps227;go_wp2_with fail;go_region_held3 (λW=>W.cell? ⟨b,35,none⟩=some (.pointer l)/\W.cell? ⟨b,36,none⟩=some (.pointer r)) (exact⟨c1,c2⟩) (fail);go_wp2_with fail;go_ret2;exact⟨rfl,(Below.refl _ _).drew⟩
def KTab (w:World):Prop:=∀j,j<64->w.cell? ⟨0,j,none⟩=some (.int .u32 ((kTab.getD j 0).toNat:Int))
theorem KTab.below {w w':World}(h:KTab w)(hb:Below w.heap.size w w'):KTab w':=λj hj=>(hb.cell (World.block_lt_of_cell? w _ (h j hj))).trans (h j hj)
theorem KTab.upd {M:Nat->Prop}{w w':World}(h:KTab w)(hu:Upd M w w')(hn:¬ M 0):KTab w':=λj hj=>hu.cell (h j hj) hn
theorem TB.ne0 {b:Nat}{x:PairT}{l r:Option Addr}{e:ByteArray × ByteArray}{w:World}(h:TB b x l r e w)(hk:KTab w):0 ≠ b:=λq=>by
 subst q;have:=h.c0.symm.trans (hk 0 (by omega));simp at this
theorem addHash_any (m:Nat)(h1:1<=m)(h2:m<=32)(b:Nat)(x:PairT)(pl pr:Option Addr)(l r:Tr PairT)(e0:ByteArray × ByteArray)(w:World)(hb:TB b x pl pr e0 w){n0:Nat}(hl:TA n0 (hf m) l pl w)(hr:TA n0 (hf m) r pr w)(hx1:x.1.size<=1048576)(hx2:x.2.size<=1048576)(hk:KTab w) : Calls prog 179 #[.pointer (some ⟨b,0,none⟩),.int .i64 (m:Int)] w λe w'=>e=.returned (.tuple #[])/\TB b x pl pr (hf m (.node l x r)) w'/\Upd (λk=>k=b) w w':=by
 have HC:Hid (∀w',Below w.heap.size w w'->w'.cell? ⟨b,0,none⟩=some (.string x.1)/\w'.cell? ⟨b,1,none⟩=some (.string x.2)/\w'.cell? ⟨b,35,none⟩=some (.pointer pl)/\w'.cell? ⟨b,36,none⟩=some (.pointer pr)):=λw' h=>⟨(hb.below h (Nat.le_refl _)).c0,(hb.below h (Nat.le_refl _)).c1,(hb.below h (Nat.le_refl _)).c35,(hb.below h (Nat.le_refl _)).c36⟩;have HL:Hid (∀w',Below w.heap.size w w'->Calls prog 131 #[.pointer pl] w' λe w''=>e=.returned (.string (rootT m l))/\w''=w'):=λw' h=>root_any m l pl w' (hl.below h (Nat.le_refl _));have HR:Hid (∀w',Below w.heap.size w w'->Calls prog 131 #[.pointer pr] w' λe w''=>e=.returned (.string (rootT m r))/\w''=w'):=λw' h=>root_any m r pr w' (hr.below h (Nat.le_refl _));have hsl:=qax m h2 l;have hsr:=qax m h2 r;have HE:Hid (∀w',Calls prog 186 #[.agg #[.string x.1,.string x.2,.string (rootT m l),.string (rootT m r)],.int .i64 (m:Int)] w' λe w''=>∃t,e=.returned (.string t)/\Hid (t=encT m (.node l x r))/\Below w'.heap.size w' w''):=λw'=>enc_impl x.1 x.2 _ _ _ w' hx1 hx2 (by omega) (by omega);have HT:Hid (hf m (.node l x r)=(encT m (.node l x r),digB (encT m (.node l x r)) m)):=rfl;have hes:(encT m (.node l x r)).size<=1048576:=by
  have:=(qba x.1 x.2 (rootT m l) (rootT m r) m).1;show (encS x.1 x.2 (rootT m l) (rootT m r) m).size<=1048576;omega
 clear hsl hsr;generalize hf m (.node l x r)=F at HT⊢;generalize encT m (.node l x r)=E at HE HT hes;generalize rootT m l=A at HL HE;generalize rootT m r=C at HR HE;have HD:Hid (∀w',KTab w'->Calls prog 145 #[.string E,.int .i64 (m:Int)] w' λe w''=>e=.returned (.string (digB E m))/\Below w'.heap.size w' w''):=λw' h=>edig_any E m w' hes h1 h2 h;generalize digB E m=G at HD HT;have hne:=hb.ne0 hk;obtain⟨xk,xv⟩:=x
 dsimp only at HC HE hx1 hx2
 have HB:Hid (TB b (xk,xv) pl pr e0 w):=hb;have HKT:Hid (KTab w):=hk;clear hl hr hb hk hes hx1 hx2;have hb0:Below w.heap.size w w.drew:=(Below.refl _ _).drew;go_enter func179,ntmps179;go_upto_region 0 with fail;go_region_held3 (λW=>W.cell? ⟨b,0,none⟩=some (.string xk)/\W.cell? ⟨b,1,none⟩=some (.string xv)/\W.cell? ⟨b,35,none⟩=some (.pointer pl)/\W.cell? ⟨b,36,none⟩=some (.pointer pr)) (first|exact HC.out _ hb0|exact HC.out _ hb2|exact⟨HS3.out.c0,HS3.out.c1,HS3.out.c35,HS3.out.c36⟩) (first|(go_at_call_of 131 (Value.pointer pl);refine(HL.out _ hb0).mono ?_;rintro e w1 ⟨rfl,rfl⟩)|(go_at_call_of 131 (Value.pointer pr);refine(HR.out _ hb0).mono ?_;rintro e w1 ⟨rfl,rfl⟩)|(go_at_call 186;refine(HE.out _).mono ?_;rintro e w2 ⟨t,rfl,ht,hb2'⟩;have hb2:Below w.heap.size w w2:=hb0.trans hb2';have hB2:=HB.out.below hb2 (Nat.le_refl _);have c37:=hB2.c37;have f37:=hB2.frozen (o:=37);have HS3:Hid (TB b (xk,xv) pl pr (t,e0.2) (w2.setCell ⟨b,37,none⟩ (.string t))):=hB2.setEnc t;clear hb2'));have hU:Upd (λk=>k=b) w (w2.setCell ⟨b,37,none⟩ (.string t)):=(Upd.of_below hb2).setCell b 37 _ rfl;have hT3:TB b (xk,xv) pl pr (t,e0.2) (w2.setCell ⟨b,37,none⟩ (.string t)):=HS3.out;have hk3:=HKT.out.upd hU hne;clear HS3 f37 c37 hB2 hb2 HKT HB HC HL HR HE hb0 hne;generalize w2.setCell ⟨b,37,none⟩ (.string t)=w3 at hU hT3 hk3⊢;obtain rfl:t=E:=ht.out;have c37:=hT3.c37;have HK3:Hid (KTab w3):=hk3;clear hk3
 dsimp only at c37
 go_wp2_with (first|(go_at_call 145;refine(HD.out _ HK3.out).mono ?_;rintro e w4 ⟨rfl,hb4⟩;have hT4:=hT3.below hb4 (Nat.le_refl _);have c38:=hT4.c38;have f38:=hT4.frozen (o:=38)));go_end0;refine⟨rfl,?_,(hU.trans (Upd.of_below hb4)).setCell b 38 _ rfl⟩;rw[HT.out];exact hT4.setHash G
theorem clo_no (c:Nat)(p:Option Addr)(i:Int)(hi:i=0\/i=1)(w:World):Calls prog 178 #[.pointer p,.int .i64 i,.pointer (some ⟨c,0,none⟩)] w λe w'=>e=.returned (.bool true)/\w'=w:=by
 have hz:(i == 2)=false:=by rcases hi with rfl|rfl <;> rfl
 go_enter func178,ntmps178;go_wp2_with fail;go_ret;exact⟨rfl,rfl⟩
theorem clo_yes (m:Nat)(h1:1<=m)(h2:m<=32)(c b:Nat)(x:PairT)(pl pr:Option Addr)(l r:Tr PairT)(e0:ByteArray × ByteArray)(w:World)(hb:TB b x pl pr e0 w){n0:Nat}(hl:TA n0 (hf m) l pl w)(hr:TA n0 (hf m) r pr w)(hx1:x.1.size<=1048576)(hx2:x.2.size<=1048576)(hk:KTab w)(hc:w.cell? ⟨c,0,none⟩=some (.int .i64 (m:Int))) : Calls prog 178 #[.pointer (some ⟨b,0,none⟩),.int .i64 2,.pointer (some ⟨c,0,none⟩)] w λe w'=>e=.returned (.bool true)/\TB b x pl pr (hf m (.node l x r)) w'/\Upd (λk=>k=b) w w':=by
 have HA:=addHash_any m h1 h2 b x pl pr l r e0 w hb hl hr hx1 hx2 hk;clear hb hl hr hk hx1 hx2;go_enter func178,ntmps178;go_wp2_with (go_at_call 179;refine HA.mono ?_;rintro e w1 ⟨rfl,hT,hU⟩);go_ret;exact⟨rfl,hT,hU⟩
theorem walk_hash (m:Nat)(h1:1<=m)(h2:m<=32)(c n0:Nat):∀ (t:Tr PairT) (p:Option Addr) (bs:List Nat) (w:World),TAL n0 bare t p bs w->bs.Nodup->(∀x ∈ t.inord,x.1.size<=1048576/\x.2.size<=1048576)->KTab w->w.cell? ⟨c,0,none⟩=some (.int .i64 (m:Int)) → Calls prog 159 #[.pointer p,.func (.func 177) #[] #[],.func (.func 178) #[] #[.pointer (some ⟨c,0,none⟩)]] w λe w'=>e=.returned (.bool true)/\TAL n0 (hf m) t p bs w'/\Upd (λk=>k ∈ bs) w w':=by
 intro t
 induction t with
 | nil =>
  intro p bs w ht hnd hsz hk hc;obtain⟨rfl,rfl⟩:=ht;have HU:=isUn_any .nil none w (n0:=n0) rfl;have hs:someT .nil=false:=rfl;rw[hs] at HU;clear hs hsz hk hc hnd;go_enter func159,ntmps159;go_wp2_with (go_at_call 177;refine HU.mono ?_;rintro e w1 ⟨rfl,rfl⟩);go_ret;exact⟨rfl,⟨rfl,rfl⟩,Upd.refl _ _⟩
 | node l x r ihl ihr =>
  intro p bs w ht hnd hsz hk hc;have HU:=isUn_any (.node l x r) p w ht.ta;have hs:someT (.node l x r)=true:=rfl;rw[hs] at HU;clear hs;obtain⟨b,pl,pr,bl,br,rfl,rfl,hge,hb,hl,hr⟩:=ht;obtain⟨n1,n2,n3⟩:=List.nodup_append.1 hnd;obtain⟨n4,n5⟩:=List.nodup_cons.1 n2;have d1:b ∉ bl:=λq=>n3 b q b (by simp) rfl;have d2:∀k ∈ br,k ∉ bl:=λk hk q=>n3 k q k (by simp[hk]) rfl;have hm : ∀ w' : World, (method 427 115 (.pointer (some ⟨b, 0, none⟩)) "loop.example/s03048/impl.subtrees").run prog w' = .ok (227, .pointer (some ⟨b, 0, none⟩)) w' := fun _ => by kernel_rfl
  have H0:=λw'=>clo_no c (some ⟨b,0,none⟩) 0 (.inl rfl) w';have H1:=λw'=>clo_no c (some ⟨b,0,none⟩) 1 (.inr rfl) w';have HS:=subs_any b x pl pr _ w hb;have HL:Hid (∀w0,Below w.heap.size w w0->Calls prog 159 #[.pointer pl,.func (.func 177) #[] #[],.func (.func 178) #[] #[.pointer (some ⟨c,0,none⟩)]] w0 λe w'=>e=.returned (.bool true)/\TAL n0 (hf m) l pl bl w'/\Upd (λk=>k ∈ bl) w w'):=λw0 hb0=>by
   have u0:Upd (λ_=>False) w w0:=Upd.of_below hb0;refine(ihl pl bl w0 (hl.upd u0 (λ_ _ q=>q)) n1 (λy hy=>hsz y (by simp[Tr.inord,hy])) (hk.below hb0) (u0.cell hc id)).mono ?_;rintro e w' ⟨he,hT,hU⟩;exact⟨he,hT,(Upd.of_below hb0).trans hU⟩
  have hc0:c ∉ bl/\c ∉ br/\c ≠ b:=⟨hl.notin c hc (λs=>by simp),hr.notin c hc (λs=>by simp),λq=>by
   subst q
   have:=hb.c0.symm.trans hc
   simp at this⟩
  have hk0:0 ∉ bl/\0 ∉ br/\0 ≠ b:=⟨hl.notin 0 (hk 0 (by omega)) (λs=>by simp),hr.notin 0 (hk 0 (by omega)) (λs=>by simp),hb.ne0 hk⟩;have HR:Hid (∀w1,Upd (λk=>k ∈ bl) w w1->Calls prog 159 #[.pointer pr,.func (.func 177) #[] #[],.func (.func 178) #[] #[.pointer (some ⟨c,0,none⟩)]] w1 λe w'=>e=.returned (.bool true)/\TAL n0 (hf m) r pr br w'/\Upd (λk=>k ∈ br) w1 w'):=λw1 hu1=>ihr pr br w1 (hr.upd hu1 (λk hk q=>d2 k hk q)) n5 (λy hy=>hsz y (by simp[Tr.inord,hy])) (hk.upd hu1 hk0.1) (hu1.cell hc hc0.1);have HY:Hid (∀w1 w2,Upd (λk=>k ∈ bl) w w1->TAL n0 (hf m) l pl bl w1->Upd (λk=>k ∈ br) w1 w2->TAL n0 (hf m) r pr br w2->Calls prog 178 #[.pointer (some ⟨b,0,none⟩),.int .i64 2,.pointer (some ⟨c,0,none⟩)] w2 λe w3=>e=.returned (.bool true)/\TAL n0 (hf m) (.node l x r) (some ⟨b,0,none⟩) (bl++b :: br) w3/\Upd (λk=>k ∈ bl++b :: br) w w3):=λw1 w2 u1 t1 u2 t2=>by
   have tl2:TAL n0 (hf m) l pl bl w2:=t1.upd u2 (λk hk q=>d2 k q hk);have tb2:TB b x pl pr (bare (.node l x r)) w2:=(hb.upd u1 d1).upd u2 n4;refine(clo_yes m h1 h2 c b x pl pr l r _ w2 tb2 tl2.ta t2.ta (hsz x (by simp[Tr.inord])).1 (hsz x (by simp[Tr.inord])).2 ((hk.upd u1 hk0.1).upd u2 hk0.2.1) (u2.cell (u1.cell hc hc0.1) hc0.2.1)).mono ?_;rintro e w3 ⟨he,hT,hU⟩;refine⟨he,⟨b,pl,pr,bl,br,rfl,rfl,hge,hT,tl2.upd hU (λk hk q=>d1 (q ▸ hk)),t2.upd hU (λk hk q=>n4 (q ▸ hk))⟩,?_⟩;exact((u1.mono (λk hk=>by simp[hk])).trans (u2.mono (λk hk=>by simp[hk]))).trans (hU.mono (λk hk=>by simp[hk]))
  clear hb hl hr hk hc hnd n1 n2 n3 n4 n5 d1 d2 hc0 hk0 hsz ihl ihr;go_enter func159,ntmps159;go_wp2_with (first|(go_at_call 177;refine HU.mono ?_;rintro e w1 ⟨rfl,rfl⟩)|(go_at_call_of 178 (Value.int .i64 0);refine(H0 _).mono ?_;rintro e w1 ⟨rfl,rfl⟩)|(go_at_call_of 178 (Value.int .i64 1);refine(H1 _).mono ?_;rintro e w1 ⟨rfl,rfl⟩)|(go_at_call 227;refine HS.mono ?_;rintro e w0 ⟨rfl,hb0⟩)|(go_at_call_of 159 (Value.pointer pl);refine(HL.out _ hb0).mono ?_;rintro e w1 ⟨rfl,ht1,hu1⟩)|(go_at_call_of 159 (Value.pointer pr);refine(HR.out _ hu1).mono ?_;rintro e w2 ⟨rfl,ht2,hu2⟩)|(go_at_call_of 178 (Value.int .i64 2);refine(HY.out _ _ hu1 ht1 hu2 ht2).mono ?_;rintro e w3 ⟨rfl,ht3,hu3⟩));go_ret;exact⟨rfl,ht3,hu3⟩
def isW (n:Int):Bool:=decide (1<=n) && decide (n<=32)
theorem isW_out {n:Int}(h:isW n=true):∃m:Nat,n=(m:Int)/\1<=m/\m<=32:=by
 unfold isW at h;rw[Bool.and_eq_true,decide_eq_true_eq,decide_eq_true_eq] at h;exact⟨n.toNat,by omega,by omega,by omega⟩
theorem isW_any (n:Int)(w:World):Calls prog 94 #[.int .i64 n] w λe w'=>e=.returned (.bool (isW n))/\w'=w:=by
 unfold isW;by_cases h:1<=n
 ·have z:decide (1<=n)=true:=decide_eq_true h;rw[z,Bool.true_and];go_enter func94,ntmps94;go_wp2_with fail;go_ret;exact⟨rfl,rfl⟩
 ·have z:decide (1<=n)=false:=decide_eq_false h;rw[z,Bool.false_and];go_enter func94,ntmps94;go_wp2_with fail;go_ret;exact⟨rfl,rfl⟩
theorem isW_spec (n:Int)(w:World):Calls prog 63 #[.int .i64 n] w λe w'=>e=.returned (.bool (isW n))/\w'=w:=by
 unfold isW;by_cases h:1<=n
 ·have z:decide (1<=n)=true:=decide_eq_true h;rw[z,Bool.true_and];go_enter func63,ntmps63;go_wp2_with fail;go_ret;exact⟨rfl,rfl⟩
 ·have z:decide (1<=n)=false:=decide_eq_false h;rw[z,Bool.false_and];go_enter func63,ntmps63;go_wp2_with fail;go_ret;exact⟨rfl,rfl⟩
theorem rank_said:RankSaid KTab:=λs w hs hk=>rank_any s w hs hk
theorem addHashes_any (m:Nat)(h1:1<=m)(h2:m<=32)(n0:Nat)(t:Tr PairT)(p:Option Addr)(w:World)(ht:TA n0 bare t p w)(ha:Apart t.inord)(hsz:∀x ∈ t.inord,x.1.size<=1048576/\x.2.size<=1048576)(hk:KTab w) : Calls prog 158 #[.pointer p,.int .i64 (m:Int)] w λe w'=>e=.returned (.tuple #[])/\∃bs,TAL n0 bare t p bs w/\TAL n0 (hf m) t p bs w'/\Upd (λk=>k ∈ bs) w w':=by
 obtain⟨bs,hb⟩:=ht.list;have hbA:=bA w (.cells #[.int .i64 (m:Int)] 3);have hcA:(w.alloc (.cells #[.int .i64 (m:Int)] 3)).cell? ⟨w.heap.size,0,none⟩=some (.int .i64 (m:Int)):=ZC (heap_alloc_new w _) 0;have HW:=walk_hash m h1 h2 w.heap.size n0 t p bs _ (hb.upd (M:=λ_=>False) (Upd.of_below hbA) (λ_ _ q=>q)) (hb.nodup ha) hsz (hk.below hbA) hcA;have hmf:∀ (fn:Fn) (first cap:Array Value) (w:World),(Instr.makeFunc fn first cap).run prog w=.ok (.func fn first cap) w:=λ_ _ _ _=>rfl;have HB:Hid (TAL n0 bare t p bs w):=hb;clear ht ha hsz hk hcA hb;go_enter func158,ntmps158;go_wp2_with (go_at_call 159;refine HW.mono ?_;rintro e w1 ⟨rfl,hT,hU⟩);go_end0;exact⟨rfl,bs,HB.out,hT,(Upd.of_below hbA).trans hU⟩
def rootS (ps:List PairT) (n:Int):ByteArray:=if (isMapT ps && isW n)=true then rootT n.toNat (cutTree ps) else ⟨#[]⟩
theorem shash_any (k v l r:ByteArray)(n:Int)(w:World)(hk:k.size<=1048576)(hv:v.size<=1048576)(hl:l.size<=1048576)(hr:r.size<=1048576) : Calls prog 119 #[.agg #[.string k,.string v,.string l,.string r],.int .i64 n] w λe w'=>∃t,e=.returned (.string t)/\Hid (t=hashS k v l r n)/\Below w.heap.size w w':=by
 have hsz:=qba k v l r n;obtain⟨q,hq⟩:=eX (encS k v l r n);have HA:Hid (∀w',Calls prog 40 #[.agg #[.string k,.string v,.string l,.string r],.int .i64 n] w' λe w''=>e=.returned (.string q)/\Below w'.heap.size w' w''):=λw'=>(enc_any k v l r n w' hk hv hl hr).mono (by rintro e w'' ⟨t,rfl,HX,hb⟩;exact⟨by rw[HX.out,hq],hb⟩);have HR:Hid (hashS k v l r n=if q.size=0 then ⟨#[]⟩ else ⟨((sha (78 :: q.data.toList)).take n.toNat).toArray⟩):=by show _=_;unfold hashS;rw[hq]
 rw[hq] at hsz;clear hq hk hv hl hr;by_cases h0:q.size=0
 ·have z:((q.size:Int) == 0)=true:=(by rw[h0];rfl);go_enter func119,ntmps119;go_wp2_with (first|(go_at_call 40;refine(HA.out _).mono ?_;rintro e w1 ⟨rfl,hb1⟩));go_ret;refine⟨_,rfl,?_,((Below.refl _ w).alloc (Nat.le_refl _) _).trans (hb1.mono (by simp))⟩;show _=_;rw[HR.out,if_pos h0]
 ·have z:((q.size:Int) == 0)=false:=(by rw[beq_eq_false_iff_ne];omega);obtain⟨m,rfl⟩:=Int.eq_ofNat_of_zero_le (show 0<=n by have:=hsz.2 h0;omega);have hm:=hsz.2 h0;have HD:Hid (∀ (t:ByteArray) w',t.size<=10001->Calls prog 23 #[.string t,.int .i64 (m:Int)] w' λe w''=>e=.returned (.string ⟨((sha t.data.toList).take m).toArray⟩)/\Below w'.heap.size w' w''):=λt w' ht=>qda t m w' (by omega) (by omega) (by omega);go_enter func119,ntmps119;go_wp2_with (first|(go_at_call 40;refine(HA.out _).mono ?_;rintro e w1 ⟨rfl,hb1⟩)|(go_at_call 39;refine(text_any q _ hsz.1).mono ?_;rintro e w2 ⟨t,rfl,ht,HT,rfl⟩)|(go_at_call 23;refine(HD.out t _ ht).mono ?_;rintro e w3 ⟨rfl,hb3⟩));go_ret;have hw1:Below w.heap.size w w1:=((Below.refl _ w).alloc (Nat.le_refl _) _).trans (hb1.mono (by simp));refine⟨_,rfl,?_,hw1.trans (hb3.mono hw1.size)⟩;show _=_;rw[HR.out,if_neg h0,HT.out,Int.toNat_natCast]
def encsT (m:Nat):Tr PairT->List ByteArray
 | .nil=>[]
 | .node l x r=>encsT m l++encsT m r++[encT m (.node l x r)]
theorem qcb (m:Nat):∀t:Tr PairT,(encsT m t).length=t.size
 | .nil=>rfl
 | .node l x r=>by simp only[encsT,List.length_append,qcb m l,qcb m r,Tr.size];rfl
theorem Tr.inord_len:∀t:Tr PairT,t.inord.length=t.size
 | .nil=>rfl
 | .node l x r=>by simp only[Tr.inord,List.length_append,List.length_cons,Tr.inord_len l,Tr.inord_len r,Tr.size];omega
theorem qaW (ps:List PairT):(cutTree ps).size=ps.length:=by rw[<-Tr.inord_len,qaE]
theorem PArg.take {a:Option Addr}{ps:List PairT}{w:World}(h:PArg a ps w)(t:Nat):PArg a (ps.take t) w:=by
 have hl:(ps.take t).length<=ps.length:=by rw[List.length_take];omega
 have hg:∀j,j<(ps.take t).length->(ps.take t).getD j noPair=ps.getD j noPair:=λj hj=>by
  rw[List.length_take] at hj;rw[zL,zL,List.getElem?_take,if_pos (by omega)]
 refine⟨Nat.le_trans hl h.le,λj=>?_,λhn=>?_⟩
 ·by_cases hj:j<(ps.take t).length
  ·rw[hg j hj];exact h.sz j
  ·rw[zL,List.getElem?_eq_none (by omega)];exact⟨Nat.zero_le _,Nat.zero_le _⟩
 ·obtain⟨b,off,ha,hlt,hc⟩:=h.at_ (by omega);exact⟨b,off,ha,hlt,λj hj=>by rw[hg j hj];exact hc j (by omega)⟩
theorem PArg.drop {b off:Nat}{ps:List PairT}{w:World}(h:PArg (some ⟨b,off,none⟩) ps w)(t:Nat):PArg (some ⟨b,off+t*2,none⟩) (ps.drop t) w:=by
 have hl:(ps.drop t).length=ps.length-t:=List.length_drop;have hg:∀j,(ps.drop t).getD j noPair=ps.getD (t+j) noPair:=λj=>by
  rw[zL,zL,List.getElem?_drop]
 refine⟨by have:=h.le;omega,λj=>by rw[hg];exact h.sz _,λhn=>?_⟩;obtain⟨b',off',ha,hlt,hc⟩:=h.at_ (by omega);obtain⟨rfl,rfl⟩:b=b'/\off=off':=by simpa using ha
 refine⟨b,_,rfl,hlt,λj hj=>?_⟩;have:=hc (t+j) (by omega);rw[hg,show off+t*2+j*2=off+(t+j)*2 by omega];exact this
theorem PArg.empty (a:Option Addr)(w:World):PArg a [] w:=⟨Nat.zero_le _,λ_=>⟨Nat.zero_le _,Nat.zero_le _⟩,λh=>absurd h (Nat.lt_irrefl _)⟩
def Okp (x:PairT):Prop:=okKey x.1=true/\okVal x.2=true
def EncsAt (m:Nat) (ps:List PairT) (w:World) (e:Ending) (w':World):Prop:=∃g c,e=.returned (.tuple #[.slice (some ⟨g,0,none⟩) ps.length c,.string (rootT m (cutTree ps))])/\Row w' w.heap.size g ps.length c ((encsT m (cutTree ps)).map Value.string)/\Below w.heap.size w w'
theorem encsinfo9:(prog.info? 9).map (λi=>(i.zero,i.size,i.bytes))=some (some (.string ⟨#[]⟩),1,16):=by kernel_rfl
theorem encs_nil (m:Nat)(a:Option Addr)(c:Nat)(w:World):Calls prog 69 #[.slice a 0 c,.int .i64 (m:Int)] w (EncsAt m [] w):=by
 have hr:Row (w.alloc (.cells #[] 9)) w.heap.size w.heap.size 0 0 []:=by
  have:=Row.of_block (base:=w.heap.size) (g:=w.heap.size) (Nat.le_refl _) (heap_alloc_new w (.cells #[] 9)) 0 (Nat.zero_le _) (.inl rfl)
  simpa using this
 have hb:=bA w (.cells #[] 9);have hn:cutTree []=.nil:=by rw[cutTree];rfl
 unfold EncsAt;rw[hn];clear hn;go_enter func69,ntmps69;go_wp2_with fail;go_ret2;exact⟨w.heap.size,0,rfl,hr,hb⟩
theorem hashS_dig (k v l r:ByteArray)(m:Nat)(h1:1<=m)(h2:m<=32)(hk:okKey k=true)(hv:okVal v=true)(hl:l.size=0\/l.size=m)(hr:r.size=0\/r.size=m):hashS k v l r m=digB (encS k v l r m) m:=by
 have hok:nodeOk k.size v.size l.size r.size (m:Int)=true:=by
  unfold okKey at hk;unfold okVal at hv;rw[decide_eq_true_eq] at hk hv;unfold nodeOk hashOk;rw[Bool.and_eq_true,Bool.and_eq_true,decide_eq_true_eq];refine⟨by omega,?_,?_⟩
  ·rw[Bool.or_eq_true,decide_eq_true_eq,decide_eq_true_eq];omega
  ·rw[Bool.or_eq_true,decide_eq_true_eq,decide_eq_true_eq];omega
 have hne:¬ (encS k v l r (m:Int)).size=0:=by
  unfold encS;rw[if_pos hok];show ¬ (encL _ _ _ _).toArray.size=0;rw[List.size_toArray];simp[encL]
 unfold hashS;rw[if_neg hne];rfl
theorem encs_step (m:Nat)(h1:1<=m)(h2:m<=32)(b off:Nat)(ps:List PairT)(c:Nat)(w:World)(h:PArg (some ⟨b,off,none⟩) ps w)(hc:ps.length<=c)(h0:0<ps.length)(hok:∀x ∈ ps,Okp x)(ih:∀ (a:Option Addr) (qs:List PairT) (c':Nat) (w':World),qs.length<ps.length->(∀x ∈ qs,x ∈ ps)->qs.length<=c'->PArg a qs w'->Calls prog 69 #[.slice a qs.length c',.int .i64 (m:Int)] w' (EncsAt m qs w')) : Calls prog 69 #[.slice (some ⟨b,off,none⟩) ps.length c,.int .i64 (m:Int)] w (EncsAt m ps w):=by
 have hn:=h.le;have HT:=top_any (some ⟨b,off,none⟩) ps c w h h0;obtain⟨T,hT⟩:=eX (topTo ps (ps.length-1));have hTl:T<ps.length:=by have:=qbs ps (ps.length-1);omega
 rw[hT] at HT;have hcut:cutTree ps=.node (cutTree (ps.take T)) (ps.getD T noPair) (cutTree (ps.drop (T+1))):=by rw[cutTree,dif_pos h0,hT]
 clear hT;have l1:(ps.take T).length=T:=by rw[List.length_take];omega
 have l2:(ps.drop (T+1)).length=ps.length-(T+1):=List.length_drop;have HL:=λw' (hb:Below w.heap.size w w')=>ih (some ⟨b,off,none⟩) (ps.take T) c w' (by omega) (λx hx=>List.mem_of_mem_take hx) (by omega) ((h.below hb).take T);obtain⟨A,hA⟩:∃A:Option Addr,(if c=T+1 then some ⟨b,off,none⟩ else some ⟨b,off+(T+1)*2,none⟩)=A:=⟨_,rfl⟩;have hPA:∀w',Below w.heap.size w w'->PArg A (ps.drop (T+1)) w':=λw' hb=>by
  rw[<-hA];by_cases e:c=T+1
  ·rw[if_pos e,List.drop_of_length_le (by omega)];exact PArg.empty _ _
  ·rw[if_neg e];exact(h.below hb).drop (T+1)
 have HR:=λw' (hb:Below w.heap.size w w')=>ih A (ps.drop (T+1)) (c-(T+1)) w' (by omega) (λx hx=>List.mem_of_mem_drop hx) (by omega) (hPA w' hb);clear hPA;unfold EncsAt at HL HR⊢;rw[l1] at HL;rw[l2] at HR;obtain⟨n,hnn⟩:=eX (ps.length);have hxm:ps.getD T noPair ∈ ps:=by rw[qaF _ _ hTl];exact List.getElem_mem _
 have hx:=hok _ hxm;obtain⟨b',off',he,hbl,hcs⟩:=h.at_ h0;obtain⟨rfl,rfl⟩:b=b'/\off=off':=by simpa using he
 have hcell:=hcs T hTl;have hxsz:=h.sz T;rw[hnn] at hn hc h0 hTl HT HR⊢;clear hok ih hcs he h l1 l2;rw[hcut];generalize cutTree (ps.take T)=tl at HL⊢;generalize cutTree (ps.drop (T+1))=tr at HR⊢;generalize ps.getD T noPair=x at hx hcell hxsz⊢;obtain⟨n2,hn2⟩:=eX (n-(T+1));rw[hn2] at HR;have HL':Hid _:=HL;have HR':Hid _:=HR;clear HL HR hcut hxm hnn;have z0:((n:Int) == 0)=false:=by simp;omega
 have z1:(0:Int)<=(T:Int):=Int.natCast_nonneg _;have z2:(T:Int)<(n:Int):=by omega
 have z3:(n:Int)<=(c:Int):=by omega
 have z4:(T:Int)<=(c:Int):=by omega
 go_enter func69,ntmps69;go_upto_region 6 with (first|(go_at_call 126;refine HT.mono ?_;rintro e w1 ⟨rfl,hb1⟩)|(go_at_call_of 69 (Value.slice (some ⟨b,off,none⟩) T c);refine(HL'.out _ hb1).mono ?_;rintro e w2 ⟨g1,c1,rfl,hr1,hb2'⟩;have hb2:Below w.heap.size w w2:=hb1.trans (hb2'.mono hb1.size))|(go_at_call 69;refine(HR'.out _ hb2).mono ?_;rintro e w3 ⟨g2,c2,rfl,hr2,hb3'⟩;have hb3:Below w.heap.size w w3:=hb2.trans (hb3'.mono hb2.size)));have hr1':=hr1.below hb3';have hs1:=hb1.size;have hs2:=hb2.size;have hs3:=hb3.size;have hg1:=hr1.lt;have hg2:=hr2.ge;have hge1:=hr1.ge;have hd1:=(hb3.cell hbl).trans hcell.1;have hd2:=(hb3.cell hbl).trans hcell.2;clear hr1 hb1 hb2' hb2 HL' HR' HT hb3' hcell;obtain⟨xk,xv⟩:=x
 dsimp only at hd1 hd2 hxsz
 have HD:Hid (∀W,Below w3.heap.size w3 W->W.cell? ⟨b,off+T*2,none⟩=some (.string xk)/\W.cell? ⟨b,off+T*2+1,none⟩=some (.string xv)):=λW hW=>⟨(hW.cell (p:=⟨b,off+T*2,none⟩) (by show b<_;omega)).trans hd1,(hW.cell (p:=⟨b,off+T*2+1,none⟩) (by show b<_;omega)).trans hd2⟩;generalize hRl:rootT m tl=Rl;generalize hRr:rootT m tr=Rr;have hbA:Below w3.heap.size w3 (w3.drew.alloc (.cells #[.string ⟨#[]⟩,.string ⟨#[]⟩,.string ⟨#[]⟩,.string ⟨#[]⟩] 73)):=((Below.refl _ _).drew).alloc (Nat.le_refl _) _;have hbF:Below w3.heap.size w3 ((w3.alloc (.cells #[.string xk,.string xv,.string Rl,.string Rr] 73)).drew):=((Below.refl _ _).alloc (Nat.le_refl _) _).drew;go_region_held3 (λW=>W.cell? ⟨b,off+T*2,none⟩=some (.string xk)/\W.cell? ⟨b,off+T*2+1,none⟩=some (.string xv)) (first|exact HD.out _ (Below.refl _ _).drew|exact HD.out _ hbA|exact HD.out _ hbF) (fail);have hN4:((w3.alloc (.cells #[.string xk,.string xv,.string Rl,.string Rr] 73)).drew).heap[w3.heap.size]?=some (.cells #[.string xk,.string xv,.string Rl,.string Rr] 73):=heap_alloc_new w3 _;have hb4:Below w.heap.size w ((w3.alloc (.cells #[.string xk,.string xv,.string Rl,.string Rr] 73)).drew):=hb3.trans (hbF.mono hs3);have hR1:=(hr1'.below hbF).mono hs1;have hR2:=(hr2.below hbF).mono hs2;have hlt2:=hr2.lt;obtain⟨gn,hgn⟩:=eX (w3.heap.size);rw[hgn] at hN4 hlt2⊢;clear hbF hbA HD hd1 hd2 hr1' hr2;generalize (w3.alloc (.cells #[.string xk,.string xv,.string Rl,.string Rr] 73)).drew=w4 at hN4 hb4 hR1 hR2⊢;have hgne:g1 ≠ g2/\g1 ≠ gn:=⟨by omega,by omega⟩;have hRl':Hid (rootT m tl=Rl):=hRl;have hRr':Hid (rootT m tr=Rr):=hRr;have hw3:w.heap.size<=gn:=by omega
 clear hRl hRr hgn hs1 hs2 hs3 hge1 hg2 hb3 hA;obtain⟨i0,hi0,hz0,hz1,hz2⟩:=info_parts encsinfo9;obtain⟨E1,hE1⟩:=eX (encsT m tl);obtain⟨E2,hE2⟩:=eX (encsT m tr);have hE1':Hid (encsT m tl=E1):=hE1;have hE2':Hid (encsT m tr=E2):=hE2;rw[hE1] at hR1;rw[hE2] at hR2;have hl2:Hid (E2.length=n2):=by have:=hR2.len;rw[List.length_map] at this;exact this
 have hn2':n2<=1048576:=by omega
 have hT2:T<=1048576:=by omega
 have hnT:Hid (n=T+n2+1):=by show n=_;omega
 clear hE1 hE2 hn2;go_upto_region 7 with fail;go_wp2_with fail;go_loopw [7,12] (λt7 t12 wr=>∃k g c':Nat,k<=n2/\t12=.int .i64 (k:Int)/\t7=.slice (some ⟨g,0,none⟩) (T+k) c'/\Row wr w.heap.size g (T+k) c' ((E1++E2.take k).map Value.string)/\Row wr w.heap.size g2 n2 c2 (E2.map Value.string)/\wr.heap[gn]?=some (.cells #[.string xk,.string xv,.string Rl,.string Rr] 73)/\(g ≠ g2/\g ≠ gn)/\Below w.heap.size w wr) (λ_ t12 _=>n2-(intOf t12).toNat)
 case atStart=>exact⟨0,g1,c1,Nat.zero_le _,rfl,rfl,by rw[List.take_zero,List.append_nil];exact hR1,hR2,hN4,hgne,hb4⟩
 case round =>
  clear hR1 hR2 hN4 hgne hb4;obtain⟨k,g,c',hk,rfl,rfl,hrow,hrow2,hnb,hne,hbw⟩:=hrel;have hgl:=hrow.ge;have hglt:=hrow.lt;have hg2lt:=hrow2.lt;have hnlt:gn<wr.heap.size:=(zG hnb).1;by_cases hlt:k<n2
  ·have y1:decide ((k:Int)<(n2:Int))=true:=(by simp;omega);have hx0:(0:Int)<=(k:Int):=Int.natCast_nonneg _;have hx1:(k:Int)<(n2:Int):=(by omega);have hkl:k<E2.length:=(by rw[hl2.out];exact hlt);obtain⟨y,hy⟩:=eX (E2[k]);have hcx:wr.cell? ⟨g2,k,none⟩=some (.string y):=(by rw[hrow2.cell k hlt,List.getElem?_map,List.getElem?_eq_getElem hkl,hy];rfl);have hstep:Hid ((E1++E2.take (k+1)).map Value.string=(E1++E2.take k).map Value.string++[.string y]):=by
    show _=_;rw[List.take_succ_eq_append_getElem hkl,hy];simp
   clear hkl hy;generalize (E1++E2.take k).map Value.string=L at hrow hstep;go_wp2_with (first|(at_builtin;refine qaH _ rfl (.tmp 55) (.tmp 60) 25 rfl 9 i0 (.string ⟨#[]⟩) 16 Tryz.underlying25 hi0 hz0 hz1 hz2 rfl w.heap.size g (T+k) c' L rfl (hrow.alloc _) ⟨wr.heap.size,0,none⟩ 1 1 [.string y] rfl rfl (World.news_of_block (heap_alloc_new wr _)) (by simp[Value.oneCell']) (by unfold maxLen;omega) (by omega) (by simp;omega) (wr.heap.size+1) (by simp) ?_;intro g5 c5 w5 hrow5 hgrow5 hg5 hkeep5));have hgw:wr.grownBy w5 (some g):=qad (World.grownBy_alloc _ _ _) hgrow5;have hnb5:w5.heap[gn]?=some (.cells #[.string xk,.string xv,.string Rl,.string Rr] 73):=(hgw.block gn hnlt (by simp;omega)).trans hnb;have hrow25:=hrow2.kept hgw (by simp;omega);have hbw5:Below w.heap.size w w5:=hbw.trans (qah hgw hgl hbw.size);go_roundw
   case rel=>exact⟨k+1,g5,c5,hlt,by go_num,rfl,by rw[hstep.out];exact hrow5,hrow25,hnb5,⟨by rcases hg5 with q|q <;> omega,by rcases hg5 with q|q <;> omega⟩,hbw5⟩
   case measure=>simp[intOf];omega
  ·obtain rfl:k=n2:=by omega
   have y1:decide ((k:Int)<(k:Int))=false:=(by simp);have htk:E2.take k=E2:=List.take_of_length_le (by rw[hl2.out];exact Nat.le_refl _);rw[htk] at hrow;have hEn:encT m (.node tl (xk,xv) tr)=encS xk xv Rl Rr m:=(by rw[<-hRl'.out,<-hRr'.out];rfl);have hRn:rootT m (.node tl (xk,xv) tr)=hashS xk xv Rl Rr m:=by
    have e:rootT m (.node tl (xk,xv) tr)=digB (encS xk xv Rl Rr m) m:=(by rw[<-hRl'.out,<-hRr'.out];rfl);rw[e];exact(hashS_dig xk xv Rl Rr m h1 h2 hx.1 hx.2 (by rw[<-hRl'.out];exact qax m h2 tl) (by rw[<-hRr'.out];exact qax m h2 tr)).symm
   have hfin:Hid ((encsT m (.node tl (xk,xv) tr)).map Value.string=(E1++E2).map Value.string++[.string (encT m (.node tl (xk,xv) tr))]):=by
    show _=_;rw[encsT,hE1'.out,hE2'.out];simp
   have hsl:Rl.size<=1048576:=(by have:=qax m h2 tl;rw[hRl'.out] at this;omega);have hsr:Rr.size<=1048576:=(by have:=qax m h2 tr;rw[hRr'.out] at this;omega);have HE:=λw'=>enc_any xk xv Rl Rr (m:Int) w' hxsz.1 hxsz.2 hsl hsr;have HH:=λw'=>shash_any xk xv Rl Rr (m:Int) w' hxsz.1 hxsz.2 hsl hsr;rw[<-hEn] at HE;rw[<-hRn] at HH;unfold nodeV at HE;clear hEn hRn hsl hsr hRl' hRr' hE1' hE2' hl2 htk hx hxsz;generalize encT m (.node tl (xk,xv) tr)=En at HE hfin;obtain⟨Rn,hRn⟩:=eX (rootT m (.node tl (xk,xv) tr));rw[hRn] at HH;have HRn:Hid (rootT m (.node tl (xk,xv) tr)=Rn):=hRn;clear hRn;generalize (E1++E2).map Value.string=L at hrow hfin
   replace HE:Hid _:=HE
   replace HH:Hid _:=HH
   have HN:Hid (∀W:World,W.heap[gn]?=some (.cells #[.string xk,.string xv,.string Rl,.string Rr] 73)->W.cell? ⟨gn,0,none⟩=some (.string xk)/\W.cell? ⟨gn,1,none⟩=some (.string xv)/\W.cell? ⟨gn,2,none⟩=some (.string Rl)/\W.cell? ⟨gn,3,none⟩=some (.string Rr)):=λW hW=>⟨ZC hW 0,ZC hW 1,ZC hW 2,ZC hW 3⟩;go_upto_region 11 with fail;go_region_held3 (λW=>W.cell? ⟨gn,0,none⟩=some (.string xk)/\W.cell? ⟨gn,1,none⟩=some (.string xv)/\W.cell? ⟨gn,2,none⟩=some (.string Rl)/\W.cell? ⟨gn,3,none⟩=some (.string Rr)) (first|exact HN.out _ hnb|exact HN.out _ hN5|exact HN.out _ hN5a|exact HN.out _ hN6|exact HN.out _ hN7) (first|(go_at_call 40;refine(HE.out _).mono ?_;rintro e w5 ⟨t,rfl,ht,hb5'⟩;have hb5:Below wr.heap.size wr w5:=(Below.refl wr.heap.size wr).drew.trans hb5';have hN5:=(hb5.block gn hnlt).trans hnb;have hrow5:=hrow.below hb5;have hN5a:(w5.alloc (.cells #[.string t] 9)).heap[gn]?=_:=(Below.heap_alloc w5 _ gn (by have:=hb5.size;omega)).trans hN5)|(refine qbn _ (by rfl) (.tmp 62) (.tmp 66) 25 (by rfl) 9 i0 (.string ⟨#[]⟩) 16 Tryz.underlying25 hi0 hz0 hz1 hz2 (by rfl) w.heap.size g (T+k) c' L (by rfl) (hrow5.alloc _) ⟨w5.heap.size,0,none⟩ 1 1 [.string t] (by rfl) rfl (World.news_of_block (heap_alloc_new w5 _)) (by simp[Value.oneCell']) (by unfold maxLen;omega) (by omega) (by simp;have:=hb5.size;omega) (w5.heap.size+1) (by simp) ?_;intro g6 c6 w6 hrow6 hgrow6 hg6 hkeep6;have hN6:=(hgrow6.block gn (by simp;have:=hb5.size;omega) (by simp;omega)).trans hN5a)|(go_at_call 119;refine(HH.out _).mono ?_;rintro e w7 ⟨t2,rfl,ht2,hb7⟩;have hN7:=(hb7.block gn (zG hN6).1).trans hN6));have hb6:Below w.heap.size w w6:=(hbw.trans (hb5.mono hbw.size)).trans (((Below.refl _ _).alloc (Nat.le_refl w5.heap.size) _ |>.mono (by have:=hb5.size;have:=hbw.size;omega)).trans (qah hgrow6 hgl (by simp;have:=hb5.size;have:=hbw.size;omega)));have hb8:Below w.heap.size w w7:=hb6.trans (hb7.mono hb6.size);have hrow7:=hrow6.below hb7;rw[ht.out,<-hfin.out] at hrow7;go_wp2_with fail;go_ret2;rw[HRn.out,hnT.out];exact⟨g6,c6,by rw[ht2.out];rfl,hrow7,hb8⟩
theorem encs_any (m:Nat)(h1:1<=m)(h2:m<=32)(n:Nat):∀ (a:Option Addr) (ps:List PairT) (c:Nat) (w:World),ps.length<=n->ps.length<=c->PArg a ps w->(∀x ∈ ps,Okp x)->Calls prog 69 #[.slice a ps.length c,.int .i64 (m:Int)] w (EncsAt m ps w):=by
 induction n with
 | zero =>
  intro a ps c w hn _ _ _;obtain rfl:ps=[]:=List.length_eq_zero_iff.1 (by omega);exact encs_nil m a c w
 | succ n ih =>
  intro a ps c w hn hc h hok;by_cases h0:0<ps.length
  ·obtain⟨b,off,rfl,_,_⟩:=h.at_ h0;exact encs_step m h1 h2 b off ps c w h hc h0 hok (λa qs c' w' hl hs hc' hP=>ih a qs c' w' (by omega) hc' hP (λx hx=>hok x (hs x hx)))
  ·obtain rfl:ps=[]:=List.length_eq_zero_iff.1 (by omega);exact encs_nil m a c w
theorem qcg (ps:List PairT)(h:isMapT ps=true):∀x ∈ ps,Okp x:=by
 intro x hx;unfold isMapT at h;rw[Bool.and_eq_true] at h;obtain⟨i,hi,rfl⟩:=List.getElem_of_mem hx;have hg:=qdj ps ps.length h.2 i hi;unfold goodAt at hg;rw[Bool.and_eq_true,Bool.and_eq_true,qaF ps i hi] at hg;exact⟨hg.1,hg.2.1⟩
theorem qbW (a:Option Addr)(ps:List PairT)(c:Nat)(n:Int)(w:World)(h:PArg a ps w)(hc:ps.length<=c) : Calls prog 29 #[.slice a ps.length c,.int .i64 n] w λe w'=>e=.returned (.string (rootS ps n))/\Below w.heap.size w w':=by
 have HM:=mapOk_any a ps c w h;have HI:=λw'=>isW_spec n w';obtain⟨R,hR⟩:=eX (rootS ps n);rw[hR];cases hm:isMapT ps with
 | false =>
  have HR:Hid (R=⟨#[]⟩):=by show _=_;rw[<-hR];unfold rootS;rw[hm];rfl
  rw[hm] at HM;clear hR hm h hc;generalize ps.length=n at HM⊢;go_enter func29,ntmps29;go_wp2_with (first|(go_at_call 68;refine HM.mono ?_;rintro e w1 ⟨rfl,hb1⟩));go_ret;exact⟨by rw[HR.out];rfl,hb1⟩
 | true =>
  cases hw:isW n with
  | false =>
   have HR:Hid (R=⟨#[]⟩):=(by show _=_;rw[<-hR];unfold rootS;rw[hm,hw];rfl);rw[hm] at HM;rw[hw] at HI;clear hR hm h hw hc;generalize ps.length=n at HM⊢;go_enter func29,ntmps29;go_wp2_with (first|(go_at_call 68;refine HM.mono ?_;rintro e w1 ⟨rfl,hb1⟩)|(go_at_call 63;refine(HI _).mono ?_;rintro e w2 ⟨rfl,rfl⟩));go_ret;exact⟨by rw[HR.out];rfl,hb1⟩
  | true =>
   obtain⟨m,rfl,q1,q2⟩:=isW_out hw;have HR:Hid (R=rootT m (cutTree ps)):=(by show _=_;rw[<-hR];unfold rootS;rw[hm,hw];rfl);rw[hw] at HI;have HT:Hid (∀w1,Below w.heap.size w w1->Calls prog 69 #[.slice a ps.length c,.int .i64 (m:Int)] w1 λe w'=>∃g c',e=.returned (.tuple #[.slice (some ⟨g,0,none⟩) ps.length c',.string (rootT m (cutTree ps))])/\Below w1.heap.size w1 w'):=λw1 hb=>(encs_any m q1 q2 _ a ps c w1 (Nat.le_refl _) hc (h.below hb) (qcg ps hm)).mono (by
    rintro e w' ⟨g,c',he,_,hb'⟩
    exact⟨g,c',he,hb'⟩)
   rw[hm] at HM;clear hR hm h hw hc;generalize rootT m (cutTree ps)=G at HT HR;generalize ps.length=n at HM HT⊢;go_enter func29,ntmps29;go_wp2_with (first|(go_at_call 68;refine HM.mono ?_;rintro e w1 ⟨rfl,hb1⟩)|(go_at_call 63;refine(HI _).mono ?_;rintro e w2 ⟨rfl,rfl⟩)|(go_at_call 69;refine(HT.out _ hb1).mono ?_;rintro e w3 ⟨g,c',rfl,hb3⟩));go_ret;exact⟨by rw[HR.out];rfl,hb1.trans (hb3.mono hb1.size)⟩
theorem wr_in64 (n:Int)(h:-9223372036854775808<=n/\n<=9223372036854775807):wrap64 n=n:=by unfold wrap64;omega
def SmallP (ps:List PairT):Prop:=ps.length<=1048576/\∀j,(ps.getD j noPair).1.size<=1048576/\(ps.getD j noPair).2.size<=1048576
theorem pget_out (ps:List PairT)(j:Nat)(h:ps.length<=j):ps.getD j noPair=noPair:=by
 rw[zL,List.getElem?_eq_none h];rfl
def flatP:List PairT->List Value
 | []=>[]
 | p :: l=>.string p.1 :: .string p.2 :: flatP l
theorem flatP_len:∀l:List PairT,(flatP l).length=l.length*2
 | []=>rfl
 | p :: l=>by simp only[flatP,List.length_cons,flatP_len l];omega
theorem qcV:∀l m:List PairT,flatP (l++m)=flatP l++flatP m
 | [],m=>rfl
 | p :: l,m=>by simp only[List.cons_append,flatP,qcV l m]
theorem qcO:∀ (l:List PairT) (j:Nat),j<l.length->(flatP l)[j*2]?=some (.string (l.getD j noPair).1)/\(flatP l)[j*2+1]?=some (.string (l.getD j noPair).2)
 | [],j,h=>absurd h (Nat.not_lt_zero _)
 | p :: l,0,_=>⟨rfl,rfl⟩
 | p :: l,j+1,h=>by
  have:=qcO l j (by simpa using h)
  rw[show (j+1)*2=j*2+2 by omega]
  simpa[flatP] using this
theorem flatP_set:∀ (l:List PairT) (k:Nat) (x y:ByteArray),k<l.length->((flatP l).set (k*2) (.string x)).set (k*2+1) (.string y)=flatP (l.set k (x,y))
 | [],k,_,_,h=>absurd h (Nat.not_lt_zero _)
 | p :: l,0,_,_,_=>rfl
 | p :: l,k+1,x,y,h=>by
  have:=flatP_set l k x y (by simpa using h)
  rw[show (k+1)*2=k*2+2 by omega]
  simpa[flatP] using this
theorem Row.parg {w:World}{base g c n:Nat}{ps:List PairT}(h:Row w base g n c (flatP ps))(hs:SmallP ps):PArg (some ⟨g,0,none⟩) ps w:=by
 refine⟨hs.1,hs.2,λ_=>⟨g,0,rfl,h.lt,λj hj=>?_⟩⟩;have hn:=h.len;rw[flatP_len] at hn;obtain⟨e0,e1⟩:=qcO ps j hj;rw[Nat.zero_add];exact⟨(h.cell _ (by omega)).trans e0,(h.cell _ (by omega)).trans e1⟩
theorem info37:(prog.info? 81).map (λi=>(i.zero,i.size,i.bytes))=some (some (.agg #[.string ⟨#[]⟩,.string ⟨#[]⟩]),2,32):=by kernel_rfl
theorem qaB {i:Option TypeInfo}{a:Option Value}{b c:Nat}(h:i.map (λi=>(i.zero,i.size,i.bytes))=some (a,b,c)):∃j,i=some j/\j.zero=a/\j.size=b/\j.bytes=c:=by
 cases i with
 | none=>cases h
 | some j=>simp only[Option.map_some,Option.some.injEq,Prod.mk.injEq] at h;exact⟨j,rfl,h.1,h.2.1,h.2.2⟩
end Go.Proofs.YtibjhkpgaaapaaaGreatDoor
