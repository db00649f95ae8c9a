import Derived.Test.YtibjhkpgaaapaaaGreatDoorZiap
import Derived.Test.YtibjhkpgaaapaaaGreatDoorZiar
import Derived.Deep.AppendLies
import Derived.Test.YtibjhkpgaaapaaaGreatDoorZias
import Derived.Test.YtibjhkpgaaapaaaGreatDoorZiao
import Derived.Test.YtibjhkpgaaapaaaGreatDoorZiaj
import Derived.Test.YtibjhkpgaaapaaaGreatDoorZiah
set_option maxRecDepth 100000
set_option maxHeartbeats 1000000
namespace Go.Proofs.YtibjhkpgaaapaaaGreatDoor
open Go.RowKit Go.Proofs.Sha Tryz
theorem qbC {w:World}{base g n:Nat}{v:Value}{xs:List Value}(h:w.ownsRow base 9 1 v n xs)(hv:v.ownBlock=some g):base<=g/\g<w.heap.size/\∃cur,w.heap[g]?=some (.cells cur 9 (0,0)):=by
 rcases h.2 with ⟨rfl,_⟩|⟨g',cap,cur,rfl,hb,hg,_⟩
 ·cases hv
 ·obtain rfl:g'=g:=Option.some.inj hv;exact⟨hb,(zG hg).1,cur,hg⟩
theorem own_kept {w w':World}{base n:Nat}{v:Value}{xs:List Value}(h:w.ownsRow base 9 1 v n xs)(hk:∀g,v.ownBlock=some g->g<w.heap.size->w'.heap[g]?=w.heap[g]?):w'.ownsRow base 9 1 v n xs:=by
 refine⟨h.1,?_⟩;rcases h.2 with ⟨h1,h2⟩|⟨g,cap,cur,hv,hb,hg,rest⟩
 ·exact .inl ⟨h1,h2⟩
 ·exact .inr ⟨g,cap,cur,hv,hb,(hk g (by rw[hv];rfl) (zG hg).1).trans hg,rest⟩
theorem qbv {w:World}{base n c:Nat}{a:Option Addr}{ss:List ByteArray}(h:w.ownsRow base 9 1 (.slice a ss.length c) n (ss.map Value.string))(hl:ss.length<=1048576)(hs:∀j,(ss.getD j ⟨#[]⟩).size<=1048576):SArg a ss w:=by
 refine⟨hl,hs,λhn=>?_⟩;rcases h.2 with ⟨e,h0⟩|⟨g,cap,cur,e,hb,hg,q1,q2,q3,q4⟩
 ·simp only[Value.slice.injEq] at e;omega
 ·simp only[Value.slice.injEq] at e;obtain⟨rfl,e2,rfl⟩:=e;refine⟨g,0,rfl,(zG hg).1,λj hj=>?_⟩;rw[Nat.zero_add,cell_of_row w g j cur 9 (0,0) hg];have hx:(ss.map Value.string)[j]?=some (.string (ss.getD j ⟨#[]⟩)):=by
   rw[List.getElem?_map,List.getElem?_eq_getElem hj,zL,List.getElem?_eq_getElem hj];rfl
  rw[<-q4,List.getElem?_take,if_pos (by omega)] at hx
  simpa using hx
theorem wrapI_in (x:Int)(h:-9223372036854775808<=x/\x<=9223372036854775807):IntKind.i64.wrap x=x:=by rw[IntKind.wrap_i64];omega
theorem placesF_app (wd:Nat)(es:List ByteArray)(e:ByteArray)(k:Nat)(hk:k<=es.length):placesF wd (es++[e]) k=placesF wd es k:=by
 induction k with
 | zero=>rfl
 | succ k ih =>
  rw[placesF,placesF,ih (by omega)];congr 2;rw[zL,zL,List.getElem?_append_left (by omega)]
theorem placesF_snoc (wd:Nat)(es:List ByteArray)(e:ByteArray):placesF wd (es++[e]) (es++[e]).length=addF (placesF wd es es.length) (cutW wd (sha (78 :: e.data.toList))) (es.length:Int):=by
 rw[List.length_append,List.length_singleton,placesF,placesF_app wd es e es.length (Nat.le_refl _)];congr 1;rw[zL,List.getElem?_append_right (Nat.le_refl _),Nat.sub_self];rfl
structure StockAt (sb r base wd:Nat) (es:List ByteArray) (a:Option Addr) (c:Nat) (w:World):Prop where
 blk:w.heap[sb]?=some (.cells #[.slice a es.length c,.int .i64 (wd:Int),.map (some r)] 194)
 own:w.ownsRow base 9 1 (.slice a es.length c) es.length (es.map Value.string)
 map:MapF (placesF wd es es.length) r w
 hl:sb<base
 hr:r<base
 hne:sb ≠ r
 hb:base<=w.heap.size
theorem StockAt.below {sb r base wd:Nat}{es:List ByteArray}{a:Option Addr}{c:Nat}{w w':World}(h:StockAt sb r base wd es a c w)(hb:Below w.heap.size w w'):StockAt sb r base wd es a c w':=by
 have h1:=h.hl;have h2:=h.hb;exact⟨(hb.block sb (by omega)).trans h.blk,own_kept h.own (λg _ hg=>hb.block g hg),h.map.below hb,h1,h.hr,h.hne,Nat.le_trans h2 hb.size⟩
theorem qdD (wd:Nat)(w:World):Calls prog 115 #[.int .i64 (wd:Int)] w λe w'=>∃sb r,e=.returned (.pointer (some ⟨sb,0,none⟩))/\StockAt sb r (sb+1) wd [] none 0 w'/\Below w.heap.size w w'/\w.heap.size<=r/\r<sb:=by
 go_enter func115,ntmps115;go_wp2_with fail;refine(newP_any (wd:Int) w).mono ?_;rintro e w1 ⟨r,rfl,hr,hM,hb⟩;have hrl:r<w1.heap.size:=by
  obtain⟨es,cl,hg,_,_⟩:=hM.is;exact(zG hg).1
 have hbA:=bA w1 (.cells #[.slice none 0 0,.int .i64 (wd:Int),.map (some r)] 194);have nA:=heap_alloc_new w1 (.cells #[.slice none 0 0,.int .i64 (wd:Int),.map (some r)] 194);go_wp2_with fail;go_ret;exact⟨w1.heap.size,r,rfl,⟨nA,World.ownsRow_nil _ _ _ _,hM.below hbA,by omega,by omega,by omega,by simp⟩,hb.trans (hbA.mono hb.size),hr,hrl⟩
theorem qdE {K:World->Prop}(HH:Hid (HashSaid K))(keep:Hid (∀w1 w2,K w1->Below w1.heap.size w1 w2->K w2))(sb r base wd:Nat)(es:List ByteArray)(a:Option Addr)(c:Nat)(enc:ByteArray)(w:World)(h:StockAt sb r base wd es a c w)(hK:K w)(hs:enc.size<=1048576)(h1:wd<=32)(hlen:es.length<=1048576) : Calls prog 116 #[.pointer (some ⟨sb,0,none⟩),.string enc] w λe w'=>∃a' c',e=.returned (.tuple #[])/\StockAt sb r base wd (es++[enc]) a' c' w'/\(∀n,n<=sb->n<=r->Below n w w')/\∀q,q<base->q ≠ sb->q ≠ r->w'.heap[q]?=w.heap[q]?:=by
 obtain⟨F,hF⟩:=eX (placesF wd es es.length);have HF:Hid (placesF wd (es++[enc]) (es++[enc]).length=addF F (cutW wd (sha (78 :: enc.data.toList))) (es.length:Int)):=by
  show _=_;rw[placesF_snoc,hF]
 obtain⟨i0,hi0,hz0,hz1,hz2⟩:=info_parts info9;have hM:=h.map;rw[hF] at hM;obtain⟨m,hm⟩:=eX (es.length);have HAdd:Hid (∀w',Below w.heap.size w w'->Calls prog 153 #[.agg #[.int .i64 (wd:Int),.map (some r)],.string enc,.int .i64 (m:Int)] w' λe w''=>e=.returned (.tuple #[])/\MapF (addF F (cutW wd (sha (78 :: enc.data.toList))) (m:Int)) r w''/\w'.grownBy w'' (some r)):=λw' hb=>add_any HH wd r F enc _ w' (hM.below hb) (keep.out _ _ hK hb) keep hs h1;have hblk:=h.blk;have hlb:=h.hl;have hrb:=h.hr;have hne:=h.hne;have hbs:=h.hb;have oA:=h.own;rw[hm] at hblk oA hlen;have HX:Hid (∀w5 g4 c4,w5.heap[sb]?=some (.cells #[.slice (some ⟨g4,0,none⟩) (m+1) c4,.int .i64 (wd:Int),.map (some r)] 194) →
  w5.ownsRow base 9 1 (.slice (some ⟨g4,0,none⟩) (m+1) c4) (m+1) (es.map Value.string++[.string enc])->MapF (addF F (cutW wd (sha (78 :: enc.data.toList))) (m:Int)) r w5->base<=w5.heap.size →
  StockAt sb r base wd (es++[enc]) (some ⟨g4,0,none⟩) c4 w5):=by
  intro w5 g4 c4 q1 q2 q3 q4;have hl:(es++[enc]).length=m+1:=by rw[List.length_append,hm];rfl
  refine⟨by rw[hl];exact q1,by rw[hl,List.map_append];exact q2,?_,hlb,hrb,hne,q4⟩;rw[HF.out,hm];exact q3
 generalize addF F (cutW wd (sha (78 :: enc.data.toList))) (m:Int)=G at HX HAdd;clear HF hM hF HH keep hK hs h1;have HC:Hid (∀W:World,W.heap[sb]?=w.heap[sb]?->W.cell? ⟨sb,0,none⟩=some (.slice a m c)/\W.cell? ⟨sb,1,none⟩=some (.int .i64 (wd:Int))/\W.cell? ⟨sb,2,none⟩=some (.map (some r))):=λW hW=>by
  have hb:=hW.trans hblk;exact⟨ZC hb 0,ZC hb 1,ZC hb 2⟩
 have hlt:sb<w.heap.size:=by omega
 replace oA:Hid _:=oA
 replace hblk:Hid _:=hblk
 replace hi0:Hid _:=hi0
 replace hz0:Hid _:=hz0
 replace hz1:Hid _:=hz1
 replace hz2:Hid _:=hz2
 clear h hm;go_enter func116,ntmps116;go_wp2_with fail;go_region_held3 (λW=>W.cell? ⟨sb,0,none⟩=some (.slice a m c)/\W.cell? ⟨sb,1,none⟩=some (.int .i64 (wd:Int))/\W.cell? ⟨sb,2,none⟩=some (.map (some r))) (first|exact HC.out _ rfl|exact HC.out _ hlb1) (first|(go_at_call 153;refine(HAdd.out _ (Below.refl w.heap.size w).drew).mono ?_;rintro e w1 ⟨rfl,hM1,hg1'⟩;have hg1:w.grownBy w1 (some r):=qad (qay (Below.refl w.heap.size w).drew _) hg1';have hlb1:w1.heap[sb]?=w.heap[sb]?:=hg1.block sb hlt (λe=>hne (Option.some.inj e));clear hg1'));have hb1:=hlb1.trans hblk.out;have oA1:w1.ownsRow base 9 1 (.slice a m c) m (es.map Value.string):=own_kept oA.out (λg hv hg=>hg1.block g hg (λe=>by have:=Option.some.inj e;have:=(qbC oA.out hv).1;omega));have hs1:=hg1.size;have c3:=ZC hb1 0;have hbA:=bA w1 (.cells #[.string enc] 9);clear HAdd HC;go_wp2_with (first|(refine wpList_append_lies _ rfl (.tmp 19) (.tmp 21) 25 rfl base 9 i0 (.string ⟨#[]⟩) 1 16 Tryz.underlying25 hi0.out hz0.out hz1.out hz2.out rfl (by decide) _ m (es.map Value.string) rfl (oA1.alloc _) ⟨w1.heap.size,0,none⟩ 1 1 [.string enc] rfl rfl (World.news_of_block (heap_alloc_new w1 _)) (by simp[Value.oneCell']) (by decide) (by unfold maxLen;omega) (by omega) (by simp;omega) (w1.heap.size+1) (by simp) ?_;intro g4 c4 w4 hown4 hgrow4 hat4 hlt4;have hb4:=(hgrow4.block sb (by simp;omega) (λe=>by have:=(qbC oA1 e.symm).1;omega)).trans ((hbA.block sb (by omega)).trans hb1);have k3:=ZC hb4 0;have f3:w4.frozen? ⟨sb,0,none⟩=false:=by rw[World.frozen?,hb4];rfl));go_end0;obtain⟨w5,hw5⟩:∃w5,w5=w4.setCell ⟨sb,0,none⟩ (.slice (some ⟨g4,0,none⟩) (m+1) c4):=⟨_,rfl⟩;have hs4:=hgrow4.size;simp at hs4;have hg5:=qae w4 sb 0 (.slice (some ⟨g4,0,none⟩) (m+1) c4);have hs5:=hg5.size;have hg4b:base<=g4:=(qbC hown4 rfl).1;rw[<-hw5] at hg5 hs5;refine⟨some ⟨g4,0,none⟩,c4,rfl,?_,?_,?_⟩
 ·rw[<-hw5];refine HX.out w5 g4 c4 (by rw[hw5];exact heap_setCell_same w4 sb 0 _ 194 _ hb4) (own_kept hown4 (λg hv hg=>by have e:g4=g:=Option.some.inj hv;exact hg5.block g hg (λe'=>by have:=Option.some.inj e';omega))) ?_ (by omega);have hMa:=hM1.below hbA;have hMb:MapF G r w4:=by
   obtain⟨es',cl,hh,q1,q2⟩:=hMa.is;exact⟨es',cl,(hgrow4.block r (zG hh).1 (λe=>by have:=(qbC oA1 e.symm).1;omega)).trans hh,q1,q2⟩
  exact hMb.kept hg5 (λe=>hne e.symm)
 ·rw[<-hw5];intro n hn1 hn2;have b1:Below n w w1:=qah hg1 hn2 (by omega);have b2:Below n w1 (w1.alloc (.cells #[.string enc] 9)):=hbA.mono (by omega);have b3:Below n (w1.alloc (.cells #[.string enc] 9)) w4:=⟨hgrow4.os,hgrow4.tape,hgrow4.output,hgrow4.size,λk hk=>hgrow4.block k (by simp;omega) (λe=>by have:=(qbC oA1 e.symm).1;omega)⟩;have b4:Below n w4 w5:=qah hg5 hn1 (by omega);exact((b1.trans b2).trans b3).trans b4
 ·rw[<-hw5];intro q hq hq1 hq2;have e1:=hg1.block q (by omega) (λe=>hq2 (Option.some.inj e));have e2:=hbA.block q (by omega);have e3:=hgrow4.block q (by simp;omega) (λe=>by have:=(qbC oA1 e.symm).1;omega);have e4:=hg5.block q (by omega) (λe=>hq1 (Option.some.inj e));exact((e4.trans e3).trans e2).trans e1
theorem stockAdd_any {K:World->Prop}(HH:Hid (HashSaid K))(keep:Hid (∀w1 w2,K w1->Below w1.heap.size w1 w2->K w2))(sb r base wd:Nat)(es:List ByteArray)(a:Option Addr)(c:Nat)(enc:ByteArray)(w:World)(h:StockAt sb r base wd es a c w)(hK:K w)(hs:enc.size<=1048576)(h1:wd<=32)(hlen:es.length<=1048576) :
 Calls prog 116 #[.pointer (some ⟨sb,0,none⟩),.string enc] w λe w'=>∃a' c',e=.returned (.tuple #[])/\StockAt sb r base wd (es++[enc]) a' c' w'/\∀n,n<=sb->n<=r->Below n w w' :=
 (qdE HH keep sb r base wd es a c enc w h hK hs h1 hlen).mono (by rintro e w' ⟨a',c',he,q1,q2,_⟩;exact⟨a',c',he,q1,q2⟩)
theorem stockOf_any {K:World->Prop}(HH:Hid (HashSaid K))(keep:Hid (∀w1 w2,K w1->Below w1.heap.size w1 w2->K w2))(wd:Nat)(a:Option Addr)(ss:List ByteArray)(c:Nat)(w:World)(h:SArg a ss w)(hK:K w)(h1:wd<=32) : Calls prog 54 #[.agg #[.int .i64 (wd:Int),.slice a ss.length c]] w λe w'=>∃sb r a' c',e=.returned (.pointer (some ⟨sb,0,none⟩))/\StockAt sb r (sb+1) wd ss a' c' w'/\Below w.heap.size w w':=by
 have hn:=h.le;have hbA:=bA w (.cells #[.int .i64 (wd:Int),.slice a ss.length c] 31);have nA:=heap_alloc_new w (.cells #[.int .i64 (wd:Int),.slice a ss.length c] 31);obtain⟨ga,hga⟩:=eX (w.heap.size);rw[hga] at nA;have hsA:(w.alloc (.cells #[.int .i64 (wd:Int),.slice a ss.length c] 31)).heap.size=ga+1:=by simp;omega
 go_enter func54,ntmps54;go_upto_region 1 with fail
 try rw[hga]
 generalize w.alloc (.cells #[.int .i64 (wd:Int),.slice a ss.length c] 31)=wa at hbA nA hsA⊢;have c0:=ZC nA 0;go_upto_region 2 with (first|(go_at_call 115;refine(qdD wd _).mono ?_;rintro e w1 ⟨sb,r,rfl,hS,hb1,hr1,hr2⟩));have nA1:=(hb1.block ga (by omega)).trans nA;have hbw:=hbA.trans (hb1.mono hbA.size);have c1:=ZC nA1 1;clear c0 hb1 nA;go_wp2_with fail;go_loopw [12] (λt12 wr=>∃ (k:Nat) (a':Option Addr) (c':Nat),k<=ss.length/\t12=.int .i64 (k:Int)/\StockAt sb r (sb+1) wd (ss.take k) a' c' wr/\Below w.heap.size w wr) (λt12 _=>ss.length-(intOf t12).toNat)
 case atStart=>exact⟨0,none,0,Nat.zero_le _,rfl,hS,hbw⟩
 case round =>
  clear c1 nA1 hS hbw;obtain⟨k,a',c',hk,rfl,hSk,hbk⟩:=hrel;by_cases hlt:k<ss.length
  ·have z1:decide ((k:Int)<(ss.length:Int))=true:=(by simp;omega);obtain⟨b,off,rfl,hbl,hc⟩:=(h.below hbk).at_ (by omega);have hcx:=hc k hlt;have htk:ss.take (k+1)=ss.take k++[ss.getD k ⟨#[]⟩]:=by
    rw[List.take_add_one,zL,List.getElem?_eq_getElem hlt];rfl
   obtain⟨s,hs⟩:=eX (ss.getD k ⟨#[]⟩);have hsz:s.size<=1048576:=(by rw[<-hs];exact h.sz k);rw[hs] at hcx htk;have HAdd:Hid (Calls prog 116 #[.pointer (some ⟨sb,0,none⟩),.string s] wr λe w'=>∃a'' c'',e=.returned (.tuple #[])/\StockAt sb r (sb+1) wd (ss.take k++[s]) a'' c'' w'/\∀n,n<=sb->n<=r->Below n wr w'):=stockAdd_any HH keep sb r (sb+1) wd (ss.take k) a' c' s wr hSk (keep.out _ _ hK hbk) hsz h1 (by rw[List.length_take];omega);rw[<-htk] at HAdd;clear hc hs htk hSk;have hx0:(0:Int)<=(k:Int):=Int.natCast_nonneg _;have hx1:(k:Int)<(ss.length:Int):=(by omega);go_wp2_with (first|(go_at_call 116;refine HAdd.out.mono ?_;rintro e w5 ⟨a5,c5,rfl,hS5,hb5⟩));have hb6:=hbk.trans (hb5 w.heap.size (by omega) (by omega));go_roundw
   case rel=>exact⟨k+1,a5,c5,hlt,by go_num,hS5,hb6⟩
   case measure=>simp[intOf];omega
  ·obtain rfl:k=ss.length:=by omega
   have z1:decide ((ss.length:Int)<(ss.length:Int))=false:=(by simp);rw[List.take_length] at hSk;go_wp2_with fail;go_ret;exact⟨sb,r,a',c',rfl,hSk,hbk⟩
def encAt (es:List ByteArray):Option Nat->ByteArray
 | none=>⟨#[]⟩
 | some i=>es.getD i ⟨#[]⟩
theorem qbz (sb r base wd:Nat)(es:List ByteArray)(a:Option Addr)(c:Nat)(hash:ByteArray)(w:World)(h:StockAt sb r base wd es a c w)(hs:∀j,(es.getD j ⟨#[]⟩).size<=1048576)(hl:es.length<=1048576)(h1:wd<=32)(h2:hash.size=wd)(fx:Option Nat)(hfx:firstI (hitB wd es hash) es.length=fx) : Calls prog 192 #[.pointer (some ⟨sb,0,none⟩),.string hash] w λe w'=>e=.returned (.tuple #[.string (encAt es fx),.bool fx.isSome])/\Below w.heap.size w w':=by
 have hpl:placesF wd es es.length (cutW wd hash.data.toList)=fx.map λi=>(i:Int):=by
  rw[placesF_first,<-hfx,show (λi=>decide (keyW wd (es.getD i ⟨#[]⟩)=cutW wd hash.data.toList))=hitB wd es hash from funext λi=>key_hit wd es hash h1 h2 i]
 have hlt:∀i,fx=some i->i<es.length:=λi hi=>qbB (hfx.trans hi);have hblk:=h.blk;have hM:=h.map;have hsa:=qbv h.own hl hs;have hbl:=(zG hblk).1;have HF:=find_any wd r _ hash w hM h1 h2;rw[hpl] at HF;have c1:=ZC hblk 1;have c2:=ZC hblk 2;cases fx with
 | none =>
  have HF':Hid (Calls prog 199 #[.agg #[.int .i64 (wd:Int),.map (some r)],.string hash] w λe w'=>e=.returned (.tuple #[.int .i64 0,.bool false])/\Below w.heap.size w w'):=HF;clear HF hpl hfx h hM hsa;go_enter func192,ntmps192;go_wp2_with (first|(go_at_call 199;refine HF'.out.mono ?_;rintro e w1 ⟨rfl,hb1⟩));go_ret2;exact⟨rfl,hb1⟩
 | some i =>
  have HF':Hid (Calls prog 199 #[.agg #[.int .i64 (wd:Int),.map (some r)],.string hash] w λe w'=>e=.returned (.tuple #[.int .i64 (i:Int),.bool true])/\Below w.heap.size w w'):=HF;have hil:=hlt i rfl;obtain⟨b,off,rfl,hbb,hcs⟩:=hsa.at_ (by omega);have hcx:=hcs i hil;have HE:Hid (encAt es (some i)=es.getD i ⟨#[]⟩):=rfl;obtain⟨x,hx⟩:=eX (es.getD i ⟨#[]⟩);rw[hx] at hcx HE;obtain⟨m,hm⟩:=eX (es.length);rw[hm] at hblk;have hx0:(0:Int)<=(i:Int):=Int.natCast_nonneg _;have hx1:(i:Int)<(m:Int):=by omega
  obtain⟨y,hy⟩:=eX (encAt es (some i));have hyx:Hid (y=x):=by show y=x;rw[<-hy];exact HE.out
  rw[hy];clear HF hpl hfx h hM hcs hx hy HE;go_enter func192,ntmps192;go_wp2_with (first|(go_at_call 199;refine HF'.out.mono ?_;rintro e w1 ⟨rfl,hb1⟩;have hbk1:=(hb1.block sb hbl).trans hblk;have d0:=ZC hbk1 0;have d1:=(hb1.cell (p:=⟨b,off+i,none⟩) hbb).trans hcx));go_ret2;exact⟨by rw[hyx.out];rfl,hb1⟩
theorem stockFind_any (D:Dec)(sb r base wd:Nat)(HD:Hid (DecSaid 198 wd D))(es:List ByteArray)(a:Option Addr)(c:Nat)(hash:ByteArray)(w:World)(h:StockAt sb r base wd es a c w)(hs:∀j,(es.getD j ⟨#[]⟩).size<=1048576)(hl:es.length<=1048576)(h1:wd<=32)(h2:hash.size=wd) : Calls prog 190 #[.pointer (some ⟨sb,0,none⟩),.string hash] w λe w'=>e=.returned (nodeT (foundR D es (firstI (hitB wd es hash) es.length)))/\Below w.heap.size w w':=by
 obtain⟨fx,hfx⟩:=eX (firstI (hitB wd es hash) es.length);rw[hfx];have HF:Hid (∀w',Below w.heap.size w w'->Calls prog 192 #[.pointer (some ⟨sb,0,none⟩),.string hash] w' λe w''=>e=.returned (.tuple #[.string (encAt es fx),.bool fx.isSome])/\Below w'.heap.size w' w''):=λw' hb=>qbz sb r base wd es a c hash w' (h.below hb) hs hl h1 h2 fx hfx;have hblk:=h.blk;have hbl:=(zG hblk).1;have hbA:=bA w (.cells #[.string ⟨#[]⟩,.string ⟨#[]⟩,.string ⟨#[]⟩,.string ⟨#[]⟩] 73);have nB:NBk w.heap.size ⟨#[]⟩ ⟨#[]⟩ ⟨#[]⟩ ⟨#[]⟩ (w.alloc (.cells #[.string ⟨#[]⟩,.string ⟨#[]⟩,.string ⟨#[]⟩,.string ⟨#[]⟩] 73)):=heap_alloc_new w _;obtain⟨gb,hgb⟩:=eX (w.heap.size);rw[hgb] at nB;have hfin:∀ (W:World) (x y z u:ByteArray),Below w.heap.size w W->Below w.heap.size w ((((W.setCell ⟨gb,0,none⟩ (.string x)).setCell ⟨gb,1,none⟩ (.string y)).setCell ⟨gb,2,none⟩ (.string z)).setCell ⟨gb,3,none⟩ (.string u)):=λW x y z u hW=>by
  have hge:w.heap.size<=gb:=by omega
  exact(((hW.setCell (p:=⟨gb,0,none⟩) hge _).setCell (p:=⟨gb,1,none⟩) hge _).setCell (p:=⟨gb,2,none⟩) hge _).setCell (p:=⟨gb,3,none⟩) hge _
 replace hfin:Hid _:=hfin
 cases fx with
 | none =>
  unfold foundR;clear h hfx;go_enter func190,ntmps190;go_upto_region 1 with fail
  try rw[hgb]
  generalize w.alloc (.cells #[.string ⟨#[]⟩,.string ⟨#[]⟩,.string ⟨#[]⟩,.string ⟨#[]⟩] 73)=wa at hbA nB⊢;go_upto_region 3 with (first|(go_at_call 192;refine(HF.out _ hbA).mono ?_;rintro e w1 ⟨rfl,hb1⟩));have nB1:=nB.below hb1;have hb2:=hbA.trans (hb1.mono hbA.size);obtain⟨c0,c1,c2,c3,f0,f1,f2,f3⟩:=nB1.at;go_wp2_with fail;exact retN Tryz.results190 rfl rfl rfl (nB1.all _ _ _ _) ⟨rfl,hfin.out _ _ _ _ _ hb2⟩
 | some i =>
  have hsz:(es.getD i ⟨#[]⟩).size<=1048576:=hs i;have hfr:foundR D es (some i)=if D.ok (es.getD i ⟨#[]⟩) then ((D.k (es.getD i ⟨#[]⟩),D.v (es.getD i ⟨#[]⟩),D.l (es.getD i ⟨#[]⟩),D.r (es.getD i ⟨#[]⟩)),0) else ((⟨#[]⟩,⟨#[]⟩,⟨#[]⟩,⟨#[]⟩),3):=rfl;rw[hfr];have HF2:Hid (∀w',Below w.heap.size w w'->Calls prog 192 #[.pointer (some ⟨sb,0,none⟩),.string hash] w' λe w''=>e=.returned (.tuple #[.string (es.getD i ⟨#[]⟩),.bool true])/\Below w'.heap.size w' w''):=HF;generalize es.getD i ⟨#[]⟩=s at hsz HF2⊢;have HDx:Hid (∀w',Calls prog 198 #[.string s,.int .i64 (wd:Int)] w' λe w''=>e=.returned (.tuple #[.agg #[.string (D.k s),.string (D.v s),.string (D.l s),.string (D.r s)],.bool (D.ok s)])/\Below w'.heap.size w' w''):=λw'=>HD.out s w' hsz;clear hfr HF h hfx HD;generalize D.k s=xk at HDx⊢;generalize D.v s=xv at HDx⊢;generalize D.l s=xl at HDx⊢;generalize D.r s=xr at HDx⊢;cases hok:D.ok s with
  | false =>
   rw[hok] at HDx;rw[if_neg (by decide)];clear hok;go_enter func190,ntmps190;go_upto_region 1 with fail
   try rw[hgb]
   generalize w.alloc (.cells #[.string ⟨#[]⟩,.string ⟨#[]⟩,.string ⟨#[]⟩,.string ⟨#[]⟩] 73)=wa at hbA nB⊢;go_upto_region 4 with (first|(go_at_call 192;refine(HF2.out _ hbA).mono ?_;rintro e w1 ⟨rfl,hb1⟩));have nB1:=nB.below hb1;have hb2:=hbA.trans (hb1.mono hbA.size);have d1:=ZC ((hb2.block sb hbl).trans hblk) 1;go_upto_region 6 with (first|(go_at_call 198;refine(HDx.out _).mono ?_;rintro e w2 ⟨rfl,hb3⟩));have hb4:=hb2.trans (hb3.mono hb2.size);have al:=bA w2 (.cells #[.string xk,.string xv,.string xl,.string xr] 73);have nB2:=(nB1.below hb3).below al;have hb5:=hb4.trans (al.mono hb4.size);generalize w2.alloc (.cells #[.string xk,.string xv,.string xl,.string xr] 73)=w3 at nB2 hb5⊢;clear d1 al;obtain⟨c0,c1,c2,c3,f0,f1,f2,f3⟩:=nB2.at;go_wp2_with fail;exact retN Tryz.results190 rfl rfl rfl (nB2.all _ _ _ _) ⟨rfl,hfin.out _ _ _ _ _ hb5⟩
  | true =>
   rw[hok] at HDx;rw[if_pos rfl];clear hok;go_enter func190,ntmps190;go_upto_region 1 with fail
   try rw[hgb]
   generalize w.alloc (.cells #[.string ⟨#[]⟩,.string ⟨#[]⟩,.string ⟨#[]⟩,.string ⟨#[]⟩] 73)=wa at hbA nB⊢;go_upto_region 4 with (first|(go_at_call 192;refine(HF2.out _ hbA).mono ?_;rintro e w1 ⟨rfl,hb1⟩));have nB1:=nB.below hb1;have hb2:=hbA.trans (hb1.mono hbA.size);have d1:=ZC ((hb2.block sb hbl).trans hblk) 1;go_upto_region 7 with (first|(go_at_call 198;refine(HDx.out _).mono ?_;rintro e w2 ⟨rfl,hb3⟩));have hb4:=hb2.trans (hb3.mono hb2.size);have al:=bA w2 (.cells #[.string xk,.string xv,.string xl,.string xr] 73);have nX:NBk w2.heap.size xk xv xl xr (w2.alloc (.cells #[.string xk,.string xv,.string xl,.string xr] 73)):=heap_alloc_new w2 _;have nB2:=(nB1.below hb3).below al;have hb5:=hb4.trans (al.mono hb4.size);obtain⟨gx,hgx⟩:=eX (w2.heap.size);rw[hgx] at nX
   try rw[hgx]
   generalize w2.alloc (.cells #[.string xk,.string xv,.string xl,.string xr] 73)=w3 at nB2 hb5 nX⊢;clear d1 al;obtain⟨e0,e1,e2,e3,_,_,_,_⟩:=nX.at;obtain⟨c0,c1,c2,c3,f0,f1,f2,f3⟩:=nB2.at;go_wp2_with fail;exact retN Tryz.results190 rfl rfl rfl (nB2.all _ _ _ _) ⟨rfl,hfin.out _ _ _ _ _ hb5⟩
abbrev KT (w:World):Prop:=∀j,j<64->w.cell? ⟨0,j,none⟩=some (.int .u32 ((kTab.getD j 0).toNat:Int))
theorem KT.below {w w':World}(h:KT w)(hb:Below w.heap.size w w'):KT w':=λj hj=>by
 have hl0:0<w.heap.size:=World.block_lt_of_cell? w _ (h 0 (by omega));exact(hb.cell (by exact hl0)).trans (h j hj)
inductive PT where
 | e:PT
 | s:ByteArray->PT
 | f:ByteArray->ByteArray->PT->PT->PT
def hashP (wd:Nat):PT->ByteArray
 | .e=>⟨#[]⟩
 | .s h=>h
 | .f k v l r=>digB (encS k v (hashP wd l) (hashP wd r) wd) wd
def PA (wd n0:Nat):PT->Value->World->Prop
 | .e,x,_=>x=.iface 211 (.agg #[])
 | .s h,x,_=>x=.iface 216 (.agg #[.string h])
 | .f k v l r,x,w=>∃b lv rv,x=.iface 84 (.pointer (some ⟨b,0,none⟩))/\n0<=b/\w.heap[b]?=some (.cells #[.string k,.string v,lv,rv,.string (encS k v (hashP wd l) (hashP wd r) wd)] 151)/\PA wd n0 l lv w/\PA wd n0 r rv w
theorem PA.keep {wd n0:Nat}{w w':World}(hk:∀b (cs:Array Value),n0<=b->w.heap[b]?=some (.cells cs 151)->w'.heap[b]?=some (.cells cs 151)):∀ {t:PT} {x:Value},PA wd n0 t x w->PA wd n0 t x w'
 | .e,_,h=>h
 | .s _,_,h=>h
 | .f _ _ _ _,_,⟨b,lv,rv,h1,h2,h3,h4,h5⟩=>⟨b,lv,rv,h1,h2,hk b _ h2 h3,PA.keep hk h4,PA.keep hk h5⟩
theorem PA.mono {wd n0 n1:Nat}{w:World}(hn:n1<=n0):∀ {t:PT} {x:Value},PA wd n0 t x w->PA wd n1 t x w
 | .e,_,h=>h
 | .s _,_,h=>h
 | .f _ _ _ _,_,⟨b,lv,rv,h1,h2,h3,h4,h5⟩=>⟨b,lv,rv,h1,Nat.le_trans hn h2,h3,PA.mono hn h4,PA.mono hn h5⟩
theorem PA.below {wd n0:Nat}{w w':World}{t:PT}{x:Value}(h:PA wd n0 t x w)(hb:Below w.heap.size w w'):PA wd n0 t x w':=h.keep (λ_ _ _ h3=>qab hb h3)
theorem as216_211 (w:World):(Instr.typeAssert (.iface 211 (.agg #[])) 77 216 true).run prog w=.ok (.tuple #[.agg #[.string ⟨#[]⟩],.bool false]) w:=by kernel_rfl
theorem as84_211 (w:World):(Instr.typeAssert (.iface 211 (.agg #[])) 77 84 true).run prog w=.ok (.tuple #[.pointer none,.bool false]) w:=by kernel_rfl
theorem as216_216 (h:ByteArray)(w:World):(Instr.typeAssert (.iface 216 (.agg #[.string h])) 77 216 true).run prog w=.ok (.tuple #[.agg #[.string h],.bool true]) w:=by kernel_rfl
theorem as84_216 (h:ByteArray)(w:World):(Instr.typeAssert (.iface 216 (.agg #[.string h])) 77 84 true).run prog w=.ok (.tuple #[.pointer none,.bool false]) w:=by kernel_rfl
theorem as216_84 (b:Nat)(w:World):(Instr.typeAssert (.iface 84 (.pointer (some ⟨b,0,none⟩))) 77 216 true).run prog w=.ok (.tuple #[.agg #[.string ⟨#[]⟩],.bool false]) w:=by kernel_rfl
theorem as84_84 (b:Nat)(w:World):(Instr.typeAssert (.iface 84 (.pointer (some ⟨b,0,none⟩))) 77 84 true).run prog w=.ok (.tuple #[.pointer (some ⟨b,0,none⟩),.bool true]) w:=by kernel_rfl
theorem shash_p (wd n0:Nat)(h1:1<=wd)(h2:wd<=32)(t:PT)(x:Value)(w:World)(h:PA wd n0 t x w)(hK:KT w) : Calls prog 97 #[x,.int .i64 (wd:Int)] w λe w'=>e=.returned (.string (hashP wd t))/\Below w.heap.size w w':=by
 cases t with
 | e =>
  obtain rfl:x=.iface 211 (.agg #[]):=h;have hr:Hid (hashP wd .e=⟨#[]⟩):=rfl;have q1:=as216_211;have q2:=as84_211;go_enter func97,ntmps97;go_wp2_with fail;go_ret;exact⟨by rw[hr.out];rfl,Below.refl _ _⟩
 | s hh =>
  obtain rfl:x=.iface 216 (.agg #[.string hh]):=h;have hr:Hid (hashP wd (.s hh)=hh):=rfl;have q1:=as216_216 hh;have q2:=as84_216 hh;go_enter func97,ntmps97;go_wp2_with fail;go_ret;exact⟨by rw[hr.out];rfl,(Below.refl _ _).alloc (Nat.le_refl _) _⟩
 | f k v l r =>
  obtain⟨b,lv,rv,rfl,_,hb,_,_⟩:=h;have hes:=(qba k v (hashP wd l) (hashP wd r) wd).1;have hr:Hid (hashP wd (.f k v l r)=digB (encS k v (hashP wd l) (hashP wd r) wd) wd):=rfl;have HD:Hid (∀w',KT w'->Calls prog 145 #[.string (encS k v (hashP wd l) (hashP wd r) wd),.int .i64 (wd:Int)] w' λe w''=>e=.returned (.string (digB (encS k v (hashP wd l) (hashP wd r) wd) wd))/\Below w'.heap.size w' w''):=λw' hk=>edig_any _ wd w' (by omega) h1 h2 hk;generalize encS k v (hashP wd l) (hashP wd r) wd=E at hb HD hr;have c4:=ZC hb 4;clear hb hes;have q1:=as216_84 b;have q2:=as84_84 b;go_enter func97,ntmps97;go_wp2_with (first|(go_at_call 145;refine(HD.out _ hK).mono ?_;rintro e w1 ⟨rfl,hb1⟩));go_ret;exact⟨by rw[hr.out];rfl,hb1⟩
theorem addEnc (b wd n0:Nat)(h1:1<=wd)(h2:wd<=32)(k v:ByteArray)(lv rv:Value)(enc0:ByteArray)(l r:PT)(w:World)(hB:w.heap[b]?=some (.cells #[.string k,.string v,lv,rv,.string enc0] 151))(hl:PA wd n0 l lv w)(hr:PA wd n0 r rv w)(hK:KT w)(hks:k.size<=1048576)(hvs:v.size<=1048576)(hls:(hashP wd l).size<=1048576)(hrs:(hashP wd r).size<=1048576) : Calls prog 174 #[.pointer (some ⟨b,0,none⟩),.int .i64 (wd:Int)] w λe w'=>e=.returned (.tuple #[])/\w'.heap[b]?=some (.cells #[.string k,.string v,lv,rv,.string (encS k v (hashP wd l) (hashP wd r) wd)] 151)/\Mv b w w':=by
 have HL:Hid (∀w',Below w.heap.size w w'->Calls prog 97 #[lv,.int .i64 (wd:Int)] w' λe w''=>e=.returned (.string (hashP wd l))/\Below w'.heap.size w' w''):=λw' hb=>shash_p wd n0 h1 h2 l lv w' (hl.below hb) (hK.below hb);have HR:Hid (∀w',Below w.heap.size w w'->Calls prog 97 #[rv,.int .i64 (wd:Int)] w' λe w''=>e=.returned (.string (hashP wd r))/\Below w'.heap.size w' w''):=λw' hb=>shash_p wd n0 h1 h2 r rv w' (hr.below hb) (hK.below hb);have HE:Hid (∀w',Calls prog 186 #[.agg #[.string k,.string v,.string (hashP wd l),.string (hashP wd r)],.int .i64 (wd:Int)] w' λe w''=>e=.returned (.string (encS k v (hashP wd l) (hashP wd r) wd))/\Below w'.heap.size w' w''):=λw'=>by
  refine(enc_impl k v (hashP wd l) (hashP wd r) wd w' hks hvs hls hrs).mono ?_;rintro e w'' ⟨t,rfl,ht,hb⟩;exact⟨by rw[ht.out],hb⟩
 generalize encS k v (hashP wd l) (hashP wd r) wd=E at HE⊢;generalize hashP wd l=hL at HL HE;generalize hashP wd r=hR at HR HE;clear hl hr hK hls hrs;have c2:w.cell? ⟨b,2,none⟩=some lv:=ZC hB 2;have c3:w.cell? ⟨b,3,none⟩=some rv:=ZC hB 3;go_enter func174,ntmps174;go_wp2_with fail;go_region_held3 (λW=>W.cell? ⟨b,2,none⟩=some lv/\W.cell? ⟨b,3,none⟩=some rv) (first|exact⟨c2,c3⟩|exact⟨ZC n1 2,ZC n1 3⟩|exact⟨ZC n2 2,ZC n2 3⟩) (first|(go_at_call_of 97 lv;refine(HL.out w.drew (Below.refl _ _).drew).mono ?_;rintro e w1 ⟨rfl,hb1'⟩;have hb1:Below w.heap.size w w1:=(Below.refl w.heap.size w).drew.trans hb1';have n1:=qab hb1 hB)|(go_at_call_of 97 rv;refine(HR.out w1 hb1).mono ?_;rintro e w2 ⟨rfl,hb2'⟩;have hb2:=hb1.trans (hb2'.mono hb1.size);have n2:=qab hb2 hB));clear hb1' hb2' n1 hb1 c2 c3 HL HR;have c0:w2.cell? ⟨b,0,none⟩=some (.string k):=ZC n2 0;have c1:w2.cell? ⟨b,1,none⟩=some (.string v):=ZC n2 1;go_wp2_with fail;go_region_held3 (λW=>W.cell? ⟨b,0,none⟩=some (.string k)/\W.cell? ⟨b,1,none⟩=some (.string v)) (first|exact⟨c0,c1⟩|exact⟨ZC n3 0,ZC n3 1⟩|exact⟨ZC n4 0,ZC n4 1⟩) (first|(go_at_call 186;refine(HE.out _).mono ?_;rintro e w3 ⟨rfl,hb3'⟩;have hb3:Below w2.heap.size w2 w3:=(Below.refl w2.heap.size w2).drew.trans hb3';have n3:=qab hb3 n2;have c4:=ZC n3 4;have f4:w3.frozen? ⟨b,4,none⟩=false:=qac n3;have n4:=heap_setCell_same w3 b 4 _ 151 (.string E) n3));have hm:Mv b w (w3.setCell ⟨b,4,none⟩ (.string E)):=(Mv.of_below b (hb2.trans (hb3.mono hb2.size))).setCell 4 _;go_wp2_with fail;go_end0;exact⟨rfl,n4,hm⟩
instance (s:ByteArray) (a:Nat):Decidable (pieceOk s a):=by unfold pieceOk;exact inferInstance
def okAt (over under par k v:ByteArray):Bool:=(okKey k && okVal v) && (insW over under k && parW hgW par k)
def pieceT (s:ByteArray) (a:Nat):ByteArray:=s.extract (a+2) (a+2+szAt s a)
def pieceE (s:ByteArray) (a:Nat):Nat:=a+2+szAt s a
def rdP (s lo hi:ByteArray) (wd:Nat):Nat->Nat->ByteArray->ByteArray->ByteArray->Nat->Option (PT × Nat × Nat)
 | 0,_,_,_,_,_=>none
 | f+1,a,over,under,par,cnt =>
  if a<s.size then
   if bAt s a=69 then some (.e,a+1,cnt)
   else if bAt s a=83 then
    if canW over under lo hi=false/\a+1+wd<=s.size then some (.s (s.extract (a+1) (a+1+wd)),a+1+wd,cnt) else none
   else if bAt s a=70/\canW over under lo hi=true then
    if cnt+1<=500/\pieceOk s (a+1)/\pieceOk s (pieceE s (a+1))/\okAt over under par (pieceT s (a+1)) (pieceT s (pieceE s (a+1)))=true then
     match rdP s lo hi wd f (pieceE s (pieceE s (a+1))) over (pieceT s (a+1)) (pieceT s (a+1)) (cnt+1) with
     | none=>none
     | some (l,a3,c3) =>
      match rdP s lo hi wd f a3 (pieceT s (a+1)) under (pieceT s (a+1)) c3 with
      | none=>none
      | some (r,a4,c4)=>some (.f (pieceT s (a+1)) (pieceT s (pieceE s (a+1))) l r,a4,c4)
    else none
   else none
  else none
theorem rdP_ok {s lo hi:ByteArray}{wd:Nat}:∀ (f a:Nat) (over under par:ByteArray) (cnt:Nat) (t:PT) (a' c':Nat),cnt<=500->rdP s lo hi wd f a over under par cnt=some (t,a',c')->a<a'/\a'<=s.size/\cnt<=c'/\c'<=500
 | 0,_,_,_,_,_,_,_,_,_,h=>by cases h
 | f+1,a,over,under,par,cnt,t,a',c',hc,h=>by
  rw[rdP] at h
  split at h
  ·split at h
   ·cases h;omega
   ·split at h
    ·split at h
     ·rename_i h2;cases h;omega
     ·cases h
    ·split at h
     ·split at h
      ·rename_i hx
       obtain⟨h1,h2,h3,_⟩:=hx
       split at h
       ·cases h
       ·rename_i l a3 c3 hl
        split at h
        ·cases h
        ·rename_i r a4 c4 hr
         cases h
         have il:=rdP_ok f _ _ _ _ _ _ _ _ h1 hl
         have ir:=rdP_ok f _ _ _ _ _ _ _ _ il.2.2.2 hr
         have e1:a+1+2<=pieceE s (a+1):=by unfold pieceE;omega
         have e2:pieceE s (a+1)+2<=pieceE s (pieceE s (a+1)):=by unfold pieceE;omega
         omega
      ·cases h
     ·cases h
  ·cases h
structure Mw (q r:Nat) (w w':World):Prop where
 os:w'.os=w.os
 tape:w'.tape=w.tape
 output:w'.output=w.output
 size:w.heap.size<=w'.heap.size
 block:∀k,k<w.heap.size->k ≠ q->k ≠ r->w'.heap[k]?=w.heap[k]?
section
variable {q r:Nat} {w w' w1 w2:World}
theorem Mw.refl (q r:Nat)(w:World):Mw q r w w:=⟨rfl,rfl,rfl,Nat.le_refl _,λ_ _ _ _=>rfl⟩
theorem Mw.trans (h:Mw q r w w1)(k:Mw q r w1 w2):Mw q r w w2 :=
 ⟨k.os.trans h.os,k.tape.trans h.tape,k.output.trans h.output,Nat.le_trans h.size k.size,λi hi h1 h2=>(k.block i (Nat.lt_of_lt_of_le hi h.size) h1 h2).trans (h.block i hi h1 h2)⟩
theorem Mw.of_below (h:Below w.heap.size w w1):Mw q r w w1:=⟨h.os,h.tape,h.output,h.size,λi hi _ _=>h.block i hi⟩
theorem Mw.of_mv (h:Mv r w w1):Mw q r w w1:=⟨h.os,h.tape,h.output,h.size,λi hi _ h2=>h.block i hi h2⟩
theorem Mw.cells {k:Nat}{o:Obj}(h:Mw q r w w1)(hk:w.heap[k]?=some o)(h1:k ≠ q)(h2:k ≠ r):w1.heap[k]?=some o:=(h.block k (zG hk).1 h1 h2).trans hk
theorem Mw.setCell (h:Mw q r w w1)(g i:Nat)(v:Value)(hg:g=q\/w.heap.size<=g):Mw q r w (w1.setCell ⟨g,i,none⟩ v) :=
 ⟨h.os,h.tape,h.output,by rw[qdI];exact h.size,λk hk h1 h2=>(heap_setCell_other w1 ⟨g,i,none⟩ k v (by show k ≠ g;rcases hg with e|e;rw[e];exact h1;omega)).trans (h.block k hk h1 h2)⟩
theorem Mw.of_new {b:Nat}(h:Mw q r w w1)(k:Mv b w1 w2)(hb:w.heap.size<=b):Mw q r w w2 :=
 ⟨k.os.trans h.os,k.tape.trans h.tape,k.output.trans h.output,Nat.le_trans h.size k.size,λi hi h1 h2=>(k.block i (Nat.lt_of_lt_of_le hi h.size) (by omega)).trans (h.block i hi h1 h2)⟩
end
structure RS (q rb wd:Nat) (lo hi s:ByteArray) (a cnt:Nat) (w:World):Prop where
 pr:PR q rb wd lo hi cnt w
 rd:Rd rb s a false w
theorem RS.below {q rb wd:Nat}{lo hi s:ByteArray}{a cnt:Nat}{w w':World}(h:RS q rb wd lo hi s a cnt w)(hb:Below w.heap.size w w'):RS q rb wd lo hi s a cnt w':=⟨qab hb h.pr,qab hb h.rd⟩
theorem RS.step {q rb wd:Nat}{lo hi s:ByteArray}{a a' cnt:Nat}{w w':World}(h:RS q rb wd lo hi s a cnt w)(hr:Rd rb s a' false w')(hm:Mv rb w w'):RS q rb wd lo hi s a' cnt w':=⟨hm.cells h.pr (h.pr.ne h.rd),hr⟩
theorem KT.mw {q rb wd:Nat}{lo hi s:ByteArray}{a cnt:Nat}{w w':World}(hK:KT w)(h:RS q rb wd lo hi s a cnt w)(hm:Mw q rb w w'):KT w':=λj hj=>by
 have h0:=hK 0 (by omega);have hl0:0<w.heap.size:=World.block_lt_of_cell? w _ h0;have n1:(0:Nat) ≠ q:=λe=>by
  have:=ZC h.pr 0;rw[<-e,h0] at this;simp at this
 have n2:(0:Nat) ≠ rb:=λe=>by
  have:=ZC h.rd 0;rw[<-e,h0] at this;simp at this
 have e:=hm.block 0 hl0 n1 n2;rw[<-hK j hj];unfold World.cell?;simp only[e]
def SubPost (q rb wd:Nat) (lo hi s:ByteArray) (R:Option (PT × Nat × Nat)) (w:World) (e:Ending) (w':World):Prop :=
 (∀t a' c',R=some (t,a',c')->∃x,e=.returned x/\PA wd w.heap.size t x w'/\RS q rb wd lo hi s a' c' w')/\(R=none->e=badP)/\Mw q rb w w'
end Go.Proofs.YtibjhkpgaaapaaaGreatDoor
