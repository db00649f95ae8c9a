import Derived.Test.YtibjhkpgaaapaaaGreatDoorZiaa
import Derived.Test.YtibjhkpgaaapaaaGreatDoorZibh
import Derived.Test.YtibjhkpgaaapaaaGreatDoorZiaw
import Derived.Test.YtibjhkpgaaapaaaGreatDoorZiat
import Derived.Test.YtibjhkpgaaapaaaGreatDoorZibf
import Derived.Test.YtibjhkpgaaapaaaGreatDoorZibe
set_option maxRecDepth 100000
set_option maxHeartbeats 4000000
namespace Go.Proofs.YtibjhkpgaaapaaaGreatDoor
open Go.RowKit Go.Proofs.Sha Tryz
theorem ltxt_any (e:ByteArray)(w:World)(he:e.size<=1048576):Calls prog 39 #[.string e] w λy w'=>y=.returned (.string (txt e))/\w'=w:=by
 have z:¬ (9223372036854775807<(⟨#[78]⟩:ByteArray).size+e.size):=by show ¬ _<1+e.size;omega
 have z':¬ (9223372036854775807<1+e.size):=by omega
 unfold txt;go_enter func39,ntmps39;go_wp2_with fail;go_ret;exact⟨rfl,rfl⟩
theorem txt_size (e:ByteArray):(txt e).size=e.size+1:=by unfold txt;rw[ByteArray.size_append];show 1+e.size=_;omega
theorem txt_list (e:ByteArray):(txt e).data.toList=78 :: e.data.toList:=by unfold txt;rw[ByteArray.data_append];simp
theorem svAll_stuck {wd:Nat}{ss es:List ByteArray}{j:Nat}{r:SvR}(h:svAll wd ss (es.take j)=r)(hr:r.isGo=false):svAll wd ss es=r:=by
 have e:svAll wd ss es=(es.drop j).foldl (svStep wd ss) (svAll wd ss (es.take j)):=by
  unfold svAll;rw[<-List.foldl_append,List.take_append_drop]
 rw[e,h];exact qaZ wd ss _ r hr
def stepR (X ad:List ByteArray) (e:ByteArray):Option Nat->SvR
 | some i=>if X.getD i ⟨#[]⟩=e then .go ad else .clash (X.getD i ⟨#[]⟩) e
 | none=>if 20000<=X.length then .full else .go (ad++[e])
theorem svStep_at {wd:Nat}{ss ad X:List ByteArray}{e:ByteArray}{R:Option Nat}(hX:X=ss++ad)(hR:firstI (hitB wd X (hashT wd e)) X.length=R):svStep wd ss (.go ad) e=stepR X ad e R:=by
 subst hX;subst hR;rw[List.length_append];have hs:∀R:Option Nat,(match R with
  | some i=>if (ss++ad).getD i ⟨#[]⟩=e then SvR.go ad else SvR.clash ((ss++ad).getD i ⟨#[]⟩) e
  | none=>if 20000<=ss.length+ad.length then SvR.full else SvR.go (ad++[e]))=stepR (ss++ad) ad e R:=λR=>by
  cases R with
  | some i=>rfl
  | none=>unfold stepR;rw[List.length_append]
 exact hs _
theorem ssave_yes (HD:Hid DigSaid)(wd:Nat)(a:Option Addr)(ss:List ByteArray)(c:Nat)(a2:Option Addr)(ps:List PairT)(c2:Nat)(w:World)(h:SArg a ss w)(hq:Hid (∀j,(ss.getD j ⟨#[]⟩).size<=1048575))(h2:PArg a2 ps w)(hc2:ps.length<=c2)(h1:1<=wd)(h3:wd<=32)(hs1:ss.length<=20000)(hm:isMapT ps=true) : Calls prog 33 #[.agg #[.int .i64 (wd:Int),.slice a ss.length c],.slice a2 ps.length c2] w (SavedIs (savO wd ss (cutTree ps)) w):=by
 have hpo:poolOk (wd:Int) ss.length=true:=decide_eq_true ⟨by omega,by omega,hs1⟩;have HV:Hid (∀w',Calls prog 79 #[.agg #[.int .i64 (wd:Int),.slice a ss.length c]] w' λe w''=>e=.returned (.bool true)/\Below w'.heap.size w' w''):=λw'=>by
  have:=qbJ (wd:Int) a ss.length c w' h.le;rw[hpo] at this;exact this
 have HM:Hid (∀w',Below w.heap.size w w'->Calls prog 68 #[.slice a2 ps.length c2] w' λe w''=>e=.returned (.bool true)/\Below w'.heap.size w' w''):=λw' hb=>by
  have:=mapOk_any a2 ps c2 w' (h2.below hb);rw[hm] at this;exact this
 have HC:Hid (∀w',Below w.heap.size w w'->Calls prog 80 #[.agg #[.int .i64 (wd:Int),.slice a ss.length c]] w' λe w''=>∃a' c',e=.returned (.agg #[.int .i64 (wd:Int),.slice a' ss.length c'])/\OwnT w' ss a' ss.length c' w''):=λw' hb=>copyPool_any (wd:Int) a ss c w' (h.below hb);have HHs:Hid (∀w',Below w.heap.size w w'->Calls prog 50 #[.agg #[.int .i64 (wd:Int),.slice a ss.length c]] w' λe w''=>∃g c',e=.returned (.slice (some ⟨g,0,none⟩) ss.length c')/\Row w'' (w'.heap.size+1) g ss.length c' ((ss.map (hashT wd)).map Value.string)/\Below w'.heap.size w' w''):=λw' hb=>qbA HD wd a ss c w' (h.below hb) hq h1 h3;have HE:Hid (∀w',Below w.heap.size w w'->Calls prog 69 #[.slice a2 ps.length c2,.int .i64 (wd:Int)] w' λe w''=>∃g c,e=.returned (.tuple #[.slice (some ⟨g,0,none⟩) ps.length c,.string (rootT wd (cutTree ps))])/\Row w'' w'.heap.size g ps.length c ((encsT wd (cutTree ps)).map Value.string)/\Below w'.heap.size w' w''):=λw' hb=>encs_any wd h1 h3 _ a2 ps c2 w' (Nat.le_refl _) hc2 (h2.below hb) (qcg ps hm);have hesz:=qbj wd (cutTree ps);have hesl:(encsT wd (cutTree ps)).length=ps.length:=by rw[qcb,qaW]
 have hsv:Hid (savO wd ss (cutTree ps)=svOut wd ss (rootT wd (cutTree ps)) (svAll wd ss (encsT wd (cutTree ps)))):=rfl;obtain⟨es,hes⟩:=eX (encsT wd (cutTree ps));rw[hes] at HE hesz hesl hsv;obtain⟨root,hroot⟩:∃r,rootT wd (cutTree ps)=r:=⟨_,rfl⟩;rw[hroot] at HE hsv;obtain⟨O,hO⟩:=eX (savO wd ss (cutTree ps));rw[hO] at hsv⊢;obtain⟨K,hK⟩:=eX (ps.length);have hKb:K<=500:=by
  unfold isMapT at hm;rw[Bool.and_eq_true,decide_eq_true_eq] at hm;omega
 rw[hK] at HE hesl HM⊢;clear hes hroot hO hK hm hc2 h2;have hMw:Hid (∀W,Below w.heap.size w W->SArg a ss W):=λW hW=>h.below hW;have hsm0:∀j,(ss.getD j ⟨#[]⟩).size<=1048575:=hq.out;obtain⟨N,hN⟩:=eX (ss.length);have hNl:Hid (ss.length=N):=hN;rw[hN] at HV HC HHs hs1⊢;clear hN hpo h hq;have hbA:Below w.heap.size w ((w.alloc (.cells #[.int .i64 (wd:Int),.slice a N c] 31)).alloc (.cells #[.int .i64 0,.int .i64 0,.slice none 0 0,.string ⟨#[]⟩,.string ⟨#[]⟩,.string ⟨#[]⟩] 56)):=((Below.refl _ _).alloc (Nat.le_refl _) _).alloc (by simp) _;have nB:=heap_alloc_new (w.alloc (.cells #[.int .i64 (wd:Int),.slice a N c] 31)) (.cells #[.int .i64 0,.int .i64 0,.slice none 0 0,.string ⟨#[]⟩,.string ⟨#[]⟩,.string ⟨#[]⟩] 56);have nA:=(Below.heap_alloc (w.alloc (.cells #[.int .i64 (wd:Int),.slice a N c] 31)) (.cells #[.int .i64 0,.int .i64 0,.slice none 0 0,.string ⟨#[]⟩,.string ⟨#[]⟩,.string ⟨#[]⟩] 56) w.heap.size (by simp)).trans (heap_alloc_new w _);rw[World.size_alloc] at nB;obtain⟨gp,hgp⟩:∃g,w.heap.size=g:=⟨_,rfl⟩;have hgl:w.heap.size<=gp:=by omega
 go_enter func33,ntmps33;go_upto_region 1 with fail;generalize (w.alloc (.cells #[.int .i64 (wd:Int),.slice a N c] 31)).alloc (.cells #[.int .i64 0,.int .i64 0,.slice none 0 0,.string ⟨#[]⟩,.string ⟨#[]⟩,.string ⟨#[]⟩] 56)=wA at hbA nA nB⊢
 try rw[hgp]
 rw[hgp] at nA nB;have p0:=ZC nA 0;have p1:=ZC nA 1;go_upto_region 3 with (first|(go_at_call 79;refine(HV.out _).mono ?_;rintro e w1 ⟨rfl,hb1⟩)|(go_at_call 68;refine(HM.out _ (hbA.trans (hb1.mono hbA.size))).mono ?_;rintro e w2 ⟨rfl,hb2⟩));have hbA2:Below wA.heap.size wA w2:=hb1.trans (hb2.mono hb1.size);have nA2:=qap hbA2 nA;have nB2:SB (gp+1) 0 0 none 0 0 ⟨#[]⟩ ⟨#[]⟩ ⟨#[]⟩ w2:=qap hbA2 nB;have hbw2:=hbA.trans (hbA2.mono hbA.size);clear hbA hb1 hb2 hbA2 nA nB p0 p1 HV HM;have p0:=ZC nA2 0;have p1:=ZC nA2 1;go_upto_region 4 with (first|(go_at_call 80;refine(HC.out _ hbw2).mono ?_;rintro e w3 ⟨ao,co,rfl,hT3⟩));have hbA3:=bA w3 (.cells #[.int .i64 (wd:Int),.slice ao N co] 31);have hO4:=hT3.below hbA3;have nO4:=heap_alloc_new w3 (.cells #[.int .i64 (wd:Int),.slice ao N co] 31);have hb24:Below w2.heap.size w2 (w3.alloc (.cells #[.int .i64 (wd:Int),.slice ao N co] 31)):=hO4.bel;have nA4:=qap hb24 nA2;have nB4:SB (gp+1) 0 0 none 0 0 ⟨#[]⟩ ⟨#[]⟩ ⟨#[]⟩ (w3.alloc (.cells #[.int .i64 (wd:Int),.slice ao N co] 31)):=qap hb24 nB2;have hbw4:=hbw2.trans (hb24.mono hbw2.size);have hT4:=hO4.up hbw2;have hz4:(w3.alloc (.cells #[.int .i64 (wd:Int),.slice ao N co] 31)).heap.size=w3.heap.size+1:=by simp
 have hgo:gp+1<w3.heap.size:=Nat.lt_of_lt_of_le (zG (show w2.heap[gp+1]?=_ from nB2)).1 hT3.bel.size;have hol:∀g,(Value.slice ao N co).ownBlock=some g->g<w3.heap.size:=λg hg=>(qas hT3.own hg).2.1;generalize w3.alloc (.cells #[.int .i64 (wd:Int),.slice ao N co] 31)=w4 at hbA3 hO4 nO4 hb24 nA4 nB4 hbw4 hT4 hz4⊢;obtain⟨go,hgo'⟩:∃g,w3.heap.size=g:=⟨_,rfl⟩;rw[hgo'] at nO4 hz4 hgo hol
 try rw[hgo']
 clear hT3 hbA3 hO4 hb24 nA2 nB2 hbw2 p0 p1 hgo';have p0:=ZC nA4 0;have p1:=ZC nA4 1;go_upto_region 5 with (first|(go_at_call 50;refine(HHs.out _ hbw4).mono ?_;rintro e w5 ⟨gh,ch,rfl,hR5,hb5⟩));have hbw5:=hbw4.trans (hb5.mono hbw4.size);have nA5:=qap hb5 nA4;have nB5:SB (gp+1) 0 0 none 0 0 ⟨#[]⟩ ⟨#[]⟩ ⟨#[]⟩ w5:=qap hb5 nB4;have nO5:=qap hb5 nO4;have hT5:=hT4.below hb5;have hz5:=hb5.size;have hgh:=hR5.ge;clear hb5 nA4 nB4 nO4 hT4 hbw4 p0 p1;have p0:=ZC nA5 0;go_upto_region 6 with (first|(go_at_call 69;refine(HE.out _ hbw5).mono ?_;rintro e w6 ⟨ge,ce,rfl,hR6,hb6⟩));have hgh2:=hR5.lt;have hge:=hR6.ge;have hM0:MS w gp go ge wd a N c K ce es ss ss gh ch ao co w6:=⟨qap hb6 nA5,qap hb6 nB5,by rw[hNl.out];exact qap hb6 nO5,by rw[hNl.out];exact hT5.below hb6,by rw[hNl.out];exact(hR5.mono (by omega)).below hb6,hR6.mono (by have:=hbw5.size;omega),by omega,by omega,λg hg=>by (rw[hNl.out] at hg;have:=hol g hg;omega),by omega⟩;clear hb6 nA5 nB5 nO5 hT5 hR5 hR6 hbw5 p0 hgh hgh2 hge hz5 hz4 hol HHs HE hgo;obtain⟨i0,hi0,hz0,hz1,hz2⟩:=qaB info9;go_wp2_with fail;go_loopw [6,9] (λt6 t9 wr=>∃ (k:Nat) (X ad:List ByteArray) (gh ch:Nat) (ao:Option Addr) (co:Nat),k<=K/\t9=.int .i64 (k:Int)/\t6=.slice (some ⟨gh,0,none⟩) X.length ch/\Hid (X=ss++ad)/\Hid (svAll wd ss (es.take k)=.go ad)/\X.length<=20000/\(∀j,(X.getD j ⟨#[]⟩).size<=1048575)/\MS w gp go ge wd a N c K ce es X X gh ch ao co wr) (λ_ t9 _=>K-(intOf t9).toNat)
 case atStart=>exact⟨0,ss,[],gh,ch,ao,co,Nat.zero_le _,rfl,by rw[hNl.out],(List.append_nil ss).symm,rfl,by rw[hNl.out];exact hs1,hsm0,hM0⟩
 case round =>
  clear hM0;obtain⟨k,X,ad,gh,ch,ao,co,hk,rfl,rfl,hX,hAll,hXl,hXs,hM⟩:=hrel;by_cases hlt:k<K
  ·have z1:decide ((k:Int)<(K:Int))=true:=(by simp;omega);have hx0:(0:Int)<=(k:Int):=Int.natCast_nonneg _;have hx1:(k:Int)<(K:Int):=(by omega);obtain⟨e,he⟩:=eX (es.getD k ⟨#[]⟩);have hke:es[k]?=some e:=by
    rw[<-he,zL,List.getElem?_eq_getElem (by omega)];rfl
   have hesz':e.size<=10000:=hesz e (List.mem_of_getElem? hke);have htk:Hid (svAll wd ss (es.take (k+1))=svStep wd ss (.go ad) e):=by
    show _=_;rw[List.take_add_one,hke,Option.toList_some,svAll_app,hAll.out]
   have hce:Hid (∀W,MS w gp go ge wd a N c K ce es X X gh ch ao co W->W.cell? ⟨ge,k,none⟩=some (.string e)/\W.cell? ⟨gp,0,none⟩=some (.int .i64 (wd:Int))):=λW hW=>⟨by rw[hW.enc.cell k hlt,List.getElem?_map,hke];rfl,ZC hW.par 0⟩;have HT:Hid (∀w',Calls prog 39 #[.string e] w' λy w''=>y=.returned (.string (txt e))/\w''=w'):=λw'=>ltxt_any e w' (by omega);have HDg:Hid (∀w',Calls prog 23 #[.string (txt e),.int .i64 (wd:Int)] w' λy w''=>y=.returned (.string (hashT wd e))/\Below w'.heap.size w' w''):=λw'=>by
    have:=HD.out (txt e) wd w' (by rw[txt_size];omega) h1 h3;rw[txt_list] at this;exact this
   have hhs:∀s:ByteArray,(hashT wd s).size<=1048576:=λs=>by
    show ((sha (78 :: s.data.toList)).take wd).toArray.size<=_;rw[List.size_toArray,List.length_take,qaz];omega
   have HAt:Hid (∀W,MS w gp go ge wd a N c K ce es X X gh ch ao co W->Calls prog 81 #[.slice (some ⟨gh,0,none⟩) X.length ch,.string (hashT wd e)] W λy w''=>y=.returned (.int .i64 (atI (firstI (hitB wd X (hashT wd e)) X.length)))/\Below W.heap.size W w''):=λW hW=>by
    have hl:(X.map (hashT wd)).length=X.length:=List.length_map _;have:=l4At_any (some ⟨gh,0,none⟩) (X.map (hashT wd)) ch (hashT wd e) W (row_sarg hW.hs (by rw[hl];omega) (λj=>by
     rw[zL,List.getElem?_map]
     cases X[j]? with
     | none=>exact Nat.zero_le _
     | some y=>exact hhs y))
    rw[hl,same_hit] at this;exact this
   obtain⟨c1,c2'⟩:=hce.out _ hM;obtain⟨R,hR⟩:=eX (firstI (hitB wd X (hashT wd e)) X.length);rw[hR] at HAt;clear he hke;obtain⟨He,hHe'⟩:∃He,hashT wd e=He:=⟨_,rfl⟩;have hHe:Hid (hashT wd e=He):=hHe';have hRx:Hid (firstI (hitB wd X (hashT wd e)) X.length=R):=hR;rw[hHe'] at HDg HAt;clear hHe' hR;go_upto_region 9 with fail;go_region_held3 (λW=>W.cell? ⟨ge,k,none⟩=some (.string e)/\W.cell? ⟨gp,0,none⟩=some (.int .i64 (wd:Int))) (first|exact⟨c1,c2'⟩|exact hce.out _ hM2) (first|(go_at_call 39;refine(HT.out _).mono ?_;rintro y w1 ⟨rfl,rfl⟩)|(go_at_call 23;refine(HDg.out _).mono ?_;rintro y w2 ⟨rfl,hb2⟩;have hM2:=hM.below ((Below.refl wr.heap.size wr).drew.trans hb2)));have hM2':=hM2;clear hM hb2;go_upto_region 11 with (go_at_call 81;refine(HAt.out _ hM2).mono ?_;rintro y w3 ⟨rfl,hb3⟩);have hM3:=hM2.below hb3;clear hM2 hM2' hb3 HAt HDg HT c1 c2';obtain⟨c1,c2'⟩:=hce.out _ hM3;have hst:=svStep_at hX.out hRx.out;rw[<-htk.out] at hst;have hST:Hid _:=hst;have hil':∀i,R=some i->i<X.length:=λi hi=>qbB (hRx.out.trans hi);clear hst htk hRx;have co1:=ZC hM3.out 1;cases R with
   | none =>
    have hat:Hid (atI none = -1):=rfl;rw[hat.out];by_cases hfull:20000<=X.length
    ·have hO:Hid (O=codeO 1):=by
      have h5:=hST.out;rw[show stepR X ad e none=SvR.full from if_pos hfull] at h5;show _=_;rw[hsv.out,svAll_stuck h5 rfl];rfl
     have z2:decide ((20000:Int)<=(X.length:Int))=true:=(by rw[decide_eq_true_eq];omega);have z3:((X.length:Int) ≥ 20000):=(by omega);obtain⟨d0,d1,d2,d3,d4,d5,df⟩:=hM3.res.at;have hB3:=hM3.res.all 1 0 none 0 0 ⟨#[]⟩ ⟨#[]⟩ ⟨#[]⟩;have hF3:SavedIs (codeO 1) w (.returned (svV 1 0 none 0 0 ⟨#[]⟩ ⟨#[]⟩ ⟨#[]⟩)) (set6 w3 (gp+1) 1 0 none 0 0 ⟨#[]⟩ ⟨#[]⟩ ⟨#[]⟩):=SavedIs.code hM3.own.bel hM3.res (by omega);clear hST;go_wp2_with fail;exact retS Tryz.results33 rfl rfl hB3 (by rw[hO.out];exact hF3)
    ·have hA2:Hid (svAll wd ss (es.take (k+1))=.go (ad++[e])):=by
      have h5:=hST.out;rw[show stepR X ad e none=SvR.go (ad++[e]) from if_neg hfull] at h5;exact h5
     have z2:decide ((20000:Int)<=(X.length:Int))=false:=(by rw[decide_eq_false_iff_not];omega);have z3:¬ ((X.length:Int) ≥ 20000):=(by omega);have hXe:Hid ((X++[e]).length=X.length+1):=(by show _=_;rw[List.length_append];rfl);have hXs2:Hid (∀j,((X++[e]).getD j ⟨#[]⟩).size<=1048575):=λj=>by
      rw[zL,List.getElem?_append]
      split
      ·have:=hXs j;rw[zL] at this;exact this
      ·cases hx:([e]:List ByteArray)[j-X.length]? with
       | none=>exact Nat.zero_le _
       | some y =>
        have:y ∈ [e]:=List.mem_of_getElem? hx;rw[List.mem_singleton] at this;subst this;show y.size<=_;omega
     clear hST;go_upto_region 14 with fail;have hMd:MS w gp go ge wd a N c K ce es X X gh ch ao co w3.drew:=hM3.below ((Below.refl w3.heap.size w3).drew);have ownd:=hMd.own.own;have hbs:=hM3.own.bel.size;have cd:=ZC hM3.out 1;have hgl1:=(zG hM3.out).1;have hgl2:=hM3.enc.lt;have cdA:∀o,(w3.alloc o).cell? ⟨go,1,none⟩=some (.slice ao X.length co):=λo=>(World.cell?_alloc_lt _ _ _ (by show go<_;exact hgl1)).trans cd;have ceA:∀o,(w3.alloc o).cell? ⟨ge,k,none⟩=some (.string e):=λo=>(World.cell?_alloc_lt _ _ _ (by show ge<_;exact hgl2)).trans c1;clear hM3;go_region_law (first
      | (refine step_append_lies _ (by rfl) (.tmp 61) (.tmp 66) 25 (by rfl) w.heap.size 9 i0 (.string ⟨#[]⟩) 1 16 Tryz.underlying25 hi0 hz0 hz1 hz2 (by rfl) (by decide) (.slice ao X.length co) X.length (X.map Value.string) (by rfl) (ownd.alloc _) ⟨w3.heap.size,0,none⟩ 1 1 [.string e] (by rfl) (by rfl) (World.news_of_block (heap_alloc_new w3.drew _)) (by simp[Value.oneCell']) (by decide) (by unfold maxLen;omega) (by omega) (by simp;omega) (w3.heap.size+1) (by simp) ?_;intro g4 c4 w4 hown4 hgrow4 hat4 hlt4;have hlb4:=(hgrow4.block go (by simp;omega) (hMd.notOwn hMd.out (by decide))).trans ((Below.heap_alloc w3.drew _ go hgl1).trans hMd.out);have k1:=ZC hlb4 1;have f1:w4.frozen? ⟨go,1,none⟩=false:=by rw[World.frozen?,hlb4];rfl))
     all_goals
      have hM5:=hMd.addOut hown4 hgrow4 hat4;generalize w4.setCell ⟨go,1,none⟩ (.slice (some ⟨g4,0,none⟩) (X.length+1) c4)=W5 at hM5⊢;have hbs5:=hM5.own.bel.size;go_wp2_with (at_builtin;refine qaH _ rfl (.tmp 69) (.tmp 71) 25 rfl 9 i0 (.string ⟨#[]⟩) 16 Tryz.underlying25 hi0 hz0 hz1 hz2 rfl w.heap.size gh X.length ch _ rfl (hM5.hs.alloc _) ⟨W5.heap.size,0,none⟩ 1 1 [.string He] rfl rfl (World.news_of_block (heap_alloc_new W5 _)) (by simp[Value.oneCell']) (by unfold maxLen;omega) (by omega) (by simp;omega) (W5.heap.size+1) (by simp) ?_;intro g6 c6 w6 hrow6 hgrow6 hat6 _);rw[<-hHe.out] at hrow6;have hM6:=hM5.addHash hrow6 hgrow6 hat6;go_roundw
      case rel=>exact⟨k+1,X++[e],ad++[e],g6,c6,some ⟨g4,0,none⟩,c4,hlt,by go_num,by rw[hXe.out],(show _=_ by rw[hX.out,List.append_assoc]),hA2.out,by rw[hXe.out];omega,hXs2.out,hM6⟩
      case measure=>simp[intOf];omega
   | some i =>
    have hil:i<X.length:=hil' i rfl;have hat:Hid (atI (some i)=(i:Int)):=rfl;rw[hat.out];have hy0:(0:Int)<=(i:Int):=Int.natCast_nonneg _;have hy1:(i:Int)<(X.length:Int):=(by omega);have y1:decide ((i:Int)<0)=false:=(by rw[decide_eq_false_iff_not];omega);obtain⟨b,off,rfl,hbl,hcs⟩:=(qbv hM3.own.own (by omega) (λj=>by have:=hXs j;omega)).at_ (by omega);have hcu:=hcs i hil;have hus:=hXs i;obtain⟨u,hu⟩:=eX (X.getD i ⟨#[]⟩);have HS:Hid (∀W,MS w gp go ge wd a N c K ce es X X gh ch (some ⟨b,off,none⟩) co W->W.cell? ⟨gp,0,none⟩=some (.int .i64 (wd:Int))/\W.cell? ⟨gp,1,none⟩=some (.slice a N c)/\W.cell? ⟨go,1,none⟩=some (.slice (some ⟨b,off,none⟩) X.length co)/\W.cell? ⟨b,off+i,none⟩=some (.string u)/\W.cell? ⟨ge,k,none⟩=some (.string e)):=λW hW=>by
     obtain⟨q1,q2⟩:=hce.out _ hW;obtain⟨b',off',hbe,_,hcs'⟩:=(qbv hW.own.own (by omega) (λj=>by have:=hXs j;omega)).at_ (by omega);simp only[Option.some.injEq,Addr.mk.injEq,and_true] at hbe;obtain⟨rfl,rfl⟩:=hbe;exact⟨q2,ZC hW.par 1,ZC hW.out 1,by rw[hcs' i hil,hu],q1⟩
    rw[hu] at hcu hus;by_cases hue:u=e
    ·have hA2:Hid (svAll wd ss (es.take (k+1))=.go ad):=by
      have h5:=hST.out;rw[show stepR X ad e (some i)=SvR.go ad from if_pos (hu.trans hue)] at h5;exact h5
     have z2:(u.toList == e.toList)=true:=(by rw[qcD,decide_eq_true hue]);have z3:(u.toList != e.toList)=false:=(by rw[bne,z2];rfl);clear hST HS hu hue hcs;go_wp2_with (go_region);go_roundw
     case rel=>exact⟨k+1,X,ad,gh,ch,_,co,hlt,by go_num,rfl,hX.out,hA2.out,hXl,hXs,hM3.below (Below.refl _ _).drew⟩
     case measure=>simp[intOf];omega
    ·have hO:Hid (O=⟨4,(wd:Int),ss,⟨#[]⟩,txt u,txt e⟩):=by
      have h5:=hST.out;rw[show stepR X ad e (some i)=SvR.clash u e from by show (if X.getD i ⟨#[]⟩=e then SvR.go ad else SvR.clash (X.getD i ⟨#[]⟩) e)=_;rw[hu,if_neg hue]] at h5;show _=_;rw[hsv.out,svAll_stuck h5 rfl];rfl
     have z2:(u.toList == e.toList)=false:=(by rw[qcD,decide_eq_false hue]);have z3:(u.toList != e.toList)=true:=(by rw[bne,z2];rfl);have HTu:Hid (∀w',Calls prog 39 #[.string u] w' λy w''=>y=.returned (.string (txt u))/\w''=w'):=λw'=>ltxt_any u w' (by omega);have HTe:Hid (∀w',Calls prog 39 #[.string e] w' λy w''=>y=.returned (.string (txt e))/\w''=w'):=λw'=>ltxt_any e w' (by omega);have hgne:gp ≠ gp+1/\go ≠ gp+1/\b ≠ gp+1/\ge ≠ gp+1:=by
      refine⟨by omega,λq=>?_,λq=>?_,hM3.n2.2.1⟩
      ·have h1:w3.heap[gp+1]?=_:=hM3.res;rw[<-q,hM3.out] at h1;simp at h1
      ·exact hM3.notOwn (show w3.heap[gp+1]?=_ from hM3.res) (by decide) (by rw[<-q];rfl)
     have HK:Hid (∀ (W:World) (o:Nat) (v:Value),(W.cell? ⟨gp,0,none⟩=some (.int .i64 (wd:Int))/\W.cell? ⟨gp,1,none⟩=some (.slice a N c)/\W.cell? ⟨go,1,none⟩=some (.slice (some ⟨b,off,none⟩) X.length co)/\W.cell? ⟨b,off+i,none⟩=some (.string u)/\W.cell? ⟨ge,k,none⟩=some (.string e))->(W.setCell ⟨gp+1,o,none⟩ v).cell? ⟨gp,0,none⟩=some (.int .i64 (wd:Int))/\(W.setCell ⟨gp+1,o,none⟩ v).cell? ⟨gp,1,none⟩=some (.slice a N c)/\(W.setCell ⟨gp+1,o,none⟩ v).cell? ⟨go,1,none⟩=some (.slice (some ⟨b,off,none⟩) X.length co)/\(W.setCell ⟨gp+1,o,none⟩ v).cell? ⟨b,off+i,none⟩=some (.string u)/\(W.setCell ⟨gp+1,o,none⟩ v).cell? ⟨ge,k,none⟩=some (.string e)):=λW o v h=>by
      have hf:∀ (q j:Nat) (x:Value),q ≠ gp+1->W.cell? ⟨q,j,none⟩=some x->(W.setCell ⟨gp+1,o,none⟩ v).cell? ⟨q,j,none⟩=some x:=λq j x hne hx=>((qae W (gp+1) o v).cell_far ⟨q,j,none⟩ (World.block_lt_of_cell? W _ hx) (by intro e;exact hne (Option.some.inj e))).trans hx;exact⟨hf _ _ _ hgne.1 h.1,hf _ _ _ hgne.1 h.2.1,hf _ _ _ hgne.2.1 h.2.2.1,hf _ _ _ hgne.2.2.1 h.2.2.2.1,hf _ _ _ hgne.2.2.2 h.2.2.2.2⟩
     clear hST hu hue hcs;go_upto_region 17 with (go_region);have hMd:MS w gp go ge wd a N c K ce es X X gh ch (some ⟨b,off,none⟩) co w3.drew:=hM3.below ((Below.refl w3.heap.size w3).drew);have hMd:=hMd.below ((Below.refl w3.drew.heap.size w3.drew).drew);clear hM3 c1 c2' co1 hcu;refine wp_region_held_drew (S:=λW=>W.cell? ⟨gp,0,none⟩=some (.int .i64 (wd:Int))/\W.cell? ⟨gp,1,none⟩=some (.slice a N c)/\W.cell? ⟨go,1,none⟩=some (.slice (some ⟨b,off,none⟩) X.length co)/\W.cell? ⟨b,off+i,none⟩=some (.string u)/\W.cell? ⟨ge,k,none⟩=some (.string e)) (by kernel_rfl) (HS.out _ hMd) (λhHeld=>?_);refine tkI 0 ?_;simp only[Act.put,zq];refine tkI 2 ?_;simp only[Act.put,zq];refine tkI 3 ?_;simp only[Act.put,zq];refine tkI 4 ?_;simp only[Act.put,zq];refine tkI 5 ?_;simp only[Act.put,zq];refine tkI 6 ?_;simp only[Act.put,zq];refine tkI 8 ?_;simp only[Act.put,zq];refine tkI 9 ?_;simp only[Act.put,zq];refine tkI 10 ?_;simp only[Act.put,zq];refine tkI 11 ?_;simp only[Act.put,zq];refine rdH 1 (λK hK=>?_);go_simp;refine(HC.out _ hMd.own.bel).mono ?_;rintro y w4 ⟨a4,c4,rfl,hT4⟩;have hM4:=hMd.below hT4.bel;have h4S:=HS.out _ hM4;refine hK.out _ _ (h4S) (λhHeld=>?_);clear hK K;refine rdH 7 (λK hK=>?_);go_simp;refine(HTu.out _).mono ?_;rintro y w5 ⟨rfl,rfl⟩;refine hK.out _ _ (h4S) (λhHeld=>?_);clear hK K;refine rdH 12 (λK hK=>?_);go_simp;refine(HTe.out _).mono ?_;rintro y w6 ⟨rfl,rfl⟩;obtain⟨d0,d1,d2,d3,d4,d5,df⟩:=hM4.res.at;have h6S:=HK.out _ 5 (.string (txt e)) (HK.out _ 4 (.string (txt u)) (HK.out _ 3 (.string ⟨#[]⟩) (HK.out _ 2 (.slice a4 N c4) (HK.out _ 1 (.int .i64 (wd:Int)) (HK.out _ 0 (.int .i64 4) h4S)))));refine hK.out _ _ (h4S) (λhHeld=>?_);clear hK K;refine tkI 13 ?_;simp only[Act.put,zq];refine rdH 14 (λK hK=>?_);go_simp;refine hK.out _ _ (h6S) (λhHeld=>?_);clear hK K;refine wpAnyH_done (by kernel_rfl) ?_ _;have hB3:=hM4.res.all 4 (wd:Int) a4 N c4 ⟨#[]⟩ (txt u) (txt e);have hT7:=(hT4.up hMd.own.bel).set6 hM4.res (by omega) 4 (wd:Int) a4 N c4 ⟨#[]⟩ (txt u) (txt e);have hfin:Hid (∀W,OwnT w ss a4 N c4 W->SavedIs O w (.returned (svV 4 (wd:Int) a4 N c4 ⟨#[]⟩ (txt u) (txt e))) W):=λW hW=>by
      rw[hO.out];refine⟨a4,c4,?_,?_⟩
      ·show Ending.returned _=Ending.returned _;rw[hNl.out]
      ·show OwnT w ss a4 ss.length c4 W;rw[hNl.out];exact hW
     go_wp2_with fail;exact retS Tryz.results33 rfl rfl hB3 (hfin.out _ hT7)
  ·obtain rfl:k=K:=by omega
   have z1:decide ((k:Int)<(k:Int))=false:=(by simp);have hA2:svAll wd ss es=.go ad:=by
    have:=hAll.out;rw[List.take_of_length_le (by omega)] at this;exact this
   have hO:Hid (O=⟨0,(wd:Int),X,root,⟨#[]⟩,⟨#[]⟩⟩):=by
    show _=_;rw[hsv.out,hA2,hX.out];rfl
   have co0:=ZC hM.out 0;have co1:=ZC hM.out 1;obtain⟨d0,d1,d2,d3,d4,d5,df⟩:=hM.res.at;have hB3:=hM.res.all 0 (wd:Int) ao X.length co root ⟨#[]⟩ ⟨#[]⟩;have hT3:=hM.own.set6 hM.res (by omega) 0 (wd:Int) ao X.length co root ⟨#[]⟩ ⟨#[]⟩;have hfin:Hid (SavedIs O w (.returned (svV 0 (wd:Int) ao X.length co root ⟨#[]⟩ ⟨#[]⟩)) (set6 wr (gp+1) 0 (wd:Int) ao X.length co root ⟨#[]⟩ ⟨#[]⟩)):=(by rw[hO.out];exact⟨ao,co,rfl,hT3⟩);clear hA2 hT3;go_wp2_with fail;exact retS Tryz.results33 rfl rfl hB3 hfin.out
theorem qce (HD:Hid DigSaid)(n:Int)(a:Option Addr)(ss:List ByteArray)(c:Nat)(a2:Option Addr)(ps:List PairT)(c2:Nat)(w:World)(h:SArg a ss w)(hq:Hid (∀j,(ss.getD j ⟨#[]⟩).size<=1048575))(h2:PArg a2 ps w)(hc2:ps.length<=c2) : Calls prog 33 #[.agg #[.int .i64 n,.slice a ss.length c],.slice a2 ps.length c2] w (SavedIs (saveO n ss ps) w):=by
 by_cases hpm:(poolOk n ss.length && isMapT ps)=true
 ·have hp2:=(Bool.and_eq_true _ _).mp hpm;have hp':1<=n/\n<=32/\ss.length<=20000:=of_decide_eq_true hp2.1;obtain⟨wd,rfl⟩:∃wd:Nat,n=(wd:Int):=⟨n.toNat,by omega⟩;have ho:saveO (wd:Int) ss ps=savO wd ss (cutTree ps):=(by unfold saveO;rw[if_pos hpm];rfl);rw[ho];exact ssave_yes HD wd a ss c a2 ps c2 w h hq h2 hc2 (by omega) (by omega) hp'.2.2 hp2.2
 have ho:saveO n ss ps=codeO 1:=by unfold saveO;rw[if_neg hpm]
 rw[ho];have HV:Hid (∀w',Calls prog 79 #[.agg #[.int .i64 n,.slice a ss.length c]] w' λe w''=>e=.returned (.bool (poolOk n ss.length))/\Below w'.heap.size w' w''):=λw'=>qbJ n a ss.length c w' h.le;have HM:Hid (∀w',Below w.heap.size w w'->Calls prog 68 #[.slice a2 ps.length c2] w' λe w''=>e=.returned (.bool (isMapT ps))/\Below w'.heap.size w' w''):=λw' hb=>mapOk_any a2 ps c2 w' (h2.below hb);have hbA:Below w.heap.size w ((w.alloc (.cells #[.int .i64 n,.slice a ss.length c] 31)).alloc (.cells #[.int .i64 0,.int .i64 0,.slice none 0 0,.string ⟨#[]⟩,.string ⟨#[]⟩,.string ⟨#[]⟩] 56)):=((Below.refl _ _).alloc (Nat.le_refl _) _).alloc (by simp) _;have nB:=heap_alloc_new (w.alloc (.cells #[.int .i64 n,.slice a ss.length c] 31)) (.cells #[.int .i64 0,.int .i64 0,.slice none 0 0,.string ⟨#[]⟩,.string ⟨#[]⟩,.string ⟨#[]⟩] 56);have nA:=(Below.heap_alloc (w.alloc (.cells #[.int .i64 n,.slice a ss.length c] 31)) (.cells #[.int .i64 0,.int .i64 0,.slice none 0 0,.string ⟨#[]⟩,.string ⟨#[]⟩,.string ⟨#[]⟩] 56) w.heap.size (by simp)).trans (heap_alloc_new w _);rw[World.size_alloc] at nB;obtain⟨gp,hgp⟩:∃g,w.heap.size=g:=⟨_,rfl⟩;have hge':w.heap.size<=gp+1:=by omega
 clear h h2 ho;go_enter func33,ntmps33;go_upto_region 1 with fail;generalize (w.alloc (.cells #[.int .i64 n,.slice a ss.length c] 31)).alloc (.cells #[.int .i64 0,.int .i64 0,.slice none 0 0,.string ⟨#[]⟩,.string ⟨#[]⟩,.string ⟨#[]⟩] 56)=wA at hbA nA nB⊢
 try rw[hgp]
 rw[hgp] at nA nB;have p0:=ZC nA 0;have p1:=ZC nA 1;have HB:Hid (∀W,Below wA.heap.size wA W->Below w.heap.size w W/\SB (gp+1) 0 0 none 0 0 ⟨#[]⟩ ⟨#[]⟩ ⟨#[]⟩ W):=λW hW=>⟨hbA.trans (hW.mono hbA.size),qap hW nB⟩;cases hp:poolOk n ss.length with
 | false =>
  rw[hp] at HV;go_wp2_with (first|(go_at_call 79;refine(HV.out _).mono ?_;rintro e w1 ⟨rfl,hb1⟩;obtain⟨hbw,hB1⟩:=HB.out _ hb1;obtain⟨d0,d1,d2,d3,d4,d5,df⟩:=hB1.at));exact retS Tryz.results33 rfl rfl (hB1.all 1 0 none 0 0 ⟨#[]⟩ ⟨#[]⟩ ⟨#[]⟩) (SavedIs.code hbw hB1 hge')
 | true =>
  have hm:isMapT ps=false:=by
   cases hm:isMapT ps with
   | false=>rfl
   | true=>exact absurd (by rw[hp,hm];rfl) hpm
  rw[hp] at HV;rw[hm] at HM;go_wp2_with (first|(go_at_call 79;refine(HV.out _).mono ?_;rintro e w1 ⟨rfl,hb1⟩)|(go_at_call 68;refine(HM.out _ (hbA.trans (hb1.mono hbA.size))).mono ?_;rintro e w2 ⟨rfl,hb2⟩;obtain⟨hbw,hB1⟩:=HB.out _ (hb1.trans (hb2.mono hb1.size));obtain⟨d0,d1,d2,d3,d4,d5,df⟩:=hB1.at));exact retS Tryz.results33 rfl rfl (hB1.all 1 0 none 0 0 ⟨#[]⟩ ⟨#[]⟩ ⟨#[]⟩) (SavedIs.code hbw hB1 hge')
theorem wout_mem {ps:List PairT}{k:ByteArray}{p:PairT}(h:p ∈ wout ps k):p ∈ ps:=(List.mem_filter.1 h).1
theorem ins_mem {k v:ByteArray}:∀ {ps:List PairT} {p:PairT},p ∈ ins k v ps->p=(k,v)\/p ∈ ps
 | [],p,h=>.inl (List.mem_singleton.1 h)
 | q :: qs,p,h=>by
  rw[ins] at h
  split at h
  ·exact List.mem_cons.1 h
  ·rcases List.mem_cons.1 h with h|h
   ·exact .inr (by rw[h];exact List.mem_cons_self ..)
   ·rcases ins_mem h with h|h
    ·exact .inl h
    ·exact .inr (List.mem_cons_of_mem _ h)
theorem ins_len (k v:ByteArray):∀ (ps:List PairT),(ins k v ps).length=ps.length+1
 | []=>rfl
 | q :: qs=>by
  rw[ins]
  split
  ·rfl
  ·rw[List.length_cons,ins_len k v qs];rfl
theorem wth_mem {ps:List PairT}{k v:ByteArray}{p:PairT}(h:p ∈ wth ps k v):p=(k,v)\/p ∈ ps:=by
 rcases ins_mem h with h|h
 ·exact .inl h
 ·exact .inr (wout_mem h)
theorem wthLen (ps:List PairT)(k v:ByteArray):(wth ps k v).length<=ps.length+1:=by
 unfold wth;rw[ins_len];have:=qdp ps k;omega
theorem qbg {ps:List PairT}(h:ps.length<=1048576)(hs:∀p ∈ ps,p.1.size<=1048576/\p.2.size<=1048576):SmallP ps:=by
 refine⟨h,λj=>?_⟩;by_cases hj:j<ps.length
 ·rw[qaF ps j hj];exact hs _ (List.getElem_mem _)
 ·rw[pget_out ps j (by omega)];exact noP_small
theorem qaU {w:World}{base n m c:Nat}{a:Option Addr}{xs:List Value}(h:w.ownsRow base 81 2 (.slice a m c) n xs):m<=c:=by
 rcases h.2 with ⟨e,h0⟩|⟨g,cap,cur,e,hb,hg,q1,q2,q3,q4⟩
 ·simp only[Value.slice.injEq] at e;omega
 ·simp only[Value.slice.injEq] at e;omega
theorem less_nil (k:ByteArray):lessB k ⟨#[]⟩=false:=by
 unfold lessB;rw[ByteArray.toList_eq,ByteArray.toList_eq];cases k.data.toList <;> rfl
theorem nil_less {k:ByteArray}(h:emp k=false):lessB ⟨#[]⟩ k=true:=by
 unfold emp at h;have h1:¬ k.size=0:=of_decide_eq_false h;unfold lessB;rw[ByteArray.toList_eq,ByteArray.toList_eq];have h2:¬ k.data.toList.length=0:=h1;cases hk:k.data.toList with
 | nil=>rw[hk] at h2;exact absurd rfl h2
 | cons x xs=>simp[Op.bytesLess]
theorem canW_all (over under:ByteArray):canW over under ⟨#[]⟩ ⟨#[]⟩=true:=by
 unfold canW;have e0:emp ⟨#[]⟩=true:=rfl;rw[e0,Bool.true_or,Bool.true_and];cases h:emp under with
 | true=>rfl
 | false=>rw[nil_less h];rfl
theorem hasW_all (k:ByteArray):hasW ⟨#[]⟩ ⟨#[]⟩ k=true:=by
 unfold hasW;rw[less_nil];rfl
theorem less_le {a b c:ByteArray}(h:lessB a b=true)(k:lessB c b=false):lessB a c=true:=by
 by_cases e:b=c
 ·subst e;exact h
 ·have:=lessB_or c b k (λq=>e q.symm);exact qaT h this
theorem canW_no {over under lo hi x:ByteArray}(h:canW over under lo hi=false)(h1:lessB over x=true)(h2:emp under=true\/lessB x under=true):hasW lo hi x=false:=by
 unfold canW at h;unfold hasW;rcases Bool.and_eq_false_iff.1 h with h|h
 ·rcases Bool.or_eq_false_iff.1 h with ⟨he,hb⟩
  rw[he,Bool.false_or];rcases Bool.and_eq_false_iff.1 hb with hb|hb
  ·cases hx:lessB x hi with
   | false=>rw[Bool.and_false]
   | true=>rw[less_le hx hb];rfl
  ·cases hx:lessB x hi with
   | false=>rw[Bool.and_false]
   | true =>
    have:=qaT h1 hx;rw[this] at hb;cases hb
 ·rcases Bool.or_eq_false_iff.1 h with ⟨he,hb⟩
  rcases h2 with h2|h2
  ·rw[h2] at he;cases he
  ·rw[less_le h2 hb];rfl
theorem qcP {fnd:ByteArray->FN}{hg:ByteArray->ByteArray->Bool}{wd:Nat}(hfo:FndOk wd fnd)(lo hi:ByteArray):∀ (f:Nat) (hash over under par:ByteArray) (cnt cnt':Nat),cnt'<=cnt->cnt<=500->(goF fnd hg ⟨#[]⟩ ⟨#[]⟩ f hash over under par cnt).1=0 →
 (goF fnd hg lo hi f hash over under par cnt').1=0/\(goF fnd hg lo hi f hash over under par cnt').2.1<=(goF fnd hg ⟨#[]⟩ ⟨#[]⟩ f hash over under par cnt).2.1/\(goF fnd hg lo hi f hash over under par cnt').2.2=(goF fnd hg ⟨#[]⟩ ⟨#[]⟩ f hash over under par cnt).2.2.filter (λp=>hasW lo hi p.1)
 | 0,_,_,_,_,_,_,_,_,h=>by rw[goF] at h;exact absurd h (by decide)
 | f+1,hash,over,under,par,cnt,cnt',hc,h5,h=>by
  have hup:=(goF_up (hg:=hg) (lo:=⟨#[]⟩) (hi:=⟨#[]⟩) hfo (f+1) hash over under par cnt).2
  cases he:emp hash with
  | true =>
   have s1:(emp hash || !canW over under ⟨#[]⟩ ⟨#[]⟩)=true:=by rw[he];rfl
   have s2:(emp hash || !canW over under lo hi)=true:=by rw[he];rfl
   rw[qaQ s1,qaQ s2]
   exact⟨rfl,hc,rfl⟩
  | false =>
   have s1:(emp hash || !canW over under ⟨#[]⟩ ⟨#[]⟩)=false:=by rw[he,canW_all];rfl
   by_cases h2:(fnd hash).2=2
   ·rw[qbm s1 h2] at h;exact absurd h (by decide)
   ·by_cases h20:(fnd hash).2=0
    ·cases h3:(insW over under (fnd hash).1.1 && parW hg par (fnd hash).1.1) with
     | false=>rw[qbD s1 h20 h3] at h;exact absurd h (by decide)
     | true =>
      by_cases h4:500<cnt+1
      ·rw[qdf s1 h20 h3 h4] at h;exact absurd h (by decide)
      ·have e:fnd hash=(((fnd hash).1.1,(fnd hash).1.2.1,(fnd hash).1.2.2.1,(fnd hash).1.2.2.2),0):=by rw[<-h20]
       have hn:=qbc (cnt:=cnt) (f:=f) s1 e h3 (by omega) rfl rfl
       rw[hn] at h hup⊢
       have hL0:(goF fnd hg ⟨#[]⟩ ⟨#[]⟩ f (fnd hash).1.2.2.1 over (fnd hash).1.1 (fnd hash).1.1 (cnt+1)).1=0:=by
        by_cases q:(goF fnd hg ⟨#[]⟩ ⟨#[]⟩ f (fnd hash).1.2.2.1 over (fnd hash).1.1 (fnd hash).1.1 (cnt+1)).1=0
        ·exact q
        ·rw[if_pos q] at h;exact absurd h q
       rw[if_neg (by rw[hL0];simp)] at h hup⊢
       have hR0:(goF fnd hg ⟨#[]⟩ ⟨#[]⟩ f (fnd hash).1.2.2.2 (fnd hash).1.1 under (fnd hash).1.1 (goF fnd hg ⟨#[]⟩ ⟨#[]⟩ f (fnd hash).1.2.2.1 over (fnd hash).1.1 (fnd hash).1.1 (cnt+1)).2.1).1=0:=by
        by_cases q:(goF fnd hg ⟨#[]⟩ ⟨#[]⟩ f (fnd hash).1.2.2.2 (fnd hash).1.1 under (fnd hash).1.1 (goF fnd hg ⟨#[]⟩ ⟨#[]⟩ f (fnd hash).1.2.2.1 over (fnd hash).1.1 (fnd hash).1.1 (cnt+1)).2.1).1=0
        ·exact q
        ·rw[if_pos q] at h;exact absurd h q
       rw[if_neg (by rw[hR0];simp)] at h hup⊢
       rw[hasW_all,if_pos rfl] at hup⊢
       have hcl:=qbo (fnd:=fnd) (hg:=hg) (lo:=⟨#[]⟩) (hi:=⟨#[]⟩) f (fnd hash).1.2.2.1 over (fnd hash).1.1 (fnd hash).1.1 (cnt+1) (by omega) hL0
       have hcr:=qbo (fnd:=fnd) (hg:=hg) (lo:=⟨#[]⟩) (hi:=⟨#[]⟩) f (fnd hash).1.2.2.2 (fnd hash).1.1 under (fnd hash).1.1 _ hcl.2 hR0
       cases hcw:canW over under lo hi with
       | false =>
        have s2:(emp hash || !canW over under lo hi)=true:=by rw[hcw,Bool.not_false,Bool.or_true]
        rw[qaQ s2]
        refine⟨rfl,?_,?_⟩
        ·show cnt'<=_
         have:=hcl.1
         have:=hcr.1
         simp only
         omega
        ·symm
         refine filter_no λp hp=>?_
         have:=hup p.1 (qcs hp)
         exact canW_no hcw this.1 this.2
       | true =>
        have s2:(emp hash || !canW over under lo hi)=false:=by rw[he,hcw];rfl
        obtain⟨a1,a2,a3⟩:=qcP hfo lo hi f (fnd hash).1.2.2.1 over (fnd hash).1.1 (fnd hash).1.1 (cnt+1) (cnt'+1) (by omega) (by omega) hL0
        obtain⟨b1,b2,b3⟩:=qcP hfo lo hi f (fnd hash).1.2.2.2 (fnd hash).1.1 under (fnd hash).1.1 _ _ a2 hcl.2 hR0
        rw[qbc s2 e h3 (by omega) rfl rfl,if_neg (by rw[a1];simp),if_neg (by rw[b1];simp)]
        refine⟨rfl,b2,?_⟩
        simp only[List.filter_append]
        rw[a3,b3]
        congr 2
        rw[List.filter_cons]
        split <;> rfl
    ·rw[goF,if_neg (by rw[s1];decide),if_neg h2,if_pos h20] at h;exact absurd h (by decide)
end Go.Proofs.YtibjhkpgaaapaaaGreatDoor
