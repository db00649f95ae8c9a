import Derived.Test.YtibjhkpgaaapaaaGreatDoorZiai
import Derived.Test.YtibjhkpgaaapaaaGreatDoorZiaf
import Derived.Test.YtibjhkpgaaapaaaGreatDoorZiac
import Derived.Test.YtibjhkpgaaapaaaGreatDoorZiaa
import Derived.Test.YtibjhkpgaaapaaaGreatDoorZiab
import Derived.Test.YtibjhkpgaaapaaaGreatDoorZiah
set_option maxRecDepth 100000
set_option maxHeartbeats 3000000
namespace Go.Proofs.YtibjhkpgaaapaaaGreatDoor
open Go.RowKit Go.Proofs.Sha Tryz
theorem qaD {B:Nat}{a w:World}(n:Nat)(h:Below B a w):Below B a (w.drewN n):=⟨h.os,h.tape,h.output,h.size,h.block⟩
theorem mapOk_any (a:Option Addr)(ps:List PairT)(c:Nat)(w:World)(h:PArg a ps w) : Calls prog 68 #[.slice a ps.length c] w λe w'=>e=.returned (.bool (isMapT ps))/\Below w.heap.size w w':=by
 have hn:=h.le;obtain⟨n,hnn⟩:=eX (ps.length);obtain⟨B,hB⟩:=eX (isMapT ps);rw[hB,hnn];rw[hnn] at hn;by_cases hx:500<n
 ·have hf:Hid (B=false):=(by show B=false;rw[<-hB];unfold isMapT;rw[decide_eq_false (by omega),Bool.false_and]);have z1:decide ((500:Int)<(n:Int))=true:=(by rw[decide_eq_true_eq];omega);have z2:decide ((n:Int) > 500)=true:=(by rw[decide_eq_true_eq];omega);clear hB;go_enter func68,ntmps68;go_wp2_with fail;go_ret;exact⟨by rw[hf.out];rfl,Below.refl _ _⟩
 ·have hBm:Hid (B=mapTo ps n):=(by show B=_;rw[<-hB];unfold isMapT;rw[decide_eq_true (by omega),Bool.true_and,hnn]);have z1:decide ((500:Int)<(n:Int))=false:=(by rw[decide_eq_false_iff_not];omega);have z2:decide ((n:Int) > 500)=false:=(by rw[decide_eq_false_iff_not];omega);have hnl:Hid (ps.length=n):=hnn;clear hB hnn;go_enter func68,ntmps68;go_wp2_with fail;go_loopw [3] (λt3 wr=>∃k:Nat,k<=n/\t3=.int .i64 (k:Int)/\Hid (mapTo ps k=true)/\Below w.heap.size w wr) (λt3 _=>n-(intOf t3).toNat)
  case atStart=>exact⟨0,Nat.zero_le _,rfl,rfl,Below.refl _ _⟩
  case round =>
   obtain⟨k,hk,rfl,hm,hbw⟩:=hrel;by_cases hlt:k<n
   ·have z3:decide ((k:Int)<(n:Int))=true:=(by simp;omega);have hx0:(0:Int)<=(k:Int):=Int.natCast_nonneg _;have hx1:(k:Int)<(n:Int):=(by omega);obtain⟨b,off,rfl,hbl,hc⟩:=(h.below hbw).at_ (by rw[hnl.out];omega);obtain⟨hc1,hc2⟩:=hc k (by rw[hnl.out];exact hlt);have hgd:Hid (goodAt ps k=(okKey (ps.getD k noPair).1 && (okVal (ps.getD k noPair).2 && Op.bytesLess (lastK ps k).toList (ps.getD k noPair).1.toList))):=rfl;obtain⟨hs1,hs2⟩:=h.sz k;have hkn:∀pk:ByteArray,okKey pk=true->Op.bytesLess (⟨#[]⟩:ByteArray).toList pk.toList=true:=λpk hok=>by
     unfold okKey at hok;rw[decide_eq_true_eq] at hok;have:pk.toList ≠ []:=λe=>by
      have hl:=congrArg List.length e;rw[ByteArray.toList_eq] at hl;have h0:pk.data.toList.length=pk.size:=rfl;have h1:pk.size=0:=h0.symm.trans hl;omega
     have e0:(⟨#[]⟩:ByteArray).toList=[]:=(by rw[ByteArray.toList_eq]);rw[e0];cases hp:pk.toList with
     | nil=>exact absurd hp this
     | cons x y=>rfl
    generalize hpk:(ps.getD k noPair).1=pk at hc1 hgd hs1;generalize (ps.getD k noPair).2=pv at hc2 hgd hs2;have H1:∀w',Calls prog 125 #[.string pk,.string pv] w' λe w''=>e=.returned (.bool (okKey pk && okVal pv))/\w''=w':=λw'=>pairOk_q pk pv w' hs1 hs2;cases hk1:(okKey pk && okVal pv) with
    | false =>
     rw[hk1] at H1;have hbf:Hid (B=false):=by
      show B=false;rw[hBm.out];exact qbr ps k n hlt (by rw[hgd.out,<-Bool.and_assoc,hk1,Bool.false_and])
     replace H1:Hid _:=H1
     clear hk1 hgd hm hBm hc hkn hpk;go_upto_region 6 with fail;go_quiet ((go_at_call 125;exact Calls.quiet_of_same (H1.out _)));go_wp2_with fail;go_ret;exact⟨by rw[hbf.out];rfl,qaD nq hbw⟩
    | true =>
     rw[hk1] at H1;have hok:okKey pk=true:=by cases hq:okKey pk with
      | true=>rfl
      | false=>rw[hq,Bool.false_and] at hk1;cases hk1
     have hg2:Hid (goodAt ps k=Op.bytesLess (lastK ps k).toList pk.toList):=by show _=_;rw[hgd.out,<-Bool.and_assoc,hk1,Bool.true_and]
     replace H1:Hid _:=H1
     by_cases hk0:k=0
     ·have hm':Hid (mapTo ps (k+1)=true):=by
       show _=_;rw[mapTo,hm.out,hg2.out,Bool.true_and];subst hk0;exact hkn pk hok
      have y0:¬ (0<(k:Int)):=(by omega);have y1:decide (0<(k:Int))=false:=(by rw[decide_eq_false_iff_not];exact y0);have y2:¬ (0<k):=(by omega);have y3:decide (0<k)=false:=(by rw[decide_eq_false_iff_not];exact y2);clear hk1 hgd hm hBm hc hkn hpk hg2 hk0 hok;go_upto_region 6 with fail;go_quiet ((go_at_call 125;exact Calls.quiet_of_same (H1.out _)));go_wp2_with fail;go_roundw
      case rel=>exact⟨k+1,hlt,by go_num,hm',qaD nq hbw⟩
      case measure=>simp[intOf];omega
     ·have y0:0<(k:Int):=(by omega);have y1:decide (0<(k:Int))=true:=(by rw[decide_eq_true_eq];exact y0);have y2:0<k:=(by omega);have y3:decide (0<k)=true:=(by rw[decide_eq_true_eq];exact y2);obtain⟨hc3,hc4⟩:=hc (k-1) (by rw[hnl.out];omega);obtain⟨hs3,hs4⟩:=h.sz (k-1);have hlk:lastK ps k=(ps.getD (k-1) noPair).1:=(by cases k with|zero=>exact absurd rfl hk0|succ k'=>rfl);rw[hlk] at hg2;generalize (ps.getD (k-1) noPair).1=pl at hc3 hs3 hg2;have H2:∀w',Calls prog 85 #[.string pl,.string pk] w' λe w''=>e=.returned (.bool (Op.bytesLess pl.toList pk.toList))/\∃m,w''=w'.drewN m:=λw'=>by
       rw[ByteArray.toList_eq,ByteArray.toList_eq];exact less_q pl pk w' hs3 hs1
      have x0:(0:Int)<=(k:Int)-1:=(by omega);have x1:(k:Int)-1<(n:Int):=(by omega);have x2:((k:Int)-1).toNat=k-1:=(by omega);have x3:wrap64 ((k:Int)-1)=(k:Int)-1:=(by unfold wrap64;omega);cases hlt2:Op.bytesLess pl.toList pk.toList with
      | false =>
       rw[hlt2] at H2 hg2;have hbf:Hid (B=false):=by
        show B=false;rw[hBm.out];exact qbr ps k n hlt hg2.out
       replace H2:Hid _:=H2
       clear hk1 hgd hm hBm hc hkn hpk hg2 hk0 hok hlt2 hlk hc4 hs4;go_upto_region 6 with fail;go_quiet (first|(go_at_call 125;exact Calls.quiet_of_same (H1.out _))|(go_at_call 85;exact Calls.quiet_of (H2.out _)));go_wp2_with fail;go_ret;exact⟨by rw[hbf.out];rfl,qaD nq hbw⟩
      | true =>
       rw[hlt2] at H2 hg2;have hm':Hid (mapTo ps (k+1)=true):=by
        show _=_;rw[mapTo,hm.out,hg2.out];rfl
       replace H2:Hid _:=H2
       clear hk1 hgd hm hBm hc hkn hpk hg2 hk0 hok hlt2 hlk hc4 hs4;go_upto_region 6 with fail;go_quiet (first|(go_at_call 125;exact Calls.quiet_of_same (H1.out _))|(go_at_call 85;exact Calls.quiet_of (H2.out _)));go_wp2_with fail;go_roundw
       case rel=>exact⟨k+1,hlt,by go_num,hm',qaD nq hbw⟩
       case measure=>simp[intOf];omega
   ·obtain rfl:k=n:=by omega
    have z3:decide ((k:Int)<(k:Int))=false:=(by simp);have hbt:Hid (B=true):=(by show B=true;rw[hBm.out,hm.out]);clear hBm hm;go_wp2_with fail;go_ret;exact⟨by rw[hbt.out];rfl,hbw⟩
def keyAt (ps:List PairT) (k:Nat):ByteArray:=(ps.getD k noPair).1
def shaB (s:ByteArray):ByteArray:=⟨(sha s.data.toList).toArray⟩
theorem shaB_size (s:ByteArray):(shaB s).size=32:=by
 show (sha s.data.toList).toArray.size=32;rw[List.size_toArray,sha_len]
def beats (x y a b:ByteArray):Bool:=Op.bytesLess y.data.toList x.data.toList || ((x.toList == y.toList) && Op.bytesLess a.data.toList b.data.toList)
def topTo (ps:List PairT):Nat->Nat
 | 0=>0
 | k+1=>if beats (shaB (keyAt ps (k+1))) (shaB (keyAt ps (topTo ps k))) (keyAt ps (k+1)) (keyAt ps (topTo ps k))=true then k+1 else topTo ps k
theorem qbs (ps:List PairT):∀k,topTo ps k<=k
 | 0=>Nat.le_refl _
 | k+1=>by
  rw[topTo]
  split
  ·exact Nat.le_refl _
  ·exact Nat.le_succ_of_le (qbs ps k)
theorem top_any (a:Option Addr)(ps:List PairT)(c:Nat)(w:World)(h:PArg a ps w)(h0:0<ps.length) : Calls prog 126 #[.slice a ps.length c] w λe w'=>e=.returned (.int .i64 (topTo ps (ps.length-1):Int))/\Below w.heap.size w w':=by
 have hn:=h.le;have HW:∀w',Below w.heap.size w w'->PArg a ps w':=λw' hb=>h.below hb;obtain⟨b,off,rfl,hbl,hc⟩:=h.at_ h0;have HC:∀w',Below w.heap.size w w'->∀j,j<ps.length->w'.cell? ⟨b,off+j*2,none⟩=some (.string (keyAt ps j)):=λw' hb j hj=>(hb.cell (p:=⟨b,off+j*2,none⟩) hbl).trans (hc j hj).1;obtain⟨n,hnn⟩:=eX (ps.length);rw[hnn];rw[hnn] at hn h0;have HS:∀j,(keyAt ps j).size<=1048576:=λj=>(h.sz j).1
 replace HW:Hid _:=HW
 replace HS:Hid _:=HS
 rw[hnn] at HC
 replace HC:Hid _:=HC
 have hnl:Hid (ps.length=n):=hnn;have hc0:w.cell? ⟨b,off+0*2,none⟩=some (.string (keyAt ps 0)):=HC.out w (Below.refl _ _) 0 h0;have hc0':w.cell? ⟨b,off,none⟩=some (.string (keyAt ps 0)):=hc0;have y0:(0:Int)<(n:Int):=by omega
 have H0:=λw'=>qcM (keyAt ps 0) w' (HS.out 0);have hX0:Hid ((⟨(sha (keyAt ps 0).data.toList).toArray⟩:ByteArray)=shaB (keyAt ps 0)):=rfl;generalize (⟨(sha (keyAt ps 0).data.toList).toArray⟩:ByteArray)=X0 at H0 hX0
 replace H0:Hid _:=H0
 clear hnn hc h hc0;generalize hk0:keyAt ps 0=k0 at hc0' H0;have hk0':Hid (keyAt ps 0=k0):=hk0;clear hk0;go_enter func126,ntmps126;go_wp2_with (go_at_call 64;refine(H0.out _).mono ?_);rintro _ w1 ⟨rfl,hb1⟩;go_wp2_with fail;go_loopw [3,4,5] (λt3 t4 t5 wr=>∃k T j:Nat,Hid (topTo ps k=T)/\Hid (j=k+1)/\T<=k/\k<n/\t3=.int .i64 (T:Int)/\t4=.string (shaB (keyAt ps T))/\t5=.int .i64 (j:Int)/\Below w.heap.size w wr) (λ_ _ t5 _=>n-(intOf t5).toNat)
 case atStart=>exact⟨0,0,1,rfl,rfl,Nat.le_refl _,h0,rfl,by rw[<-hX0.out],rfl,hb1⟩
 case round =>
  obtain⟨k,T,j,hT,hj,hTk,hk,rfl,rfl,rfl,hbw⟩:=hrel;by_cases hlt:j<n
  ·have z3:decide ((j:Int)<(n:Int))=true:=(by simp;omega);have z4:decide (j<n)=true:=(by rw[decide_eq_true_eq];exact hlt);have z0:(0:Int)<=(j:Int):=Int.natCast_nonneg _;have z1:(j:Int)<(n:Int):=(by omega);have q0:(0:Int)<=(T:Int):=Int.natCast_nonneg _;have q1:(T:Int)<(n:Int):=(by omega);have hc1:=HC.out wr hbw j hlt;have H1:=λw'=>qcM (keyAt ps j) w' (HS.out j);have hX:Hid ((⟨(sha (keyAt ps j).data.toList).toArray⟩:ByteArray)=shaB (keyAt ps j)):=rfl;rw[hX.out] at H1;have hxs:=shaB_size (keyAt ps j);have hys:=shaB_size (keyAt ps T);have hks:=HS.out j;have hls:=HS.out T;have hst:Hid (topTo ps j=if beats (shaB (keyAt ps j)) (shaB (keyAt ps T)) (keyAt ps j) (keyAt ps T)=true then j else T):=by
    show _=_;rw[hj.out,topTo,hT.out]
   have HD:∀w',Below w.heap.size w w'->w'.cell? ⟨b,off+j*2,none⟩=some (.string (keyAt ps j))/\w'.cell? ⟨b,off+T*2,none⟩=some (.string (keyAt ps T)):=λw' hb=>⟨HC.out w' hb j hlt,HC.out w' hb T (by omega)⟩;obtain⟨x,hx⟩:=eX (shaB (keyAt ps j));obtain⟨y,hy⟩:=eX (shaB (keyAt ps T));obtain⟨kj,hkj⟩:∃x,keyAt ps j=x:=⟨_,rfl⟩;obtain⟨kt,hkt⟩:∃x,keyAt ps T=x:=⟨_,rfl⟩;rw[hx,hy,hkj,hkt] at hst;rw[hy];rw[hx] at hxs;rw[hy] at hys;rw[hkj] at hks;rw[hkt] at hls;rw[hkj,hkt] at HD;rw[hkj] at hc1;rw[hx,hkj] at H1;have hxx:Hid (shaB (keyAt ps j)=x):=hx;have hyy:Hid (shaB (keyAt ps T)=y):=hy;have hxl:x.size<=1048576:=(by omega);have hyl:y.size<=1048576:=by omega
   replace HD:Hid _:=HD
   replace H1:Hid _:=H1
   have H2:=λw'=>less_q y x w' hyl hxl;have H3:=λw'=>less_q kj kt w' hks hls;clear hx hy hkj hkt hxs hys hxl hyl hX;go_upto_region 7 with (go_at_call 64;refine(H1.out _).mono ?_);rintro _ w2 ⟨rfl,hb2⟩;have hbw2:Below w.heap.size w w2:=hbw.trans (hb2.mono hbw.size);obtain⟨hd1,hd2⟩:=HD.out w2 hbw2;clear hb2 hbw hc1;have hTj:T<=j:=(by have:=hj.out;omega);go_upto_region 7 with fail;cases v1:Op.bytesLess y.data.toList x.data.toList with
   | true =>
    rw[v1] at H2;have hbt:Hid (beats x y kj kt=true):=by show _=_;unfold beats;rw[v1,Bool.true_or]
    replace H2:Hid _:=H2
    replace H3:Hid _:=H3
    clear v1;go_quiet (first|(go_at_call_of 85 (Value.string y);exact Calls.quiet_of (H2.out _))|(go_at_call_of 85 (Value.string kj);exact Calls.quiet_of (H3.out _)));go_wp2_with fail;go_roundw
    case rel=>exact⟨j,j,j+1,by show _=_;rw[hst.out,hbt.out];rfl,rfl,Nat.le_refl _,hlt,rfl,by rw[hxx.out],by go_num,qaD nq hbw2⟩
    case measure=>simp[intOf];omega
   | false =>
    rw[v1] at H2
    replace H2:Hid _:=H2
    cases v2:(x.toList == y.toList) with
    | false =>
     have hbt:Hid (beats x y kj kt=false):=by show _=_;unfold beats;rw[v1,v2];rfl
     replace H3:Hid _:=H3
     clear v1;go_quiet (first|(go_at_call_of 85 (Value.string y);exact Calls.quiet_of (H2.out _))|(go_at_call_of 85 (Value.string kj);exact Calls.quiet_of (H3.out _)));go_wp2_with fail;go_roundw
     case rel=>exact⟨j,T,j+1,by show _=_;rw[hst.out,hbt.out];rfl,rfl,hTj,hlt,rfl,by rw[hyy.out],by go_num,qaD nq hbw2⟩
     case measure=>simp[intOf];omega
    | true =>
     have hb3:Hid (beats x y kj kt=Op.bytesLess kj.data.toList kt.data.toList):=(by show _=_;unfold beats;rw[v1,v2];rfl);clear v1;cases v3:Op.bytesLess kj.data.toList kt.data.toList with
     | true =>
      rw[v3] at H3 hb3
      replace H3:Hid _:=H3
      clear v3;go_quiet (first|(go_at_call_of 85 (Value.string y);exact Calls.quiet_of (H2.out _))|(go_at_call_of 85 (Value.string kj);exact Calls.quiet_of (H3.out _)));go_wp2_with fail;go_roundw
      case rel=>exact⟨j,j,j+1,by show _=_;rw[hst.out,hb3.out];rfl,rfl,Nat.le_refl _,hlt,rfl,by rw[hxx.out],by go_num,qaD nq hbw2⟩
      case measure=>simp[intOf];omega
     | false =>
      rw[v3] at H3 hb3
      replace H3:Hid _:=H3
      clear v3;go_quiet (first|(go_at_call_of 85 (Value.string y);exact Calls.quiet_of (H2.out _))|(go_at_call_of 85 (Value.string kj);exact Calls.quiet_of (H3.out _)));go_wp2_with fail;go_roundw
      case rel=>exact⟨j,T,j+1,by show _=_;rw[hst.out,hb3.out];rfl,rfl,hTj,hlt,rfl,by rw[hyy.out],by go_num,qaD nq hbw2⟩
      case measure=>simp[intOf];omega
  ·have z3:decide ((j:Int)<(n:Int))=false:=(by simp;omega);have hjn:n-1=k:=(by have:=hj.out;omega);have hTn:Hid (topTo ps (n-1)=T):=(by show _=_;rw[hjn];exact hT.out);clear hjn hT hj;go_wp2_with fail;go_ret;exact⟨by rw[hTn.out];rfl,hbw⟩
theorem less_irr (a:List UInt8):Op.bytesLess a a=false:=by
 induction a with
 | nil=>rfl
 | cons x y ih=>rw[Op.bytesLess];simp[ih]
theorem beats_rk (x y a b:ByteArray):beats x y a b=rk x.data.toList y.data.toList a.data.toList b.data.toList:=by
 unfold beats rk;rw[ByteArray.toList_eq,ByteArray.toList_eq];by_cases h:x.data.toList=y.data.toList
 ·rw[if_pos h,h,less_irr,Bool.false_or,beq_self_eq_true,Bool.true_and]
 ·rw[if_neg h,beq_eq_false_iff_ne.2 h,Bool.false_and,Bool.or_false]
theorem less_asy {a b:List UInt8}(h:Op.bytesLess a b=true):Op.bytesLess b a=false:=by
 rw[qcq] at h;cases hb:Op.bytesLess b a with
 | false=>rfl
 | true=>rw[hb] at h;simp at h
theorem less_tot {a b:List UInt8}(h:a ≠ b):Op.bytesLess a b=true\/Op.bytesLess b a=true:=by
 rw[qcq a b];cases hb:Op.bytesLess b a with
 | true=>exact .inr rfl
 | false =>
  left;have:(b == a)=false:=beq_eq_false_iff_ne.2 λe=>h e.symm;rw[this];rfl
theorem qct:∀a b c:List UInt8,Op.bytesLess a b=true->Op.bytesLess b c=true->Op.bytesLess a c=true
 | _,[],[],_,h=>by simp[Op.bytesLess] at h
 | [],[],_ :: _,h,_=>by simp[Op.bytesLess] at h
 | _ :: _,[],_,h,_=>by simp[Op.bytesLess] at h
 | [],_ :: _,[],_,h=>by simp[Op.bytesLess] at h
 | _ :: _,_ :: _,[],_,h=>by simp[Op.bytesLess] at h
 | [],_ :: _,_ :: _,_,_=>by simp[Op.bytesLess]
 | a :: x,b :: y,c :: z,h1,h2=>by
  simp only[Op.bytesLess,Bool.or_eq_true,Bool.and_eq_true,decide_eq_true_eq,beq_iff_eq,UInt8.lt_iff_toNat_lt] at h1 h2⊢
  have ih:=qct x y z
  rcases h1 with h1|⟨h1,h1'⟩ <;> rcases h2 with h2|⟨h2,h2'⟩
  ·left;omega
  ·subst h2;exact .inl h1
  ·subst h1;exact .inl h2
  ·subst h1;subst h2;exact .inr ⟨rfl,ih h1' h2'⟩
theorem rk_asy {x y a b:List UInt8}(h:rk x y a b=true):rk y x b a=false:=by
 unfold rk at h⊢;by_cases e:x=y
 ·rw[if_pos e] at h;rw[if_pos e.symm];exact less_asy h
 ·rw[if_neg e] at h;rw[if_neg (λq=>e q.symm)];exact less_asy h
theorem rk_tot {x y a b:List UInt8}(h:a ≠ b):rk x y a b=true\/rk y x b a=true:=by
 unfold rk;by_cases e:x=y
 ·rw[if_pos e,if_pos e.symm];exact less_tot h
 ·rw[if_neg e,if_neg (λq=>e q.symm)];exact less_tot (λq=>e q.symm)
theorem rk_tra {x y z a b c:List UInt8}(h1:rk x y a b=true)(h2:rk y z b c=true):rk x z a c=true:=by
 unfold rk at h1 h2⊢;by_cases e:x=y
 ·subst e;rw[if_pos rfl] at h1;by_cases e2:x=z
  ·rw[if_pos e2] at h2⊢;exact qct _ _ _ h1 h2
  ·rw[if_neg e2] at h2⊢;exact h2
 ·rw[if_neg e] at h1;by_cases e2:y=z
  ·subst e2;rw[if_neg e];exact h1
  ·rw[if_neg e2] at h2;have h3:=qct _ _ _ h2 h1;have e3:x ≠ z:=λq=>by
    subst q;rw[less_irr] at h3;cases h3
   rw[if_neg e3];exact h3
def abP (p q:PairT):Bool:=rk (sha p.1.data.toList) (sha q.1.data.toList) p.1.data.toList q.1.data.toList
theorem qdu (ps:List PairT)(h:∀p ∈ ps,∀q ∈ ps,p ≠ q->p.1 ≠ q.1):Ranked abP ps :=
 ⟨λp hp q hq hne=>rk_tot λe=>h p hp q hq hne (by
  have:p.1.data=q.1.data:=Array.toList_inj.1 e
  exact ByteArray.ext this),
  λ_ _ _ _=>rk_asy,λ_ _ _ _ _ _=>rk_tra⟩
theorem beats_abP (p q:PairT):beats (shaB p.1) (shaB q.1) p.1 q.1=abP p q:=beats_rk _ _ _ _
theorem topTo_above (ps:List PairT)(h:Ranked abP ps)(hd:∀i j,i<ps.length->j<ps.length->i ≠ j->ps.getD i noPair ≠ ps.getD j noPair)(k:Nat)(hk:k<ps.length) : ∀j,j<=k->j ≠ topTo ps k->abP (ps.getD (topTo ps k) noPair) (ps.getD j noPair)=true:=by
 have hm:∀i,i<ps.length->ps.getD i noPair ∈ ps:=λi hi=>by
  rw[zL,List.getElem?_eq_getElem hi];exact List.getElem_mem hi
 induction k with
 | zero=>intro j hj hne;exact absurd (Nat.le_zero.1 hj) hne
 | succ k ih =>
  intro j hj hne;have hT:=qbs ps k;have ih:=ih (by omega);by_cases hb:beats (shaB (keyAt ps (k+1))) (shaB (keyAt ps (topTo ps k))) (keyAt ps (k+1)) (keyAt ps (topTo ps k))=true
  ·have he:topTo ps (k+1)=k+1:=(by rw[topTo,if_pos hb]);rw[he] at hne⊢;have hb':abP (ps.getD (k+1) noPair) (ps.getD (topTo ps k) noPair)=true:=(beats_abP _ _).symm.trans hb;by_cases hjt:j=topTo ps k
   ·rw[hjt];exact hb'
   ·exact h.tra _ (hm _ hk) _ (hm _ (by omega)) _ (hm _ (by omega)) hb' (ih j (by omega) hjt)
  ·have he:topTo ps (k+1)=topTo ps k:=(by rw[topTo,if_neg hb]);rw[he] at hne⊢;by_cases hjk:j=k+1
   ·subst hjk;rcases h.tot _ (hm (topTo ps k) (by omega)) _ (hm (k+1) hk) (hd _ _ (by omega) hk (by omega)) with q|q
    ·exact q
    ·exact absurd ((beats_abP _ _).trans q) hb
   ·exact ih j (by omega) hne
def Apart (ps:List PairT):Prop:=ps.Pairwise λp q=>p.1 ≠ q.1
theorem Apart.ne {ps:List PairT}(h:Apart ps):∀p ∈ ps,∀q ∈ ps,p ≠ q->p.1 ≠ q.1:=by
 induction ps with
 | nil=>intro p hp;cases hp
 | cons x l ih =>
  obtain⟨h1,h2⟩:=List.pairwise_cons.1 h;intro p hp q hq hne;rcases List.mem_cons.1 hp with rfl|hp' <;> rcases List.mem_cons.1 hq with rfl|hq'
  ·exact absurd rfl hne
  ·exact h1 q hq'
  ·exact λe=>h1 p hp' e.symm
  ·exact ih h2 p hp' q hq' hne
theorem qaF (ps:List PairT)(i:Nat)(hi:i<ps.length):ps.getD i noPair=ps[i]:=by
 rw[zL,List.getElem?_eq_getElem hi];rfl
theorem Apart.at_ {ps:List PairT}(h:Apart ps)(i j:Nat)(hi:i<ps.length)(hj:j<ps.length)(hne:i ≠ j):ps.getD i noPair ≠ ps.getD j noPair:=by
 rw[qaF _ _ hi,qaF _ _ hj];have hp:=List.pairwise_iff_getElem.1 h;intro e;rcases Nat.lt_or_gt_of_ne hne with q|q
 ·exact hp i j hi hj q (by rw[e])
 ·exact hp j i hj hi q (by rw[e])
def cutTree (ps:List PairT):Tr PairT :=
 if h:0<ps.length then
  .node (cutTree (ps.take (topTo ps (ps.length-1)))) (ps.getD (topTo ps (ps.length-1)) noPair) (cutTree (ps.drop (topTo ps (ps.length-1)+1)))
 else .nil
termination_by ps.length
decreasing_by
 ·have:=qbs ps (ps.length-1);rw[List.length_take];omega
 ·rw[List.length_drop];omega
theorem cut_at (ps:List PairT)(t:Nat)(ht:t<ps.length):ps.take t++ps.getD t noPair :: ps.drop (t+1)=ps:=by
 rw[qaF _ _ ht,<-List.drop_eq_getElem_cons ht,List.take_append_drop]
theorem qaE (ps:List PairT):(cutTree ps).inord=ps:=by
 induction hn:ps.length using Nat.strongRecOn generalizing ps with
 | _ n ih =>
  rw[cutTree];by_cases h:0<ps.length
  ·have ht:=qbs ps (ps.length-1);rw[dif_pos h,Tr.inord,ih _ (by rw[List.length_take];omega) _ rfl,ih _ (by rw[List.length_drop];omega) _ rfl];exact cut_at ps _ (by omega)
  ·rw[dif_neg h];cases ps with
   | nil=>rfl
   | cons x l=>exact absurd (Nat.succ_pos _) h
theorem qbY (ps:List PairT)(ha:Apart ps):(cutTree ps).heap abP:=by
 induction hn:ps.length using Nat.strongRecOn generalizing ps with
 | _ n ih =>
  rw[cutTree];by_cases h:0<ps.length
  ·have ht:=qbs ps (ps.length-1);have hab:=topTo_above ps (qdu ps ha.ne) ha.at_ (ps.length-1) (by omega);rw[dif_pos h];refine⟨λy hy=>?_,λy hy=>?_,ih _ (by rw[List.length_take];omega) _ (List.Pairwise.sublist (List.take_sublist _ _) ha) rfl,ih _ (by rw[List.length_drop];omega) _ (List.Pairwise.sublist (List.drop_sublist _ _) ha) rfl⟩
   ·rw[qaE] at hy;obtain⟨i,hi,rfl⟩:=List.getElem_of_mem hy;rw[List.length_take] at hi;rw[List.getElem_take,<-qaF ps i (by omega)];exact hab i (by omega) (by omega)
   ·rw[qaE] at hy;obtain⟨i,hi,rfl⟩:=List.getElem_of_mem hy;rw[List.length_drop] at hi;rw[List.getElem_drop,<-qaF ps _ (by omega)];exact hab _ (by omega) (by omega)
  ·rw[dif_neg h];trivial
def mergedTo (ps:List PairT):Nat->Tr PairT
 | 0=>.nil
 | k+1=>Tr.merge abP (mergedTo ps k) (.node .nil (ps.getD k noPair) .nil)
theorem qby (ps:List PairT)(k:Nat)(hk:k<=ps.length):(mergedTo ps k).inord=ps.take k:=by
 induction k with
 | zero=>rfl
 | succ k ih =>
  rw[mergedTo,Tr.merge_inord,ih (by omega),List.take_succ_eq_append_getElem (by omega),qaF _ _ (by omega)];rfl
theorem mergedTo_heap (ps:List PairT)(ha:Apart ps)(k:Nat)(hk:k<=ps.length):(mergedTo ps k).heap abP:=by
 induction k with
 | zero=>trivial
 | succ k ih =>
  rw[mergedTo];have hr:=qdu ps ha.ne;have hi:(Tr.node .nil (ps.getD k noPair) .nil:Tr PairT).inord=[ps.getD k noPair]:=rfl;refine Tr.merge_heap abP _ _ (ih (by omega)) ⟨λ_ h=>(by cases h),λ_ h=>(by cases h),trivial,trivial⟩ (hr.sub abP λx hx=>?_) (λx hx y hy=>?_)
  ·rw[hi,qby ps k (by omega)] at hx;rcases List.mem_append.1 hx with q|q
   ·exact List.mem_of_mem_take q
   ·rw[List.mem_singleton.1 q,qaF _ _ (by omega)];exact List.getElem_mem _
  ·rw[qby ps k (by omega)] at hx;rw[hi] at hy;obtain⟨i,hi',rfl⟩:=List.getElem_of_mem hx;rw[List.length_take] at hi';rw[List.getElem_take,List.mem_singleton.1 hy,<-qaF ps i (by omega)];exact ha.at_ i k (by omega) (by omega) (by omega)
theorem merged_cut (ps:List PairT)(ha:Apart ps):mergedTo ps ps.length=cutTree ps:=by
 have hi:(mergedTo ps ps.length).inord=ps:=by rw[qby ps _ (Nat.le_refl _),List.take_length]
 refine Tr.unique abP _ _ (mergedTo_heap ps ha _ (Nat.le_refl _)) (qbY ps ha) (by rw[hi,qaE]) ?_ ?_
 ·rw[hi];exact ha.imp λh e=>h (by rw[e])
 ·rw[hi];exact qdu ps ha.ne
theorem qdj (ps:List PairT):∀n,mapTo ps n=true->∀k,k<n->goodAt ps k=true
 | 0,_,k,hk=>absurd hk (Nat.not_lt_zero _)
 | n+1,h,k,hk=>by
  rw[mapTo,Bool.and_eq_true] at h
  by_cases e:k=n
  ·subst e;exact h.2
  ·exact qdj ps n h.1 k (by omega)
theorem mapTo_less (ps:List PairT)(n:Nat)(h:mapTo ps n=true)(i j:Nat)(hij:i<j)(hj:j<n):Op.bytesLess (keyAt ps i).data.toList (keyAt ps j).data.toList=true:=by
 induction j with
 | zero=>omega
 | succ j ih =>
  have hg:=qdj ps n h (j+1) hj;unfold goodAt at hg;rw[Bool.and_eq_true,Bool.and_eq_true,ByteArray.toList_eq,ByteArray.toList_eq] at hg;have hl:Op.bytesLess (keyAt ps j).data.toList (keyAt ps (j+1)).data.toList=true:=hg.2.2;by_cases e:i=j
  ·subst e;exact hl
  ·exact qct _ _ _ (ih (by omega) (by omega)) hl
theorem isMapT_apart (ps:List PairT)(h:isMapT ps=true):Apart ps:=by
 unfold isMapT at h;rw[Bool.and_eq_true] at h;refine List.pairwise_iff_getElem.2 λi j hi hj hij e=>?_;have hl:=mapTo_less ps ps.length h.2 i j hij hj;have hk:keyAt ps i=keyAt ps j:=by
  unfold keyAt;rw[qaF _ _ hi,qaF _ _ hj,e]
 rw[hk,less_irr] at hl;cases hl
theorem above_said:AboveSaid abP:=λp q w=>above_any _ _ (qaz _) (qaz _) p.1 q.1 w
theorem treeOf_any {K:World->Prop}(HR:Hid (RankSaid K))(keep:Hid (∀w1 w2,K w1->Below w1.heap.size w1 w2->K w2))(a:Option Addr)(ps:List PairT)(c:Nat)(w:World)(h:PArg a ps w)(hK:K w) : Calls prog 72 #[.slice a ps.length c] w λe w'=>∃p,e=.returned (.pointer p)/\TA w.heap.size bare (mergedTo ps ps.length) p w'/\Below w.heap.size w w':=by
 have hn:=h.le;obtain⟨n,hnn⟩:=eX (ps.length);rw[hnn];rw[hnn] at hn;have hnl:Hid (ps.length=n):=hnn;have HM:=λ(w':World) (hb:Below w.heap.size w w') (k:Nat) (p q:Option Addr) (h1:TA w.heap.size bare (mergedTo ps k) p w') (h2:TA w.heap.size bare (.node .nil (ps.getD k noPair) .nil) q w')=>merge_any (ab:=abP) above_said w.heap.size _ (mergedTo ps k) (.node .nil (ps.getD k noPair) .nil) p q w' (Nat.le_refl _) hb.size h1 h2;have HS:=λ(w':World) (hb:Below w.heap.size w w') (k:Nat)=>single_any HR keep (ps.getD k noPair).1 (ps.getD k noPair).2 w' (h.sz k).1 (keep.out _ _ hK hb)
 replace HM:Hid _:=HM
 replace HS:Hid _:=HS
 clear hnn hK keep HR;go_enter func72,ntmps72;go_wp2_with fail;go_loopw [3,8] (λt3 t8 wr=>∃ (k:Nat) (p:Option Addr),k<=n/\t3=.pointer p/\t8=.int .i64 (k:Int)/\TA w.heap.size bare (mergedTo ps k) p wr/\Below w.heap.size w wr) (λ_ t8 _=>n-(intOf t8).toNat)
 case atStart=>exact⟨0,none,Nat.zero_le _,rfl,rfl,rfl,Below.refl _ _⟩
 case round =>
  obtain⟨k,p,hk,rfl,rfl,ht,hbw⟩:=hrel;by_cases hlt:k<n
  ·have z3:decide ((k:Int)<(n:Int))=true:=(by simp;omega);have hx0:(0:Int)<=(k:Int):=Int.natCast_nonneg _;have hx1:(k:Int)<(n:Int):=(by omega);obtain⟨b,off,rfl,hbl,hc⟩:=(h.below hbw).at_ (by rw[hnl.out];omega);obtain⟨hc1,hc2⟩:=hc k (by rw[hnl.out];exact hlt);have H1:=λw' hb=>HS.out w' hb k;have H2:=λw' hb p q=>HM.out w' hb k p q;have hmk:Hid (mergedTo ps (k+1)=Tr.merge abP (mergedTo ps k) (.node .nil (ps.getD k noPair) .nil)):=rfl;rw[<-hmk.out] at H2;generalize ps.getD k noPair=x at hc1 hc2 H1 H2;obtain⟨x1,x2⟩:=x
   dsimp only at hc1 hc2 H1 H2
   replace H1:Hid _:=H1
   replace H2:Hid _:=H2
   have hbA:Below w.heap.size w (wr.alloc (.cells #[.string x1,.string x2] 81)):=hbw.alloc hbw.size _;have htA:TA w.heap.size bare (mergedTo ps k) p (wr.alloc (.cells #[.string x1,.string x2] 81)):=ht.below ((Below.refl _ _).alloc (Nat.le_refl _) _) (Nat.le_refl _);clear hc hmk;go_wp2_with (first|(go_at_call 133;refine(H1.out _ hbA).mono ?_;rintro e w1 ⟨b1,rfl,hge,ht1,hb1⟩;have hbw1:Below w.heap.size w w1:=hbA.trans (hb1.mono hbA.size);have htB:=htA.below hb1 (Nat.le_refl _))|(go_at_call 132;refine(H2.out _ hbw1 _ _ htB ⟨b1,none,none,rfl,(by have:=hbA.size;omega),ht1,rfl,rfl⟩).mono ?_;rintro e w2 ⟨q,rfl,ht2,hb2⟩;have hbw2:Below w.heap.size w w2:=hbw1.trans (hb2.mono hbw1.size)));go_roundw
   case rel=>exact⟨k+1,q,hlt,rfl,by go_num,ht2,hbw2⟩
   case measure=>simp[intOf];omega
  ·obtain rfl:k=n:=by omega
   have z3:decide ((k:Int)<(k:Int))=false:=(by simp);go_wp2_with fail;go_ret;exact⟨p,rfl,ht,hbw⟩
theorem edig_any (q:ByteArray)(m:Nat)(w:World)(hq:q.size<=1048576)(h1:1<=m)(h2:m<=32)(hK:∀j,j<64->w.cell? ⟨0,j,none⟩=some (.int .u32 ((kTab.getD j 0).toNat:Int))) : Calls prog 145 #[.string q,.int .i64 (m:Int)] w λe w'=>e=.returned (.string ⟨((sha (78 :: q.data.toList)).take m).toArray⟩)/\Below w.heap.size w w':=by
 have HE:Hid (Calls prog 175 #[.string q] w λe w''=>e=.returned (.agg ((sha (78 :: q.data.toList)).map B).toArray)/\Below w.heap.size w w''):=ehash_any q w hq hK;have hln:(sha (78 :: q.data.toList)).length=32:=sha_len _;obtain⟨M,hM⟩:=eX (sha (78 :: q.data.toList));rw[hM] at HE hln;rw[hM];clear hM hK;have hln2:(M.map B).length=32:=by rw[List.length_map,hln]
 have h1c:∀v ∈ M.map B,v.oneCell'=true:=by
  intro v hv;obtain⟨x,_,rfl⟩:=List.mem_map.1 hv;rfl
 obtain⟨L,hL⟩:=eX (M.map B);have HL:Hid (M.map B=L):=hL;rw[hL] at HE hln2 h1c;clear hL;have q1:(1:Int)<=(m:Int):=by omega
 have q2:(m:Int)<=32:=by omega
 have q3:(0:Int)<=(m:Int):=by omega
 go_enter func145,ntmps145;go_wp2_with fail;refine HE.out.mono ?_;rintro e w2 ⟨rfl,hb2⟩;go_wp2_with (first|(refine qam _ rfl (some 5) rfl 247 247 rfl (zeros8.map B) alloc32 ?_;intro g2 w3 hr3 hb3)|(refine qan _ rfl rfl 247 (.tmp 5) (.tmp 7) rfl w2.heap.size g2 32 (zeros8.map B) L rfl rfl hr3 hln2 size32 h1c ?_;intro w4 hr4 hg4)|(refine qbe _ rfl (.tmp 9) 41 9 5 rfl w2.heap.size g2 m 32 (M.take m) rfl (by rw[List.map_take,HL.out];exact row_take hr4 m h2) Tryz.underlying41 Tryz.underlying5 Tryz.underlying9 ?_));go_ret;have hw3:Below w.heap.size w w3:=hb2.trans (hb3.mono hb2.size);exact⟨rfl,hw3.trans (qah hg4 (by have:=hr3.ge;have:=hb2.size;omega) (by have:=hw3.size;omega))⟩
def digB (q:ByteArray) (m:Nat):ByteArray:=⟨((sha (78 :: q.data.toList)).take m).toArray⟩
def rootT (m:Nat):Tr PairT->ByteArray
 | .nil=>⟨#[]⟩
 | .node l x r=>digB (encS x.1 x.2 (rootT m l) (rootT m r) m) m
def encT (m:Nat):Tr PairT->ByteArray
 | .nil=>⟨#[]⟩
 | .node l x r=>encS x.1 x.2 (rootT m l) (rootT m r) m
def hf (m:Nat) (t:Tr PairT):ByteArray × ByteArray:=(encT m t,rootT m t)
theorem qaG (q:ByteArray)(m:Nat)(h:m<=32):(digB q m).size=m:=by
 show ((sha (78 :: q.data.toList)).take m).toArray.size=m;rw[List.size_toArray,List.length_take,qaz];omega
theorem qax (m:Nat)(h:m<=32)(t:Tr PairT):(rootT m t).size=0\/(rootT m t).size=m:=by
 cases t with
 | nil=>exact .inl rfl
 | node l x r=>exact .inr (qaG _ m h)
structure Upd (M:Nat->Prop) (w w':World):Prop where
 os:w'.os=w.os
 tape:w'.tape=w.tape
 output:w'.output=w.output
 size:w.heap.size<=w'.heap.size
 block:∀k,k<w.heap.size->¬ M k->w'.heap[k]?=w.heap[k]?
theorem Upd.refl (M:Nat->Prop)(w:World):Upd M w w:=⟨rfl,rfl,rfl,Nat.le_refl _,λ_ _ _=>rfl⟩
theorem Upd.trans {M:Nat->Prop}{a b c:World}(h:Upd M a b)(k:Upd M b c):Upd M a c :=
 ⟨k.os.trans h.os,k.tape.trans h.tape,k.output.trans h.output,Nat.le_trans h.size k.size,λi hi hM=>(k.block i (Nat.lt_of_lt_of_le hi h.size) hM).trans (h.block i hi hM)⟩
theorem Upd.mono {M M':Nat->Prop}{a b:World}(h:Upd M a b)(hM:∀k,M k->M' k):Upd M' a b:=⟨h.os,h.tape,h.output,h.size,λk hk hn=>h.block k hk λq=>hn (hM k q)⟩
theorem Upd.of_below {M:Nat->Prop}{a b:World}(h:Below a.heap.size a b):Upd M a b:=⟨h.os,h.tape,h.output,h.size,λk hk _=>h.block k hk⟩
theorem Upd.below {M:Nat->Prop}{a b:World}{n:Nat}(h:Upd M a b)(hn:n<=a.heap.size)(hM:∀k,M k->n<=k):Below n a b :=
 ⟨h.os,h.tape,h.output,h.size,λk hk=>h.block k (Nat.lt_of_lt_of_le hk hn) λq=>by have:=hM k q;omega⟩
theorem Upd.drew {M:Nat->Prop}{a b:World}(h:Upd M a b):Upd M a b.drew:=⟨h.os,h.tape,h.output,h.size,h.block⟩
theorem Upd.setCell {M:Nat->Prop}{a b:World}(h:Upd M a b)(g o:Nat)(v:Value)(hM:M g):Upd M a (b.setCell ⟨g,o,none⟩ v):=by
 refine⟨h.os,h.tape,h.output,?_,λk hk hn=>?_⟩
 ·have:(b.setCell ⟨g,o,none⟩ v).heap.size=b.heap.size:=by simp[World.setCell]
  rw[this];exact h.size
 ·rw[Below.heap_setCell _ _ _ _ (λe=>hn (by rw[e];exact hM))];exact h.block k hk hn
theorem Upd.cell {M:Nat->Prop}{a b:World}(h:Upd M a b){k o:Nat}{v:Value}(hc:a.cell? ⟨k,o,none⟩=some v)(hn:¬ M k):b.cell? ⟨k,o,none⟩=some v:=by
 have hlt:k<a.heap.size:=World.block_lt_of_cell? a _ hc;have e:=h.block k hlt hn;rw[<-hc];unfold World.cell?;simp only[e]
def TAL (n0:Nat) (f:Tr PairT->ByteArray × ByteArray):Tr PairT->Option Addr->List Nat->World->Prop
 | .nil,p,bs,_=>p=none/\bs=[]
 | .node l x r,p,bs,w=>∃ (b:Nat) (pl pr:Option Addr) (bl br:List Nat),p=some ⟨b,0,none⟩/\bs=bl++b :: br/\n0<=b/\TB b x pl pr (f (.node l x r)) w/\TAL n0 f l pl bl w/\TAL n0 f r pr br w
section
variable {n0:Nat} {f:Tr PairT->ByteArray × ByteArray}
theorem TA.list {w:World}:∀ {t:Tr PairT} {p:Option Addr},TA n0 f t p w->∃bs,TAL n0 f t p bs w
 | .nil,_,h=>⟨[],h,rfl⟩
 | .node _ _ _,_,⟨b,pl,pr,h1,h0,h2,h3,h4⟩=>by
  obtain⟨bl,hl⟩:=h3.list
  obtain⟨br,hr⟩:=h4.list
  exact⟨_,b,pl,pr,bl,br,h1,rfl,h0,h2,hl,hr⟩
theorem TAL.ta {w:World}:∀ {t:Tr PairT} {p:Option Addr} {bs:List Nat},TAL n0 f t p bs w->TA n0 f t p w
 | .nil,_,_,h=>h.1
 | .node _ _ _,_,_,⟨b,pl,pr,_,_,h1,_,h0,h2,h3,h4⟩=>⟨b,pl,pr,h1,h0,h2,h3.ta,h4.ta⟩
theorem TB.upd {M:Nat->Prop}{b:Nat}{x:PairT}{l r:Option Addr}{e:ByteArray × ByteArray}{w w':World}(h:TB b x l r e w)(hu:Upd M w w')(hn:¬ M b):TB b x l r e w' :=
 (hu.block b h.lt hn).trans h
theorem TAL.upd {M:Nat->Prop}{w w':World}(hu:Upd M w w'):∀ {t:Tr PairT} {p:Option Addr} {bs:List Nat},TAL n0 f t p bs w->(∀b ∈ bs,¬ M b)->TAL n0 f t p bs w'
 | .nil,_,_,h,_=>h
 | .node _ _ _,_,_,⟨b,pl,pr,bl,br,h1,h5,h0,h2,h3,h4⟩,hn=>by
  subst h5
  exact⟨b,pl,pr,bl,br,h1,rfl,h0,h2.upd hu (hn b (by simp)),h3.upd hu (λc hc=>hn c (by simp[hc])),h4.upd hu (λc hc=>hn c (by simp[hc]))⟩
theorem TAL.mem {w:World}:∀ {t:Tr PairT} {p:Option Addr} {bs:List Nat},TAL n0 f t p bs w->∀b ∈ bs,∃x ∈ t.inord,∃l r e,TB b x l r e w
 | .nil,_,_,h,b,hb=>by rw[h.2] at hb;cases hb
 | .node tl y tr,_,_,⟨b0,pl,pr,bl,br,h1,h5,h0,h2,h3,h4⟩,b,hb=>by
  subst h5
  rcases List.mem_append.1 hb with q|q
  ·obtain⟨x,hx,rest⟩:=h3.mem b q
   exact⟨x,by simp[Tr.inord,hx],rest⟩
  ·rcases List.mem_cons.1 q with rfl|q
   ·exact⟨y,by simp[Tr.inord],pl,pr,_,h2⟩
   ·obtain⟨x,hx,rest⟩:=h4.mem b q
    exact⟨x,by simp[Tr.inord,hx],rest⟩
theorem TAL.ge {w:World}:∀ {t:Tr PairT} {p:Option Addr} {bs:List Nat},TAL n0 f t p bs w->∀b ∈ bs,n0<=b
 | .nil,_,_,h,b,hb=>by rw[h.2] at hb;cases hb
 | .node tl y tr,_,_,⟨b0,pl,pr,bl,br,h1,h5,h0,h2,h3,h4⟩,b,hb=>by
  subst h5
  rcases List.mem_append.1 hb with q|q
  ·exact h3.ge b q
  ·rcases List.mem_cons.1 q with rfl|q
   ·exact h0
   ·exact h4.ge b q
theorem TAL.notin {w:World}{t:Tr PairT}{p:Option Addr}{bs:List Nat}(h:TAL n0 f t p bs w)(k:Nat){v:Value}(hv:w.cell? ⟨k,0,none⟩=some v)(hs:∀s,v ≠ .string s):k ∉ bs:=λhk=>by
 obtain⟨x,_,l,r,e,hT⟩:=h.mem k hk;exact hs _ (Option.some.inj (hv.symm.trans hT.c0))
theorem TB.key {b:Nat}{x y:PairT}{l r l2 r2:Option Addr}{e e2:ByteArray × ByteArray}{w:World}(h:TB b x l r e w)(k:TB b y l2 r2 e2 w):x.1=y.1:=by
 have:=h.c0.symm.trans k.c0
 simpa using this
theorem TAL.nodup {w:World}:∀ {t:Tr PairT} {p:Option Addr} {bs:List Nat},TAL n0 f t p bs w->Apart t.inord->bs.Nodup
 | .nil,_,_,h,_=>by rw[h.2];exact List.nodup_nil
 | .node tl y tr,_,_,⟨b0,pl,pr,bl,br,h1,h5,h0,h2,h3,h4⟩,ha=>by
  subst h5
  unfold Apart at ha
  simp only[Tr.inord] at ha
  obtain⟨a1,a2,a3⟩:=List.pairwise_append.1 ha
  obtain⟨a4,a5⟩:=List.pairwise_cons.1 a2
  refine List.nodup_append.2 ⟨h3.nodup a1,List.nodup_cons.2 ⟨λhq=>?_,h4.nodup a5⟩,λc hc d hd e=>?_⟩
  ·obtain⟨z,hz,l,r,e,hT⟩:=h4.mem b0 hq
   exact a4 z hz (h2.key hT)
  ·subst e
   obtain⟨z,hz,l,r,e,hT⟩:=h3.mem c hc
   rcases List.mem_cons.1 hd with rfl|hd
   ·exact a3 z hz y (by simp) (hT.key h2)
   ·obtain⟨z2,hz2,l2,r2,e2,hT2⟩:=h4.mem c hd
    exact a3 z hz z2 (by simp[hz2]) (hT.key hT2)
end
theorem treeL_set37 (X:List UInt8)(hX:X.length=32)(k v:ByteArray)(l r:Option Addr)(enc h e2:ByteArray):(treeL X k v l r enc h).set 37 (.string e2)=treeL X k v l r e2 h:=by
 have e:∀z,treeL X k v l r z h=([.string k,.string v]++(X.map B++[Value.string k]))++[.pointer l,.pointer r,.string z,.string h]:=λz=>by unfold treeL rankL;simp
 have hl2:([Value.string k,.string v]++(X.map B++[Value.string k])).length=35:=by simp[hX]
 rw[e,e,List.set_append_right _ _ (by omega),hl2];rfl
theorem treeL_set38 (X:List UInt8)(hX:X.length=32)(k v:ByteArray)(l r:Option Addr)(enc h e2:ByteArray):(treeL X k v l r enc h).set 38 (.string e2)=treeL X k v l r enc e2:=by
 have e:∀z,treeL X k v l r enc z=([.string k,.string v]++(X.map B++[Value.string k]))++[.pointer l,.pointer r,.string enc,.string z]:=λz=>by unfold treeL rankL;simp
 have hl2:([Value.string k,.string v]++(X.map B++[Value.string k])).length=35:=by simp[hX]
 rw[e,e,List.set_append_right _ _ (by omega),hl2];rfl
theorem TB.setEnc {b:Nat}{x:PairT}{l r:Option Addr}{e:ByteArray × ByteArray}{w:World}(h:TB b x l r e w)(s:ByteArray):TB b x l r (s,e.2) (w.setCell ⟨b,37,none⟩ (.string s)):=by
 have:=heap_setCell_same w b 37 _ 251 (.string s) h;unfold TB;rw[this];simp only[List.setIfInBounds_toArray,treeL_set37 _ (qaz _)]
theorem TB.setHash {b:Nat}{x:PairT}{l r:Option Addr}{e:ByteArray × ByteArray}{w:World}(h:TB b x l r e w)(s:ByteArray):TB b x l r (e.1,s) (w.setCell ⟨b,38,none⟩ (.string s)):=by
 have:=heap_setCell_same w b 38 _ 251 (.string s) h;unfold TB;rw[this];simp only[List.setIfInBounds_toArray,treeL_set38 _ (qaz _)]
theorem TB.frozen {b o:Nat}{x:PairT}{l r:Option Addr}{e:ByteArray × ByteArray}{w:World}(h:TB b x l r e w):w.frozen? ⟨b,o,none⟩=false:=by
 unfold TB at h;unfold World.frozen?;simp[h]
end Go.Proofs.YtibjhkpgaaapaaaGreatDoor
