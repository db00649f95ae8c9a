import Derived.Test.YtibjhkpgaaapaaaGreatDoorZiad
set_option maxRecDepth 100000
set_option maxHeartbeats 1600000
namespace Go.Proofs.YtibjhkpgaaapaaaGreatDoor
open Go.RowKit Go.Proofs.Sha Tryz
theorem fill_any (b:Nat)(h:List UInt32)(kb:List UInt8)(held size n:Nat)(w:World)(H:Hsh w b h kb held size)(h1:held<=n)(h2:n<=64) : Calls prog 196 #[.pointer (some ⟨b,0,none⟩),.int .i64 (n:Int)] w λe w'=>e=.returned (.tuple #[])/\Hsh w' b h (zf kb held (n-held)) n size/\w.grownBy w' (some b):=by
 go_enter func196,ntmps196;go_wp2_with fail;go_loopw [9] (λ_ wr=>∃q:Nat,held+q<=n/\Hsh wr b h (zf kb held q) (held+q) size/\w.grownBy wr (some b)) (λ_ wr=>n-heldOf wr b)
 case atStart=>exact⟨0,by omega,H,qbx _ _⟩
 case round =>
  obtain⟨q,hq,HH,hgr⟩:=hrel;have cd:=HH.hd;by_cases hlt:held+q<n
  ·obtain⟨p,hp⟩:=eX (held+q);rw[hp] at cd HH hlt;have HP:Hid (held+q=p):=hp;clear hp hq;have cb:=HH.ks p (by omega);have cf:=HH.fr (8+p) (by omega);have cf2:=HH.fr 72 (by omega);have q0:(0:Int)<=(p:Int):=(by omega);have q1:(p:Int)<64:=(by omega);go_wp2_with fail;go_region_held3 (λw'=>w'.cell? ⟨b,72,none⟩=some (.int .i64 (p:Int))) (first|exact cd|exact(qak _ _ _ _ _ (by omega)).trans cd) (fail);go_wp2;go_roundw
   case rel =>
    have e:zf kb held (q+1)=(zf kb held q).set p 0:=(by rw[zf,HP.out]);have N:=((HH.setByte p (by omega) 0).setHeld (p+1)).drew;refine⟨q+1,by have:=HP.out;omega,?_,qav (qad (qad hgr (qae _ _ _ _)) (qae _ _ _ _))⟩;rw[e,show held+(q+1)=p+1 from by have:=HP.out;omega];exact N
   case measure =>
    have N:=((HH.setByte p (by omega) 0).setHeld (p+1)).drew.heldOf;have e:=HH.heldOf;rw[e];refine Nat.lt_of_le_of_lt (Nat.le_of_eq (congrArg (λz=>n-z) N)) ?_;show n-(p+1)<n-p;omega
  ·obtain rfl:n=held+q:=by omega
   go_wp2;go_end0;rw[Nat.add_sub_cancel_left];exact⟨rfl,HH,hgr⟩
def zeros8:List UInt8:=List.replicate 32 0
theorem alloc32 (w:World):(Instr.alloc 247 true (.tuple #[])).run prog w=.ok (.pointer (some ⟨w.heap.size,0,none⟩)) (w.alloc (.cells (zeros8.map B).toArray 247)):=by kernel_rfl
theorem size32:(prog.info? 247).map (·.size)=some 32:=by kernel_rfl
theorem bytes_any (b:Nat)(h:List UInt32)(kb:List UInt8)(held size:Nat)(w:World)(H:Hsh w b h kb held size) : Calls prog 197 #[.pointer (some ⟨b,0,none⟩)] w λe w'=>e=.returned (.agg ((outTo h 8).map B).toArray)/\Below w.heap.size w w':=by
 have hbl:=H.lt;have hrg:∀w':World,Hsh w' b h kb held size->w'.rangeAt b 0 (h.map U):=λw' H' j v hv=>by
  have hj:j<8:=by have:=(List.getElem?_eq_some_iff.1 hv).1;rw[List.length_map,H'.hl] at this;exact this
  rw[Nat.zero_add,H'.hs j hj,<-hv,List.getElem?_map,zL,List.getElem?_eq_getElem (by rw[H'.hl];exact hj)];rfl
 have HRG:Hid (∀w':World,Hsh w' b h kb held size->w'.rangeAt b 0 (h.map U)):=hrg;clear hrg;have hsz:(prog.info? 286).map (·.size)=some (h.map U).length:=by rw[size41,List.length_map,H.hl]
 have HSZ:Hid ((prog.info? 286).map (·.size)=some (h.map U).length):=hsz;clear hsz;go_enter func197,ntmps197;go_wp2_with (first|(refine qam _ rfl (some 2) rfl 247 247 rfl (zeros8.map B) alloc32 ?_;intro g2 w2 hr2 hb2)|(refine qam _ rfl (some 3) rfl 247 247 rfl (zeros8.map B) alloc32 ?_;intro g3 w3 hr3 hb3)|(refine wpList_load_mid rfl 286 (.tmp 8) rfl b 0 rfl (h.map U) _ (HRG.out _ ((H.below hb2).below hb3)) Tryz.underlying286 rfl HSZ.out ?_));have hr3':Row w3 w2.heap.size g3 32 32 ((outArr h 0).map B):=hr3;have h2:=hb2.size;have h3:=hb3.size;have hl2:=hr2.lt;have hg3:=hr3.ge;have hg2:=hr2.ge;have HR2:Row w3 w.heap.size g2 32 32 (zeros8.map B):=(show Row w2 w.heap.size g2 32 32 (zeros8.map B) from hr2).below hb3;have hhl:=H.hl;have hbw:Below w.heap.size w w3:=hb2.trans (hb3.mono h2);clear hr2 hr3 H hb2 hb3 HRG HSZ;go_loopw [10] (λt wr=>∃i:Nat,i<=8/\t=.int .i64 (i:Int)/\Row wr w2.heap.size g3 32 32 ((outArr h i).map B)/\w3.grownBy wr (some g3)) (λt _=>8-(intOf t).toNat)
 case atStart=>exact⟨0,by omega,rfl,hr3',qbx _ _⟩
 case round =>
  clear hr3';obtain⟨i,hi,rfl,hrow,hgr⟩:=hrel;by_cases hlt:i<8
  ·obtain⟨x,hx⟩:=eX (h.getD i 0);have HX:Hid (h.getD i 0=x):=hx;clear hx;have c0:=row_b hrow (4*i) (by omega);have c1:=row_b hrow (4*i+1) (by omega);have c2:=row_b hrow (4*i+2) (by omega);have c3:=row_b hrow (4*i+3) (by omega);have f0:=hrow.free (4*i) (by omega);have f1:=hrow.free (4*i+1) (by omega);have f2:=hrow.free (4*i+2) (by omega);have f3:=hrow.free (4*i+3) (by omega);go_wp2_with (refine qcB _ rfl 286 (.tmp 9) (.tmp 10) rfl h 8 177 i rfl rfl hhl hlt Tryz.underlying286 Tryz.underlying177 size24 ?_;rw[HX.out]);go_roundw
   case rel =>
    simp only[byteM3,byteM2,byteM1,byteM0];refine⟨i+1,by omega,by go_num,?_,?_⟩
    ·rw[<-outArr_succ h i x hlt HX.out];exact((((hrow.set (4*i) (by omega) _).set (4*i+1) (by omega) _).set (4*i+2) (by omega) _).set (4*i+3) (by omega) _)
    ·exact qad (qad (qad (qad hgr (qae _ _ _ _)) (qae _ _ _ _)) (qae _ _ _ _)) (qae _ _ _ _)
   case measure=>simp[intOf];omega
  ·obtain rfl:i=8:=by omega
   have hR2:Row wr w.heap.size g2 32 32 (zeros8.map B):=HR2.kept hgr (by simp;omega);rw[outArr_full] at hrow;have hln:((outTo h 8).map B).length=32:=(by rw[List.length_map,qar]);have h1c:∀v ∈ (outTo h 8).map B,v.oneCell'=true:=by
    intro v hv;obtain⟨x,_,rfl⟩:=List.mem_map.1 hv;rfl
   obtain⟨L,hL⟩:=eX ((outTo h 8).map B);rw[hL] at hrow hln h1c;have HL:Hid (∀N,N=8->(outTo h N).map B=L):=λN hN=>by rw[hN];exact hL
   clear hL;go_wp2_with (first|(refine qaA _ rfl 247 (.tmp 3) rfl w2.heap.size g3 32 32 L 5 rfl hrow Tryz.underlying247 size32 ?_)|(refine qan _ rfl rfl 247 (.tmp 2) (.tmp 41) rfl w.heap.size g2 32 (zeros8.map B) L rfl rfl hR2 hln size32 h1c ?_;intro w5 hR5 hg5));refine qdv _ (p:=2) (ty:=247) rfl w.heap.size g2 32 32 L 5 rfl hR5 Tryz.underlying247 size32 rfl ?_;refine⟨?_,?_⟩
   ·rw[<-HL.out 8 rfl]
   ·exact(hbw.trans (qah hgr (by omega) (by omega))).trans (qah hg5 (by omega) (by have:=hgr.size;omega))
end Go.Proofs.YtibjhkpgaaapaaaGreatDoor
namespace Go.Proofs.Sha
open Go Go.RowKit
def lb (k:List UInt8) (N:Nat):Nat->List UInt8
 | 0=>k
 | n+1=>(lb k N n).set (56+n) (lenByte (8*N) (7-n))
def fin (h:List UInt32) (k:List UInt8) (held N:Nat):List UInt32 :=
 if held+1<=56 then comp h (lb (zf (k.set held 128) (held+1) (56-(held+1))) N 8)
 else comp (comp h (zf (k.set held 128) (held+1) (64-(held+1)))) (lb (zf (zf (k.set held 128) (held+1) (64-(held+1))) 0 (56-0)) N 8)
theorem grownBy_new {w a c:World}{b g:Nat}(h:w.grownBy a (some b))(k:a.grownBy c (some g))(hg:w.heap.size<=g):w.grownBy c (some b) :=
 ⟨k.os.trans h.os,k.tape.trans h.tape,k.output.trans h.output,Nat.le_trans h.size k.size,λi hi hn=>(k.block i (Nat.lt_of_lt_of_le hi h.size) (by simp;omega)).trans (h.block i hi hn)⟩
theorem qcz {w a c:World}{b:Nat}(h:w.grownBy a (some b))(k:Below a.heap.size a c):w.grownBy c (some b):=qad h (qay k _)
end Go.Proofs.Sha
namespace Go.Proofs.YtibjhkpgaaapaaaGreatDoor
open Go.RowKit Go.Proofs.Sha Tryz
theorem mix_h (b:Nat)(h:List UInt32)(kb:List UInt8)(held size:Nat)(w:World)(H:Hsh w b h kb held size)(hb0:b ≠ 0)(hK:∀j,j<64->w.cell? ⟨0,j,none⟩=some (.int .u32 ((kTab.getD j 0).toNat:Int))) : Calls prog 195 #[.pointer (some ⟨b,0,none⟩)] w λe w'=>e=.returned (.tuple #[])/\Hsh w' b (comp h kb) kb 0 size/\w.grownBy w' (some b):=by
 obtain⟨x0,x1,x2,x3,x4,x5,x6,x7,rfl⟩:=list8 h H.hl;exact mix_any b x0 x1 x2 x3 x4 x5 x6 x7 kb held size w H hb0 hK
theorem fill_i (b:Nat)(h:List UInt32)(kb:List UInt8)(held size n:Nat)(m:Int)(hm:m=(n:Int))(w:World)(H:Hsh w b h kb held size)(h1:held<=n)(h2:n<=64) : Calls prog 196 #[.pointer (some ⟨b,0,none⟩),.int .i64 m] w λe w'=>e=.returned (.tuple #[])/\Hsh w' b h (zf kb held (n-held)) n size/\w.grownBy w' (some b):=by
 subst hm;exact fill_any b h kb held size n w H h1 h2
theorem finish_any (b:Nat)(h:List UInt32)(kb:List UInt8)(held size:Nat)(w:World)(H:Hsh w b h kb held size)(hh:held<64)(hsz:size<=2000000)(hb0:b ≠ 0)(hK:∀j,j<64->w.cell? ⟨0,j,none⟩=some (.int .u32 ((kTab.getD j 0).toNat:Int))) : Calls prog 189 #[.pointer (some ⟨b,0,none⟩)] w λe w'=>e=.returned (.agg ((outTo (fin h kb held size) 8).map B).toArray)/\w.grownBy w' (some b):=by
 have hl0:0<w.heap.size:=by have:=H.lt;omega
 have HK:Hid (∀w':World,w.grownBy w' (some b)->∀j,j<64->w'.cell? ⟨0,j,none⟩=some (.int .u32 ((kTab.getD j 0).toNat:Int))):=λw' hg j hj=>(hg.cell_far _ hl0 (by simp;omega)).trans (hK j hj);clear hK;have hkl:=H.kl;go_enter func189,ntmps189;go_wp2_with (refine qam _ rfl (some 2) rfl 247 247 rfl (zeros8.map B) alloc32 ?_;intro g2 w2 hr2 hb2);have hr2':Row w2 w.heap.size g2 32 32 (zeros8.map B):=hr2;have H2:=H.below hb2;have hg2:w.grownBy w2 (some b):=qay hb2 _;have hge:=hr2.ge;have hbl:=H.lt;have hs2:=hb2.size;clear hr2 hb2 H;have cd:=H2.hd;have cb:=H2.ks held hh;have cf:=H2.fr (8+held) (by omega);have cf2:=H2.fr 72 (by omega);have q0:(0:Int)<=(held:Int):=by omega
 have q1:(held:Int)<64:=by omega
 go_region_held3 (λw'=>w'.cell? ⟨b,72,none⟩=some (.int .i64 (held:Int))) (first|exact cd|exact(qak _ _ _ _ _ (by omega)).trans cd) (fail);obtain⟨w3,hw3⟩:∃w3,w3=(w2.setCell ⟨b,8+held,none⟩ (.int .u8 128)).drew:=⟨_,rfl⟩;rw[<-hw3];have H3:Hsh w3 b h (kb.set held 128) held size:=by rw[hw3];exact(H2.setByte held hh 128).drew
 have hg3:w2.grownBy w3 (some b):=by rw[hw3];exact qav (qae _ _ _ _)
 clear hw3 cd cb cf cf2 H2;have cd:=H3.hd;have cf2:=H3.fr 72 (by omega);by_cases hbig:held+1<=56
 ·have HF:Hid (fin h kb held size=comp h (lb (zf (kb.set held 128) (held+1) (56-(held+1))) size 8)):=by
   show fin h kb held size=_;rw[fin,if_pos hbig]
  go_wp2_with fail;obtain⟨wA,hwA⟩:∃wA,wA=w3.setCell ⟨b,72,none⟩ (.int .i64 ((held:Int)+1)):=⟨_,rfl⟩;rw[<-hwA];have HA:Hsh wA b h (kb.set held 128) (held+1) size:=(by rw[hwA];exact H3.setHeld (held+1));have hgA:w2.grownBy wA (some b):=(by rw[hwA];exact qad hg3 (qae _ _ _ _));clear hwA H3 hg3 cd cf2;refine(fill_i b h (kb.set held 128) (held+1) size 56 56 rfl wA HA (by omega) (by omega)).mono ?_;rintro e w4 ⟨rfl,H4,hg4⟩;have hgw4:=qad hgA hg4;have cs:=H4.sz;clear HA hg4 hgA;obtain⟨k4,hk4⟩:=eX (zf (kb.set held 128) (held+1) (56-(held+1)));rw[hk4] at H4;have HK4:Hid (zf (kb.set held 128) (held+1) (56-(held+1))=k4):=hk4;clear hk4;go_wp2_with fail;go_loopw [4] (λt wr=>∃i p:Nat,i<=8/\p=56+i/\t=.int .i64 (p:Int)/\Hsh wr b h (lb k4 size i) 56 size/\w2.grownBy wr (some b)) (λt _=>64-(intOf t).toNat)
  case atStart=>exact⟨0,56,by omega,rfl,rfl,H4,hgw4⟩
  case round =>
   clear H4 hgw4 cs;obtain⟨i,p,hi,hp,rfl,H5,hg5⟩:=hrel;by_cases hlt:i<8
   ·have HP:Hid (p=56+i):=hp;have cb:=H5.ks p (by omega);have cf:=H5.fr (8+p) (by omega);have q0:(0:Int)<=(p:Int):=(by omega);have q1:(p:Int)<64:=(by omega);have q2:56<=p:=(by omega);clear hp;go_wp2_with fail;go_region;go_wp2;go_roundw
    case rel =>
     have HPo:=HP.out;have e0:63-p=7-i:=(by omega);have e1:lb k4 size (i+1)=(lb k4 size i).set p (lenByte (8*size) (7-i)):=(by rw[lb,HPo]);simp only[e0,qcc];refine⟨i+1,p+1,by omega,by omega,by go_num,?_,qav (qad hg5 (qae _ _ _ _))⟩;rw[e1];exact(H5.setByte p (by omega) _).drew
    case measure=>simp[intOf];omega
   ·obtain rfl:i=8:=by omega
    obtain rfl:p=64:=by omega
    clear hp;go_wp2_with fail;refine(mix_h b h (lb k4 size 8) 56 size wr H5 hb0 (HK.out wr (qad hg2 hg5))).mono ?_;rintro e w6 ⟨rfl,H6,hg6⟩;have hgw6:=qad hg5 hg6;have HFF:Hid (comp h (lb k4 size 8)=fin h kb held size):=by
     show comp h (lb k4 size 8)=_;rw[HF.out,HK4.out]
    rw[HFF.out] at H6;clear HFF HF HK4 H5 hg5 hg6 HK;obtain⟨hZ,ehZ⟩:=eX (fin h kb held size);rw[ehZ] at H6;have HZ:Hid (fin h kb held size=hZ):=ehZ;clear ehZ;go_wp2_with fail;refine(bytes_any b hZ _ _ _ w6 H6).mono ?_;rintro e w7 ⟨rfl,hb7⟩;have hgw7:=qcz hgw6 hb7;have hR7:Row w7 w.heap.size g2 32 32 (zeros8.map B):=hr2'.kept hgw7 (by simp;omega);have hln:((outTo hZ 8).map B).length=32:=(by rw[List.length_map,qar]);have h1c:∀v ∈ (outTo hZ 8).map B,v.oneCell'=true:=by
     intro v hv;obtain⟨x,_,rfl⟩:=List.mem_map.1 hv;rfl
    obtain⟨L,hL⟩:=eX ((outTo hZ 8).map B);rw[hL] at hln h1c;rw[hL];have HL:Hid (∀N,N=8->(outTo hZ N).map B=L):=λN hN=>by rw[hN];exact hL
    clear hL;go_wp2_with (refine qan _ rfl rfl 247 (.tmp 2) (.tmp 54) rfl w.heap.size g2 32 (zeros8.map B) L rfl rfl hR7 hln size32 h1c ?_;intro w8 hR8 hg8);refine qdv _ (p:=2) (ty:=247) rfl w.heap.size g2 32 32 L 5 rfl hR8 Tryz.underlying247 size32 rfl ?_;refine⟨?_,?_⟩
    ·rw[HZ.out,HL.out 8 rfl]
    ·exact grownBy_new (qad hg2 hgw7) hg8 hge
 ·go_wp2_with fail;obtain⟨wB,hwB⟩:∃wB,wB=w3.setCell ⟨b,72,none⟩ (.int .i64 ((held:Int)+1)):=⟨_,rfl⟩;rw[<-hwB];have HB:Hsh wB b h (kb.set held 128) (held+1) size:=(by rw[hwB];exact H3.setHeld (held+1));have hgB:w2.grownBy wB (some b):=(by rw[hwB];exact qad hg3 (qae _ _ _ _));clear hwB H3 hg3 cd cf2;refine(fill_i b h (kb.set held 128) (held+1) size 64 64 rfl wB HB (by omega) (by omega)).mono ?_;rintro e wC ⟨rfl,HC,hgC⟩;obtain⟨k2,hk2⟩:=eX (zf (kb.set held 128) (held+1) (64-(held+1)));rw[hk2] at HC;have hgC2:=qad hgB hgC;clear HB hgB hgC;go_wp2_with fail;refine(mix_h b h k2 64 size wC HC hb0 (HK.out wC (qad hg2 hgC2))).mono ?_;rintro e wA ⟨rfl,HA,hgA0⟩;obtain⟨hA,ehA⟩:=eX (comp h k2);rw[ehA] at HA;have HF:Hid (fin h kb held size=comp hA (lb (zf k2 0 (56-0)) size 8)):=by
   show fin h kb held size=_;rw[fin,if_neg hbig,hk2,ehA]
  have hgA:=qad hgC2 hgA0;clear hk2 ehA hgA0 hgC2 HC;go_wp2_with fail;refine(fill_i b hA k2 0 size 56 56 rfl wA HA (by omega) (by omega)).mono ?_;rintro e w4 ⟨rfl,H4,hg4⟩;have hgw4:=qad hgA hg4;have cs:=H4.sz;clear HA hg4 hgA;obtain⟨k4,hk4⟩:=eX (zf k2 0 (56-0));rw[hk4] at H4;have HK4:Hid (zf k2 0 (56-0)=k4):=hk4;clear hk4;go_wp2_with fail;go_loopw [4] (λt wr=>∃i p:Nat,i<=8/\p=56+i/\t=.int .i64 (p:Int)/\Hsh wr b hA (lb k4 size i) 56 size/\w2.grownBy wr (some b)) (λt _=>64-(intOf t).toNat)
  case atStart=>exact⟨0,56,by omega,rfl,rfl,H4,hgw4⟩
  case round =>
   clear H4 hgw4 cs;obtain⟨i,p,hi,hp,rfl,H5,hg5⟩:=hrel;by_cases hlt:i<8
   ·have HP:Hid (p=56+i):=hp;have cb:=H5.ks p (by omega);have cf:=H5.fr (8+p) (by omega);have q0:(0:Int)<=(p:Int):=(by omega);have q1:(p:Int)<64:=(by omega);have q2:56<=p:=(by omega);clear hp;go_wp2_with fail;go_region;go_wp2;go_roundw
    case rel =>
     have HPo:=HP.out;have e0:63-p=7-i:=(by omega);have e1:lb k4 size (i+1)=(lb k4 size i).set p (lenByte (8*size) (7-i)):=(by rw[lb,HPo]);simp only[e0,qcc];refine⟨i+1,p+1,by omega,by omega,by go_num,?_,qav (qad hg5 (qae _ _ _ _))⟩;rw[e1];exact(H5.setByte p (by omega) _).drew
    case measure=>simp[intOf];omega
   ·obtain rfl:i=8:=by omega
    obtain rfl:p=64:=by omega
    clear hp;go_wp2_with fail;refine(mix_h b hA (lb k4 size 8) 56 size wr H5 hb0 (HK.out wr (qad hg2 hg5))).mono ?_;rintro e w6 ⟨rfl,H6,hg6⟩;have hgw6:=qad hg5 hg6;have HFF:Hid (comp hA (lb k4 size 8)=fin h kb held size):=by
     show comp hA (lb k4 size 8)=_;rw[HF.out,HK4.out]
    rw[HFF.out] at H6;clear HFF HF HK4 H5 hg5 hg6 HK;obtain⟨hZ,ehZ⟩:=eX (fin h kb held size);rw[ehZ] at H6;have HZ:Hid (fin h kb held size=hZ):=ehZ;clear ehZ;go_wp2_with fail;refine(bytes_any b hZ _ _ _ w6 H6).mono ?_;rintro e w7 ⟨rfl,hb7⟩;have hgw7:=qcz hgw6 hb7;have hR7:Row w7 w.heap.size g2 32 32 (zeros8.map B):=hr2'.kept hgw7 (by simp;omega);have hln:((outTo hZ 8).map B).length=32:=(by rw[List.length_map,qar]);have h1c:∀v ∈ (outTo hZ 8).map B,v.oneCell'=true:=by
     intro v hv;obtain⟨x,_,rfl⟩:=List.mem_map.1 hv;rfl
    obtain⟨L,hL⟩:=eX ((outTo hZ 8).map B);rw[hL] at hln h1c;rw[hL];have HL:Hid (∀N,N=8->(outTo hZ N).map B=L):=λN hN=>by rw[hN];exact hL
    clear hL;go_wp2_with (refine qan _ rfl rfl 247 (.tmp 2) (.tmp 54) rfl w.heap.size g2 32 (zeros8.map B) L rfl rfl hR7 hln size32 h1c ?_;intro w8 hR8 hg8);refine qdv _ (p:=2) (ty:=247) rfl w.heap.size g2 32 32 L 5 rfl hR8 Tryz.underlying247 size32 rfl ?_;refine⟨?_,?_⟩
    ·rw[HZ.out,HL.out 8 rfl]
    ·exact grownBy_new (qad hg2 hgw7) hg8 hge
def newCells:List Value:=hTab.map U++(List.replicate 64 (0:UInt8)).map B++[.int .i64 0,.int .u64 0]
theorem hsh_new (w:World):Hsh (w.alloc (.cells newCells.toArray 289)) w.heap.size hTab (List.replicate 64 0) 0 0:=by
 have hc:∀j,(w.alloc (.cells newCells.toArray 289)).cell? ⟨w.heap.size,j,none⟩=newCells[j]?:=λj=>by
  rw[cell_of_row _ _ _ _ _ _ (heap_alloc_new w (.cells newCells.toArray 289))];simp
 refine⟨rfl,rfl,λj hj=>?_,λj hj=>?_,?_,?_,λj hj=>?_⟩
 ·rw[hc];have:j=0\/j=1\/j=2\/j=3\/j=4\/j=5\/j=6\/j=7:=by omega
  rcases this with h|h|h|h|h|h|h|h <;> subst h <;> rfl
 ·rw[hc];have e:(List.replicate 64 (0:UInt8)).getD j 0=0:=by
   rw[zL,List.getElem?_replicate,if_pos hj];rfl
  rw[e];unfold newCells;rw[List.getElem?_append_left (by rw[List.length_append,List.length_map,List.length_map,List.length_replicate];show 8+j<8+64;omega),
   List.getElem?_append_right (by rw[List.length_map];show 8<=8+j;omega),List.length_map]
  show (List.map B (List.replicate 64 0))[8+j-8]?=_;rw[Nat.add_sub_cancel_left,List.getElem?_map,List.getElem?_replicate,if_pos hj];rfl
 ·rw[hc];rfl
 ·rw[hc];rfl
 ·have:=heap_alloc_new w (.cells newCells.toArray 289);simp only[World.frozen?,this];simp
theorem new_any (w:World) : Calls prog 187 #[] w λe w'=>e=.returned (.pointer (some ⟨w.heap.size,0,none⟩))/\w'=w.alloc (.cells newCells.toArray 289):=by
 go_enter func187,ntmps187;go_wp2_with (first|(refine Go.Great.wpList_runTo rfl (some 1) rfl (.agg (hTab.map U).toArray) w (by kernel_rfl) ?_)|(refine Go.Great.wpList_runTo rfl (some 2) rfl (.agg newCells.toArray) w (by kernel_rfl) ?_)|(refine Go.Great.wpList_runTo rfl (some 3) rfl (.pointer (some ⟨w.heap.size,0,none⟩)) (w.alloc (.cells newCells.toArray 289)) (by kernel_rfl) ?_));go_ret;exact⟨rfl,rfl⟩
end Go.Proofs.YtibjhkpgaaapaaaGreatDoor
namespace Go.Proofs.Sha
open Go Go.RowKit
theorem Hsh.setBytesAt {w:World}{b:Nat}{h:List UInt32}{k:List UInt8}{held size:Nat}(H:Hsh w b h k held size)(o:Nat)(ys:List UInt8)(hy:o+ys.length<=64):Hsh (w.setCells b (8+o) (ys.map B)) b h (k.take o++ys++k.drop (o+ys.length)) held size:=by
 have hl:(ys.map B).length=ys.length:=List.length_map ..;have hin:∀j (hj:j<(ys.map B).length),(w.setCells b (8+o) (ys.map B)).cell? ⟨b,8+o+j,none⟩=some (ys.map B)[j]:=World.cell?_setCells_in b (ys.map B) (8+o) w (λj hj=>by rw[Nat.add_assoc,H.ks (o+j) (by omega)];rfl);have hout:∀j,j<8+o\/8+o+ys.length<=j->(w.setCells b (8+o) (ys.map B)).cell? ⟨b,j,none⟩=w.cell? ⟨b,j,none⟩:=λj hj=>World.cell?_setCells_out b (ys.map B) (8+o) w ⟨b,j,none⟩ (λ_ _=>by rw[hl];exact hj);have kl:=H.kl;have tl:(k.take o).length=o:=by rw[List.length_take,kl];omega
 refine⟨H.hl,by rw[List.length_append,List.length_append,List.length_drop,tl,kl];omega,λj hj=>?_,λj hj=>?_,?_,?_,λj hj=>by rw[World.frozen?_setCells];exact H.fr j hj⟩
 ·rw[hout j (.inl (by omega))];exact H.hs j hj
 ·rw[zL];rcases Nat.lt_or_ge j o with hlt|hge
  ·rw[hout _ (.inl (by omega)),List.append_assoc,List.getElem?_append_left (by omega),List.getElem?_take,if_pos hlt,<-zL];exact H.ks j hj
  ·rcases Nat.lt_or_ge j (o+ys.length) with hlt2|hge2
   ·obtain⟨q,rfl⟩:=Nat.exists_eq_add_of_le hge;rw[<-Nat.add_assoc,hin q (by omega),List.append_assoc,List.getElem?_append_right (by omega),tl,Nat.add_sub_cancel_left,List.getElem?_append_left (by omega),List.getElem?_eq_getElem (by omega),List.getElem_map];rfl
   ·rw[hout _ (.inr (by omega)),List.getElem?_append_right (by rw[List.length_append,tl];exact hge2),List.length_append,tl,List.getElem?_drop,Nat.add_sub_cancel' hge2,<-zL];exact H.ks j hj
 ·rw[hout _ (.inr (by omega))];exact H.hd
 ·rw[hout _ (.inr (by omega))];exact H.sz
theorem step_copy_at {P:Program}{ops:Array Oper}{o:Oper}{a:Act}{w:World}{K:Act->World->Prop}{Q:Exit->Act->World->Prop}{E:Prop}(hg:o.guard=none)(d x:Operand)(dT sT:TypeId)(hop:o.op=Op.call { callee:=Callee.builtin Builtin.copy,args:=#[d,x],argTypes:=#[dT,sT] })(elem:TypeId)(hu:P.underlying dT=some (.slice elem))(hz:(P.info? elem).map (·.size)=some 1)(b:Nat)(h:List UInt32)(k:List UInt8)(held size:Nat)(H:Hsh w b h k held size)(off len cap:Nat)(hoff:off=8+held)(hlen:held+len=64)(hd:a.eval d=.slice (some ⟨b,off,none⟩) len cap)(t:ByteArray)(hx:a.eval x=.string t)(n:Nat)(hn:n=Nat.min t.size len)(hK:∀w',Hsh w' b h (k.take held++t.data.toList.take n++k.drop (held+n)) held size->w.grownBy w' (some b)->K (a.put o.dst (.int .i64 (n:Int))) w') : if Region.wanted o (yielded ops a.tmps)=true then Oper.wp P o a w K Q else E:=by
 have hw:Region.wanted o (yielded ops a.tmps)=true:=by simp[Region.wanted,hg]
 rw[if_pos hw];subst hn;subst hoff;have hts:t.data.toList.length=t.size:=rfl;have hln:(t.data.toList.take (Nat.min t.size len)).length=Nat.min t.size len:=by
  rw[List.length_take,hts];exact Nat.min_eq_left (Nat.min_le_left _ _)
 have h64:Nat.min t.size len<=len:=Nat.min_le_right _ _;have e:List.take (Nat.min t.size len) (t.data.toList.map λx=>Value.int .u8 (x.toNat:Int))=(t.data.toList.take (Nat.min t.size len)).map B:=by
  rw[<-List.map_take];rfl
 obtain⟨ys,hys⟩:=eX (t.data.toList.take (Nat.min t.size len));rw[hys] at hK hln e;clear hys;cases hq:P.info? elem with
 | none=>simp[hq] at hz
 | some ie =>
  have hs1:ie.size=1:=by simpa[hq] using hz
  have hst:=run_storeCells_cells (P:=P) b (8+held) (ys.map B) 0 w
   (λj hj=>by rw[List.length_map,hln] at hj;rw[Nat.add_zero,Nat.add_assoc,H.ks (held+j) (by omega)];rfl)
   (λj hj=>by rw[List.length_map,hln] at hj;rw[Nat.add_zero];exact H.fr _ (by omega))
   (by
    intro v hv
    obtain⟨y,_,rfl⟩:=List.mem_map.1 hv
    rfl)
  simp only[Nat.add_zero] at hst;have hrun:(Builtin.copy_ #[dT,sT] o.type #[.slice (some ⟨b,8+held,none⟩) len cap,.string t]).run P w=.ok (.int .i64 (Nat.min t.size len:Nat)) (w.setCells b (8+held) (ys.map B)):=by
   simp[Builtin.copy_,run_underlying hu,Builtin.lenOf,Builtin.firstCells,sizeOf,typeInfo,hq];rw[e,hst];rfl
  unfold Oper.wp;simp[execOp,hop,resolve,invoke,builtin,hd,hx,hrun,Result.andThen];have:=H.setBytesAt held ys (by rw[hln];omega);rw[hln] at this;exact hK _ this (qat b _ _ w)
theorem sched_congr (m m':List UInt8)(i:Nat)(hi:i<=64)(h:∀j,j<64->m.getD j 0=m'.getD j 0):sched m i=sched m' i:=by
 induction i with
 | zero=>rfl
 | succ i ih =>
  rw[sched,sched,ih (by omega)];by_cases hlt:i<16
  ·rw[if_pos hlt,if_pos hlt,h _ (by omega),h _ (by omega),h _ (by omega),h _ (by omega)]
  ·rw[if_neg hlt,if_neg hlt]
theorem qbI (s:List UInt32)(m m':List UInt8)(h:∀j,j<64->m.getD j 0=m'.getD j 0):comp s m=comp s m':=by
 unfold comp;rw[sched_congr m m' 64 (Nat.le_refl _) h]
theorem getD_take (m:List UInt8)(n j:Nat)(hj:j<n):(m.take n).getD j 0=m.getD j 0:=by
 rw[zL,zL,List.getElem?_take,if_pos hj]
theorem comp_take (s:List UInt32)(m:List UInt8):comp s (m.take 64)=comp s m:=qbI s _ _ (λj hj=>getD_take m 64 j hj)
theorem qbL (p l:List UInt8)(q:Nat)(hq:64*q<=p.length):blocks (p++l) q=blocks p q:=by
 induction q with
 | zero=>rfl
 | succ q ih =>
  rw[blocks,blocks,ih (by omega)];refine qbI _ _ _ (λj hj=>?_);rw[List.drop_append_of_le_length (by omega),zL,zL,List.getElem?_append_left (by rw[List.length_drop];omega)]
structure Fed (w:World) (b:Nat) (p:List UInt8) (k:List UInt8) (size:Nat):Prop where
 H:Hsh w b (blocks p (p.length / 64)) k (p.length % 64) size
 tk:k.take (p.length % 64)=p.drop (64*(p.length / 64))
theorem fed_block (p k ys:List UInt8)(hk:k.length=64)(tk:k.take (p.length % 64)=p.drop (64*(p.length / 64)))(_hy:p.length % 64+ys.length<=64) : (k.take (p.length % 64)++ys++k.drop (p.length % 64+ys.length)).take (p.length % 64+ys.length)=(p++ys).drop (64*(p.length / 64)):=by
 have tl:(k.take (p.length % 64)).length=p.length % 64:=by rw[List.length_take,hk];omega
 rw[List.take_left' (by rw[List.length_append,tl]),tk,List.drop_append_of_le_length (by omega)]
end Go.Proofs.Sha
namespace Go.Proofs.Sha
open Go Go.RowKit
theorem extract_list (t:ByteArray)(n:Nat):(t.extract n t.size).data.toList=t.data.toList.drop n:=by
 rw[ByteArray.data_extract,Array.toList_extract,List.extract_eq_take_drop];apply List.take_of_length_le;rw[List.length_drop];exact Nat.le_refl _
theorem extract_size (t:ByteArray)(n:Nat):(t.extract n t.size).size=t.size-n:=by
 rw[ByteArray.size_extract];omega
theorem take_step (l:List UInt8)(c n:Nat):l.take (c+n)=l.take c++(l.drop c).take n:=by
 rw[List.take_add]
theorem fed_part {w:World}{b:Nat}{P k ys:List UInt8}{size held n:Nat}(H:Hsh w b (blocks P (P.length / 64)) (k.take held++ys++k.drop (held+n)) (held+n) size)(hh:P.length % 64=held)(tk:k.take held=P.drop (64*(P.length / 64)))(hy:ys.length=n)(hk:k.length=64)(hlt:held+n<64) : Fed w b (P++ys) (k.take held++ys++k.drop (held+n)) size:=by
 have hl:(P++ys).length=P.length+n:=by rw[List.length_append,hy]
 have e1:(P.length+n) / 64=P.length / 64:=by omega
 have e2:(P.length+n) % 64=held+n:=by omega
 subst hh;subst hy;refine⟨?_,?_⟩
 ·rw[hl,e1,e2,qbL _ _ _ (by omega)];exact H
 ·rw[hl,e1,e2];exact fed_block P k ys hk tk (by omega)
theorem fed_full {w:World}{b:Nat}{P k ys:List UInt8}{size held n:Nat}(H:Hsh w b (comp (blocks P (P.length / 64)) (k.take held++ys++k.drop (held+n))) (k.take held++ys++k.drop (held+n)) 0 size)(hh:P.length % 64=held)(tk:k.take held=P.drop (64*(P.length / 64)))(hy:ys.length=n)(hk:k.length=64)(hlt:held+n=64) : Fed w b (P++ys) (k.take held++ys++k.drop (held+n)) size:=by
 have hl:(P++ys).length=P.length+n:=by rw[List.length_append,hy]
 have e1:(P.length+n) / 64=P.length / 64+1:=by omega
 have e2:(P.length+n) % 64=0:=by omega
 subst hh;subst hy;have hb:=fed_block P k ys hk tk (by omega);refine⟨?_,?_⟩
 ·rw[hl,e1,e2,blocks,qbL _ _ _ (by omega),<-hb,hlt,comp_take];rw[hlt] at H;exact H
 ·rw[hl,e1,e2,List.take_zero,List.drop_of_length_le (by rw[hl];omega)]
end Go.Proofs.Sha
namespace Go.Proofs.YtibjhkpgaaapaaaGreatDoor
open Go.RowKit Go.Proofs.Sha Tryz
theorem size5:(prog.info? 5).map (·.size)=some 1:=by kernel_rfl
def lenS:Value->Nat|.string s=>s.size|_=>0
theorem feed_any (b:Nat)(p kb:List UInt8)(s:ByteArray)(w:World)(F:Fed w b p kb p.length)(hsz:p.length+s.size<=2000000)(hb0:b ≠ 0)(hK:∀j,j<64->w.cell? ⟨0,j,none⟩=some (.int .u32 ((kTab.getD j 0).toNat:Int))) : Calls prog 188 #[.pointer (some ⟨b,0,none⟩),.string s] w λe w'=>e=.returned (.tuple #[])/\(∃k',Fed w' b (p++s.data.toList) k' (p.length+s.size))/\w.grownBy w' (some b):=by
 have hl0:0<w.heap.size:=by have:=F.H.lt;omega
 have HK:Hid (∀w':World,w.grownBy w' (some b)->∀j,j<64->w'.cell? ⟨0,j,none⟩=some (.int .u32 ((kTab.getD j 0).toNat:Int))):=λw' hg j hj=>(hg.cell_far _ hl0 (by simp;omega)).trans (hK j hj);clear hK;have hsl:s.data.toList.length=s.size:=rfl;have cs:=F.H.sz;have cf:=F.H.fr 73 (by omega);go_enter func188,ntmps188;go_wp2_with fail;obtain⟨w1,hw1⟩:∃w1,w1=w.setCell ⟨b,73,none⟩ (.int .u64 ((p.length:Int)+(s.size:Int))):=⟨_,rfl⟩;rw[<-hw1];have F1:Fed w1 b (p++s.data.toList.take 0) kb (p.length+s.size):=by
  rw[hw1,List.take_zero,List.append_nil];exact⟨F.H.setSize (p.length+s.size),F.tk⟩
 have hg1:w.grownBy w1 (some b):=by rw[hw1];exact qae _ _ _ _
 clear hw1 cs cf F;go_loopw [1] (λv wr=>∃ (c:Nat) (t:ByteArray) (k:List UInt8),v=.string t/\Hid (t.data.toList=s.data.toList.drop c)/\t.size+c<=s.size/\s.size<=t.size+c/\Fed wr b (p++s.data.toList.take c) k (p.length+s.size)/\w.grownBy wr (some b)) (λv _=>lenS v)
 case atStart=>exact⟨0,s,kb,rfl,rfl,by omega,by omega,F1,hg1⟩
 case round =>
  clear F1 hg1;obtain⟨c,t,k,rfl,HT,ht1,ht2,F,hgr⟩:=hrel;have hPl:(p++s.data.toList.take c).length=p.length+c:=by rw[List.length_append,List.length_take,hsl];omega
  by_cases hlt:0<t.size
  ·obtain⟨P,hP⟩:=eX (p++s.data.toList.take c);rw[hP] at F hPl;have HP:Hid (p++s.data.toList.take c=P):=hP;clear hP;obtain⟨held,hheld⟩:=eX (P.length % 64);obtain⟨H,tk⟩:=F;rw[hheld] at H tk;have hh:held<64:=(by omega);have HH:Hid (P.length % 64=held/\P.length=p.length+c/\k.take held=P.drop (64*(P.length / 64))):=⟨hheld,hPl,tk⟩;clear hheld hPl tk;obtain⟨n,hn⟩:∃n,n=Nat.min t.size (64-held):=⟨_,rfl⟩;have hn1:n<=t.size:=(by rw[hn];exact Nat.min_le_left _ _);have hn2:n<=64-held:=(by rw[hn];exact Nat.min_le_right _ _);have hn3:0<n:=(by rw[hn];exact Nat.lt_min.2 ⟨hlt,by omega⟩);have HN:Hid (n=Nat.min t.size (64-held)):=hn;have hn4:n=t.size\/n=64-held:=(by rw[hn];exact(Nat.le_total t.size (64-held)).imp (λh=>Nat.min_eq_left h) (λh=>Nat.min_eq_right h));clear hn;have HKL:Hid (k.length=64):=H.kl;have cd:=H.hd;have q0:(0:Int)<=(held:Int):=(by omega);have q1:(held:Int)<=64:=(by omega);have q2:¬ (64:Nat)=held:=(by omega);go_wp2_with fail;go_region_held3 (λw'=>w'.cell? ⟨b,72,none⟩=some (.int .i64 (held:Int))) (first|exact cd|exact H2.hd)
    ((refine step_copy_at (by rfl) _ _ _ _ (by rfl) 5 Tryz.underlying41 size5 b _ k held _ H.drew (8+held) (64-held) (64-held) rfl (by omega) (by rfl) t (by rfl) n HN.out ?_;intro w2 H2 hg2))
   have cd2:=H2.hd;have cf2:=H2.fr 72 (by omega);clear H cd;have hyl:(t.data.toList.take n).length=n:=(by rw[List.length_take];exact Nat.min_eq_left hn1);have hkl:k.length=64:=HKL.out;have hPP:P++t.data.toList.take n=p++s.data.toList.take (c+n):=(by rw[<-HP.out,HT.out,take_step,List.append_assoc]);have hex:(t.extract n t.size).data.toList=s.data.toList.drop (c+n):=(by rw[extract_list,HT.out,List.drop_drop]);have hes:=extract_size t n;obtain⟨t',ht'⟩:∃t',t.extract n t.size=t':=⟨_,rfl⟩;have HT':Hid (t.extract n t.size=t'):=ht';rw[ht'] at hex hes;have HX:Hid (t'.data.toList=s.data.toList.drop (c+n)):=hex;have hs1:t'.size+(c+n)<=s.size:=(by omega);have hs2:s.size<=t'.size+(c+n):=(by omega);have hs3:t'.size<t.size:=(by omega);have HPP:Hid (P++t.data.toList.take n=p++s.data.toList.take (c+n)):=hPP;have HYL:Hid ((t.data.toList.take n).length=n):=hyl;clear ht' hex hes hPP hyl hkl;by_cases hfull:held+n=64
   ·go_wp2_with fail;rw[HT'.out];obtain⟨w3,hw3⟩:∃w3,w3=w2.setCell ⟨b,72,none⟩ (.int .i64 ((held:Int)+(n:Int))):=⟨_,rfl⟩;rw[<-hw3];have H3:=H2.setHeld (held+n);have hg3:w.grownBy w3 (some b):=(by rw[hw3];exact qad (qad (qav hgr) hg2) (qae _ _ _ _));have H3':Hsh w3 b (blocks P (P.length / 64)) (k.take held++t.data.toList.take n++k.drop (held+n)) (held+n) (p.length+s.size):=(by rw[hw3];exact H3);clear H3 hw3 H2 cd2 cf2;refine(mix_h b _ _ _ _ w3 H3' hb0 (HK.out w3 hg3)).mono ?_;rintro e w4 ⟨rfl,H4,hg4⟩;have F4:=fed_full H4 HH.out.1 HH.out.2.2 HYL.out HKL.out hfull;rw[HPP.out] at F4;clear H3' H4;go_wp2;go_roundw
    case rel=>exact⟨c+n,t',_,rfl,HX,hs1,hs2,F4,qad hg3 hg4⟩
    case measure=>simp only[lenS];omega
   ·go_wp2;rw[HT'.out];go_roundw
    case rel =>
     have H3:=H2.setHeld (held+n);have F4:=fed_part H3 HH.out.1 HH.out.2.2 HYL.out HKL.out (by omega);rw[HPP.out] at F4;exact⟨c+n,t',_,rfl,HX,hs1,hs2,F4,qad (qad (qav hgr) hg2) (qae _ _ _ _)⟩
    case measure=>simp only[lenS];omega
  ·go_wp2;go_end0;have hc:c=s.size:=(by omega);have e:s.data.toList.take c=s.data.toList:=List.take_of_length_le (by rw[hsl];omega);rw[e] at F;exact⟨rfl,⟨k,F⟩,hgr⟩
end Go.Proofs.YtibjhkpgaaapaaaGreatDoor
namespace Go.Proofs.Sha
open Go Go.RowKit
theorem lb_length (k:List UInt8)(N n:Nat):(lb k N n).length=k.length:=by
 induction n with
 | zero=>rfl
 | succ n ih=>rw[lb,List.length_set,ih]
theorem lb_getD (k:List UInt8)(N n j:Nat)(hn:56+n<=k.length):(lb k N n).getD j 0=if 56<=j/\j<56+n then lenByte (8*N) (7-(j-56)) else k.getD j 0:=by
 induction n with
 | zero=>rw[lb,if_neg (by omega)]
 | succ n ih =>
  rw[lb,qdd _ _ _ _ _ (by rw[lb_length];omega),ih (by omega)];by_cases e:j=56+n
  ·rw[if_pos e,if_pos (by omega)];congr 1;omega
  ·rw[if_neg e];by_cases e2:56<=j/\j<56+n
   ·rw[if_pos e2,if_pos (by omega)]
   ·rw[if_neg e2,if_neg (by omega)]
def tl (T:List UInt8) (z N:Nat):List UInt8:=T++[128]++List.replicate z 0++beTo (8*N) 8
theorem qbK (A C:List UInt8)(j:Nat)(h:j<A.length):(A++C).getD j 0=A.getD j 0:=by
 rw[zL,zL,List.getElem?_append_left h]
theorem qdy (A C:List UInt8)(j:Nat)(h:A.length<=j):(A++C).getD j 0=C.getD (j-A.length) 0:=by
 rw[zL,zL,List.getElem?_append_right h]
theorem beTo_getD (N i:Nat)(hi:i<8):(beTo N 8).getD i 0=lenByte N (7-i):=by
 have:i=0\/i=1\/i=2\/i=3\/i=4\/i=5\/i=6\/i=7:=by omega
 rcases this with h|h|h|h|h|h|h|h <;> subst h <;> rfl
theorem tl_1 (T:List UInt8)(z N j:Nat)(h:j<T.length):(tl T z N).getD j 0=T.getD j 0:=by
 unfold tl;rw[qbK _ _ _ (by simp;omega),qbK _ _ _ (by simp;omega),qbK _ _ _ h]
theorem tl_2 (T:List UInt8)(z N j:Nat)(h:j=T.length):(tl T z N).getD j 0=128:=by
 unfold tl;rw[qbK _ _ _ (by simp;omega),qbK _ _ _ (by simp;omega),qdy _ _ _ (by omega),h,Nat.sub_self];rfl
theorem tl_3 (T:List UInt8)(z N j:Nat)(h:T.length<j)(h2:j<T.length+1+z):(tl T z N).getD j 0=0:=by
 unfold tl;rw[qbK _ _ _ (by simp;omega),qdy _ _ _ (by simp;omega),List.getD_eq_getElem?_getD,List.getElem?_replicate,if_pos (by simp;omega)];rfl
theorem tl_4 (T:List UInt8)(z N j:Nat)(h:T.length+1+z<=j)(h2:j<T.length+1+z+8):(tl T z N).getD j 0=lenByte (8*N) (7-(j-(T.length+1+z))):=by
 unfold tl;have hl:(T++[128]++List.replicate z 0).length=T.length+1+z:=by simp;omega
 rw[qdy _ _ _ (by omega),hl,beTo_getD _ _ (by omega)]
theorem pad_drop (l:List UInt8)(q:Nat)(hq:64*q<=l.length):(pad l).drop (64*q)=tl (l.drop (64*q)) (zpad l.length) l.length:=by
 unfold pad tl;rw[List.drop_append_of_le_length (by simp;omega),List.drop_append_of_le_length (by simp;omega),List.drop_append_of_le_length hq]
theorem pad_blocks (l:List UInt8)(q:Nat)(hq:64*q<=l.length):blocks (pad l) q=blocks l q:=by
 unfold pad;rw[List.append_assoc,List.append_assoc];exact qbL l _ q hq
theorem fin_sha (l k:List UInt8)(hk:k.length=64)(tk:k.take (l.length % 64)=l.drop (64*(l.length / 64))) : outTo (fin (blocks l (l.length / 64)) k (l.length % 64) l.length) 8=sha l:=by
 have hplen:=qcj l;have hq:64*(l.length / 64)<=l.length:=by omega
 have hpd:=pad_drop l _ hq;have hpb:=pad_blocks l _ hq;have hT:(l.drop (64*(l.length / 64))).length=l.length % 64:=by rw[List.length_drop];omega
 have hTk:∀j,j<l.length % 64->(l.drop (64*(l.length / 64))).getD j 0=k.getD j 0:=λj hj=>by rw[<-tk];exact getD_take k _ j hj
 have hh:l.length % 64<64:=by omega
 have hk1:(k.set (l.length % 64) 128).length=64:=by rw[List.length_set];exact hk
 have hks:∀j,(k.set (l.length % 64) 128).getD j 0=if j=l.length % 64 then 128 else k.getD j 0:=λj=>qdd k _ j 128 0 (by omega);unfold sha fin;congr 1;by_cases hb:l.length % 64+1<=56
 ·have hz:zpad l.length=55-l.length % 64:=(by unfold zpad;omega);have hn:(pad l).length / 64=l.length / 64+1:=(by rw[hplen,hz];omega);rw[if_pos hb,hn,blocks,hpb,hpd];refine qbI _ _ _ (λj hj=>?_);rw[lb_getD _ _ _ _ (by rw[qca];omega),zf_getD _ _ _ _ (by omega),hks j,hz];by_cases c1:56<=j
  ·rw[if_pos (by omega),tl_4 _ _ _ _ (by omega) (by omega)];congr 1;omega
  ·rw[if_neg (by omega)];by_cases c2:l.length % 64+1<=j
   ·rw[if_pos (by omega),tl_3 _ _ _ _ (by omega) (by omega)]
   ·rw[if_neg (by omega)];by_cases c3:j=l.length % 64
    ·rw[if_pos c3,tl_2 _ _ _ _ (by omega)]
    ·rw[if_neg c3,tl_1 _ _ _ _ (by omega),hTk j (by omega)]
 ·have hz:zpad l.length=119-l.length % 64:=(by unfold zpad;omega);have hn:(pad l).length / 64=l.length / 64+1+1:=(by rw[hplen,hz];omega);have hd2:∀j,((pad l).drop (64*(l.length / 64+1))).getD j 0=(tl (l.drop (64*(l.length / 64))) (zpad l.length) l.length).getD (64+j) 0:=λj=>by
   rw[<-hpd,qbG,qbG];congr 1;omega
  rw[if_neg hb,hn,blocks,blocks,hpb];have e1:comp (blocks l (l.length / 64)) (zf (k.set (l.length % 64) 128) (l.length % 64+1) (64-(l.length % 64+1)))=comp (blocks l (l.length / 64)) ((pad l).drop (64*(l.length / 64))):=by
   rw[hpd];refine qbI _ _ _ (λj hj=>?_);rw[zf_getD _ _ _ _ (by omega),hks j,hz];by_cases c2:l.length % 64+1<=j
   ·rw[if_pos (by omega),tl_3 _ _ _ _ (by omega) (by omega)]
   ·rw[if_neg (by omega)];by_cases c3:j=l.length % 64
    ·rw[if_pos c3,tl_2 _ _ _ _ (by omega)]
    ·rw[if_neg c3,tl_1 _ _ _ _ (by omega),hTk j (by omega)]
  rw[e1];refine qbI _ _ _ (λj hj=>?_);rw[hd2 j,lb_getD _ _ _ _ (by rw[qca,qca];omega),zf_getD _ _ _ _ (by rw[qca];omega),hz];by_cases c1:56<=j
  ·rw[if_pos (by omega),tl_4 _ _ _ _ (by omega) (by omega)];congr 1;omega
  ·rw[if_neg (by omega),if_pos (by omega),tl_3 _ _ _ _ (by omega) (by omega)]
end Go.Proofs.Sha
