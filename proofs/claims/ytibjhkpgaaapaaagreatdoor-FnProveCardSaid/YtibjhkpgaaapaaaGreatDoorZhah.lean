import Derived.Test.YtibjhkpgaaapaaaGreatDoorZhag
import Derived.ChangeKeysEq
import Derived.Test.YtibjhkpgaaapaaaGreatDoorZhaf
import Derived.Deep.QuietTactic
import Derived.BigQuiet
import Derived.Test.YtibjhkpgaaapaaaGreatDoorZhac
set_option maxRecDepth 100000
set_option maxHeartbeats 1600000
namespace Go.Proofs.YtibjhkpgaaapaaaGreatDoor
open Go.RowKit Go.Proofs.Sha Tryz
theorem size5:(prog.info? 5).map (·.size)=some 1:=by kernel_rfl
def lenS:Value -> Nat | .string s=>s.size | _=>0
theorem feed_any (b:Nat) (p kb:List UInt8) (s:ByteArray) (w:World) (F:Fed w b p kb p.length) (hsz:p.length + s.size <= 2000000) (hb0:b ≠ 0)
 (hK:∀ j,j < 64 -> w.cell? ⟨0,j,none⟩=some (.int .u32 ((kTab.getD j 0).toNat:Int))) :
 Calls prog 188 #[.pointer (some ⟨b,0,none⟩),.string s] w fun e w'=>e=.returned (.tuple #[]) /\ (∃ k',Fed w' b (p ++ s.data.toList) k' (p.length + s.size)) /\ w.grownBy w' (some b):=by
 have hl0:0 < w.heap.size:=by have:=F.H.lt;omega
 have HK:Hid (∀ w':World,w.grownBy w' (some b) -> ∀ j,j < 64 -> w'.cell? ⟨0,j,none⟩=some (.int .u32 ((kTab.getD j 0).toNat:Int))):=fun w' hg j hj=>(hg.cell_far _ hl0 (by simp;omega)).trans (hK j hj)
 clear hK
 have hsl:s.data.toList.length=s.size:=rfl
 have cs:=F.H.sz
 have cf:=F.H.fr 73 (by omega)
 go_enter func188,ntmps188
 go_wp2_with fail
 obtain ⟨w1,hw1⟩:∃ w1,w1=w.setCell ⟨b,73,none⟩ (.int .u64 ((p.length:Int) + (s.size:Int))):=⟨_,rfl⟩
 rw [<- hw1]
 have F1:Fed w1 b (p ++ s.data.toList.take 0) kb (p.length + s.size):=by
  rw [hw1,List.take_zero,List.append_nil];exact ⟨F.H.setSize (p.length + s.size),F.tk⟩
 have hg1:w.grownBy w1 (some b):=by rw [hw1];exact grownBy_setCell _ _ _ _
 clear hw1 cs cf F
 go_loopw [1] (fun v wr=>∃ (c:Nat) (t:ByteArray) (k:List UInt8),v=.string t /\ Hid (t.data.toList=s.data.toList.drop c) /\ t.size + c <= s.size /\ s.size <= t.size + c /\ Fed wr b (p ++ s.data.toList.take c) k (p.length + s.size) /\ w.grownBy wr (some b)) (fun v _=>lenS v)
 case atStart=>exact ⟨0,s,kb,rfl,rfl,by omega,by omega,F1,hg1⟩
 case round =>
  clear F1 hg1
  obtain ⟨c,t,k,rfl,HT,ht1,ht2,F,hgr⟩:=hrel
  have hPl:(p ++ s.data.toList.take c).length=p.length + c:=by rw [List.length_append,List.length_take,hsl];omega
  by_cases hlt:0 < t.size
  · obtain ⟨P,hP⟩:∃ P,p ++ s.data.toList.take c=P:=⟨_,rfl⟩
    rw [hP] at F hPl
    have HP:Hid (p ++ s.data.toList.take c=P):=hP
    clear hP
    obtain ⟨held,hheld⟩:∃ held,P.length % 64=held:=⟨_,rfl⟩
    obtain ⟨H,tk⟩:=F
    rw [hheld] at H tk
    have hh:held < 64:=by omega
    have HH:Hid (P.length % 64=held /\ P.length=p.length + c /\ k.take held=P.drop (64 * (P.length / 64))):=⟨hheld,hPl,tk⟩
    clear hheld hPl tk
    obtain ⟨n,hn⟩:∃ n,n=Nat.min t.size (64 - held):=⟨_,rfl⟩
    have hn1:n <= t.size:=by rw [hn];exact Nat.min_le_left _ _
    have hn2:n <= 64 - held:=by rw [hn];exact Nat.min_le_right _ _
    have hn3:0 < n:=by rw [hn];exact Nat.lt_min.2 ⟨hlt,by omega⟩
    have HN:Hid (n=Nat.min t.size (64 - held)):=hn
    have hn4:n=t.size \/ n=64 - held:=by rw [hn];exact (Nat.le_total t.size (64 - held)).imp (fun h=>Nat.min_eq_left h) (fun h=>Nat.min_eq_right h)
    clear hn
    have HKL:Hid (k.length=64):=H.kl
    have cd:=H.hd
    have q0:(0:Int) <= (held:Int):=by omega
    have q1:(held:Int) <= 64:=by omega
    have q2:¬ (64:Nat)=held:=by omega
    go_wp2_with fail
    go_region_held3 (fun w'=>w'.cell? ⟨b,72,none⟩=some (.int .i64 (held:Int))) (first | exact cd | exact H2.hd)
     ((refine step_copy_at (by rfl) _ _ _ _ (by rfl) 5 Tryz.underlying41 size5 b _ k held _ H.drew (8 + held) (64 - held) (64 - held) rfl (by omega) (by rfl) t (by rfl) n HN.out ?_;intro w2 H2 hg2))
    have cd2:=H2.hd
    have cf2:=H2.fr 72 (by omega)
    clear H cd
    have hyl:(t.data.toList.take n).length=n:=by rw [List.length_take];exact Nat.min_eq_left hn1
    have hkl:k.length=64:=HKL.out
    have hPP:P ++ t.data.toList.take n=p ++ s.data.toList.take (c + n):=by rw [<- HP.out,HT.out,take_step,List.append_assoc]
    have hex:(t.extract n t.size).data.toList=s.data.toList.drop (c + n):=by rw [extract_list,HT.out,List.drop_drop]
    have hes:=extract_size t n
    obtain ⟨t',ht'⟩:∃ t',t.extract n t.size=t':=⟨_,rfl⟩
    have HT':Hid (t.extract n t.size=t'):=ht'
    rw [ht'] at hex hes
    have HX:Hid (t'.data.toList=s.data.toList.drop (c + n)):=hex
    have hs1:t'.size + (c + n) <= s.size:=by omega
    have hs2:s.size <= t'.size + (c + n):=by omega
    have hs3:t'.size < t.size:=by omega
    have HPP:Hid (P ++ t.data.toList.take n=p ++ s.data.toList.take (c + n)):=hPP
    have HYL:Hid ((t.data.toList.take n).length=n):=hyl
    clear ht' hex hes hPP hyl hkl
    by_cases hfull:held + n=64
    · go_wp2_with fail
      rw [HT'.out]
      obtain ⟨w3,hw3⟩:∃ w3,w3=w2.setCell ⟨b,72,none⟩ (.int .i64 ((held:Int) + (n:Int))):=⟨_,rfl⟩
      rw [<- hw3]
      have H3:=H2.setHeld (held + n)
      have hg3:w.grownBy w3 (some b):=by rw [hw3];exact grownBy_trans (grownBy_trans (grownBy_drewR hgr) hg2) (grownBy_setCell _ _ _ _)
      have H3':Hsh w3 b (blocks P (P.length / 64)) (k.take held ++ t.data.toList.take n ++ k.drop (held + n)) (held + n) (p.length + s.size):=by rw [hw3];exact H3
      clear H3 hw3 H2 cd2 cf2
      refine (mix_h b _ _ _ _ w3 H3' hb0 (HK.out w3 hg3)).mono ?_
      rintro e w4 ⟨rfl,H4,hg4⟩
      have F4:=fed_full H4 HH.out.1 HH.out.2.2 HYL.out HKL.out hfull
      rw [HPP.out] at F4
      clear H3' H4
      go_wp2
      go_roundw
      case rel=>exact ⟨c + n,t',_,rfl,HX,hs1,hs2,F4,grownBy_trans hg3 hg4⟩
      case measure=>simp only [lenS];omega
    · go_wp2
      rw [HT'.out]
      go_roundw
      case rel =>
       have H3:=H2.setHeld (held + n)
       have F4:=fed_part H3 HH.out.1 HH.out.2.2 HYL.out HKL.out (by omega)
       rw [HPP.out] at F4
       exact ⟨c + n,t',_,rfl,HX,hs1,hs2,F4,grownBy_trans (grownBy_trans (grownBy_drewR hgr) hg2) (grownBy_setCell _ _ _ _)⟩
      case measure=>simp only [lenS];omega
  · go_wp2
    go_end0
    have hc:c=s.size:=by omega
    have e:s.data.toList.take c=s.data.toList:=List.take_of_length_le (by rw [hsl];omega)
    rw [e] at F
    exact ⟨rfl,⟨k,F⟩,hgr⟩
end Go.Proofs.YtibjhkpgaaapaaaGreatDoor
namespace Go.Proofs.Sha
open Go Go.RowKit
theorem lb_length (k:List UInt8) (N n:Nat):(lb k N n).length=k.length:=by
 induction n with
 | zero=>rfl
 | succ n ih=>rw [lb,List.length_set,ih]
theorem lb_getD (k:List UInt8) (N n j:Nat) (hn:56 + n <= k.length):(lb k N n).getD j 0=if 56 <= j /\ j < 56 + n then lenByte (8 * N) (7 - (j - 56)) else k.getD j 0:=by
 induction n with
 | zero=>rw [lb,if_neg (by omega)]
 | succ n ih =>
  rw [lb,getD_set _ _ _ _ _ (by rw [lb_length];omega),ih (by omega)]
  by_cases e:j=56 + n
  · rw [if_pos e,if_pos (by omega)];congr 1;omega
  · rw [if_neg e]
    by_cases e2:56 <= j /\ j < 56 + n
    · rw [if_pos e2,if_pos (by omega)]
    · rw [if_neg e2,if_neg (by omega)]
def tl (T:List UInt8) (z N:Nat):List UInt8:=T ++ [128] ++ List.replicate z 0 ++ beTo (8 * N) 8
theorem getD_left (A C:List UInt8) (j:Nat) (h:j < A.length):(A ++ C).getD j 0=A.getD j 0:=by
 rw [List.getD_eq_getElem?_getD,List.getD_eq_getElem?_getD,List.getElem?_append_left h]
theorem getD_right (A C:List UInt8) (j:Nat) (h:A.length <= j):(A ++ C).getD j 0=C.getD (j - A.length) 0:=by
 rw [List.getD_eq_getElem?_getD,List.getD_eq_getElem?_getD,List.getElem?_append_right h]
theorem beTo_getD (N i:Nat) (hi:i < 8):(beTo N 8).getD i 0=lenByte N (7 - i):=by
 have:i=0 \/ i=1 \/ i=2 \/ i=3 \/ i=4 \/ i=5 \/ i=6 \/ i=7:=by omega
 rcases this with h | h | h | h | h | h | h | h <;> subst h <;> rfl
theorem tl_1 (T:List UInt8) (z N j:Nat) (h:j < T.length):(tl T z N).getD j 0=T.getD j 0:=by
 unfold tl
 rw [getD_left _ _ _ (by simp;omega),getD_left _ _ _ (by simp;omega),getD_left _ _ _ h]
theorem tl_2 (T:List UInt8) (z N j:Nat) (h:j=T.length):(tl T z N).getD j 0=128:=by
 unfold tl
 rw [getD_left _ _ _ (by simp;omega),getD_left _ _ _ (by simp;omega),getD_right _ _ _ (by omega),h,Nat.sub_self];rfl
theorem tl_3 (T:List UInt8) (z N j:Nat) (h:T.length < j) (h2:j < T.length + 1 + z):(tl T z N).getD j 0=0:=by
 unfold tl
 rw [getD_left _ _ _ (by simp;omega),getD_right _ _ _ (by simp;omega),List.getD_eq_getElem?_getD,List.getElem?_replicate,if_pos (by simp;omega)];rfl
theorem tl_4 (T:List UInt8) (z N j:Nat) (h:T.length + 1 + z <= j) (h2:j < T.length + 1 + z + 8):(tl T z N).getD j 0=lenByte (8 * N) (7 - (j - (T.length + 1 + z))):=by
 unfold tl
 have hl:(T ++ [128] ++ List.replicate z 0).length=T.length + 1 + z:=by simp;omega
 rw [getD_right _ _ _ (by omega),hl,beTo_getD _ _ (by omega)]
theorem pad_drop (l:List UInt8) (q:Nat) (hq:64 * q <= l.length):(pad l).drop (64 * q)=tl (l.drop (64 * q)) (zpad l.length) l.length:=by
 unfold pad tl
 rw [List.drop_append_of_le_length (by simp;omega),List.drop_append_of_le_length (by simp;omega),List.drop_append_of_le_length hq]
theorem pad_blocks (l:List UInt8) (q:Nat) (hq:64 * q <= l.length):blocks (pad l) q=blocks l q:=by
 unfold pad
 rw [List.append_assoc,List.append_assoc];exact blocks_append l _ q hq
theorem fin_sha (l k:List UInt8) (hk:k.length=64) (tk:k.take (l.length % 64)=l.drop (64 * (l.length / 64))) :
 outTo (fin (blocks l (l.length / 64)) k (l.length % 64) l.length) 8=sha l:=by
 have hplen:=pad_length l
 have hq:64 * (l.length / 64) <= l.length:=by omega
 have hpd:=pad_drop l _ hq
 have hpb:=pad_blocks l _ hq
 have hT:(l.drop (64 * (l.length / 64))).length=l.length % 64:=by rw [List.length_drop];omega
 have hTk:∀ j,j < l.length % 64 -> (l.drop (64 * (l.length / 64))).getD j 0=k.getD j 0:=fun j hj=>by rw [<- tk];exact getD_take k _ j hj
 have hh:l.length % 64 < 64:=by omega
 have hk1:(k.set (l.length % 64) 128).length=64:=by rw [List.length_set];exact hk
 have hks:∀ j,(k.set (l.length % 64) 128).getD j 0=if j=l.length % 64 then 128 else k.getD j 0:=fun j=>getD_set k _ j 128 0 (by omega)
 unfold sha fin
 congr 1
 by_cases hb:l.length % 64 + 1 <= 56
 · have hz:zpad l.length=55 - l.length % 64:=by unfold zpad;omega
   have hn:(pad l).length / 64=l.length / 64 + 1:=by rw [hplen,hz];omega
   rw [if_pos hb,hn,blocks,hpb,hpd]
   refine comp_congr _ _ _ (fun j hj=>?_)
   rw [lb_getD _ _ _ _ (by rw [zf_length];omega),zf_getD _ _ _ _ (by omega),hks j,hz]
   by_cases c1:56 <= j
   · rw [if_pos (by omega),tl_4 _ _ _ _ (by omega) (by omega)];congr 1;omega
   · rw [if_neg (by omega)]
     by_cases c2:l.length % 64 + 1 <= j
     · rw [if_pos (by omega),tl_3 _ _ _ _ (by omega) (by omega)]
     · rw [if_neg (by omega)]
       by_cases c3:j=l.length % 64
       · rw [if_pos c3,tl_2 _ _ _ _ (by omega)]
       · rw [if_neg c3,tl_1 _ _ _ _ (by omega),hTk j (by omega)]
 · have hz:zpad l.length=119 - l.length % 64:=by unfold zpad;omega
   have hn:(pad l).length / 64=l.length / 64 + 1 + 1:=by rw [hplen,hz];omega
   have hd2:∀ j,((pad l).drop (64 * (l.length / 64 + 1))).getD j 0=(tl (l.drop (64 * (l.length / 64))) (zpad l.length) l.length).getD (64 + j) 0:=fun j=>by
    rw [<- hpd,getD_drop,getD_drop];congr 1;omega
   rw [if_neg hb,hn,blocks,blocks,hpb]
   have e1:comp (blocks l (l.length / 64)) (zf (k.set (l.length % 64) 128) (l.length % 64 + 1) (64 - (l.length % 64 + 1)))=comp (blocks l (l.length / 64)) ((pad l).drop (64 * (l.length / 64))):=by
    rw [hpd]
    refine comp_congr _ _ _ (fun j hj=>?_)
    rw [zf_getD _ _ _ _ (by omega),hks j,hz]
    by_cases c2:l.length % 64 + 1 <= j
    · rw [if_pos (by omega),tl_3 _ _ _ _ (by omega) (by omega)]
    · rw [if_neg (by omega)]
      by_cases c3:j=l.length % 64
      · rw [if_pos c3,tl_2 _ _ _ _ (by omega)]
      · rw [if_neg c3,tl_1 _ _ _ _ (by omega),hTk j (by omega)]
   rw [e1]
   refine comp_congr _ _ _ (fun j hj=>?_)
   rw [hd2 j,lb_getD _ _ _ _ (by rw [zf_length,zf_length];omega),zf_getD _ _ _ _ (by rw [zf_length];omega),hz]
   by_cases c1:56 <= j
   · rw [if_pos (by omega),tl_4 _ _ _ _ (by omega) (by omega)];congr 1;omega
   · rw [if_neg (by omega),if_pos (by omega),tl_3 _ _ _ _ (by omega) (by omega)]
end Go.Proofs.Sha
namespace Go.Proofs.YtibjhkpgaaapaaaGreatDoor
open Go.RowKit Go.Proofs.Sha Tryz
theorem fed_new (w:World):Fed (w.alloc (.cells newCells.toArray 289)) w.heap.size [] (List.replicate 64 0) 0:=⟨hsh_new w,rfl⟩
theorem hash_any (s:ByteArray) (w:World) (hs:s.size <= 1048576)
 (hK:∀ j,j < 64 -> w.cell? ⟨0,j,none⟩=some (.int .u32 ((kTab.getD j 0).toNat:Int))) :
 Calls prog 183 #[.string s] w fun e w'=>e=.returned (.agg ((sha s.data.toList).map B).toArray) /\ Below w.heap.size w w':=by
 have hl0:0 < w.heap.size:=World.block_lt_of_cell? w _ (hK 0 (by omega))
 have HK:Hid (∀ w':World,Below w.heap.size w w' -> ∀ j,j < 64 -> w'.cell? ⟨0,j,none⟩=some (.int .u32 ((kTab.getD j 0).toNat:Int))):=fun w' hb j hj=>(hb.cell (by exact hl0)).trans (hK j hj)
 clear hK
 have hsl:s.data.toList.length=s.size:=rfl
 go_enter func183,ntmps183
 go_wp2_with (refine wpList_alloc_row _ rfl (some 2) rfl 247 247 rfl (zeros8.map B) alloc32 ?_;intro g2 w2 hr2 hb2)
 have hr2':Row w2 w.heap.size g2 32 32 (zeros8.map B):=hr2
 have hge:=hr2.ge
 have hlt:=hr2.lt
 have hs2:=hb2.size
 clear hr2
 refine (new_any w2).mono ?_
 rintro e w3 ⟨rfl,hw3⟩
 have F3:Fed w3 w2.heap.size [] (List.replicate 64 0) 0:=by rw [hw3];exact fed_new w2
 have hb3:Below w2.heap.size w2 w3:=by rw [hw3];exact (Below.refl _ _).alloc (Nat.le_refl _) _
 clear hw3
 obtain ⟨b,hb⟩:∃ b,w2.heap.size=b:=⟨_,rfl⟩
 rw [hb] at F3
 rw [hb]
 have hs3:=hb3.size
 have hbw3:Below w.heap.size w w3:=hb2.trans (hb3.mono hs2)
 have hR3:Row w3 w.heap.size g2 32 32 (zeros8.map B):=hr2'.below hb3
 have hb0:b ≠ 0:=by omega
 have hgb:g2 < b:=by omega
 have hwb:w.heap.size <= b:=by omega
 clear hr2' hb3 hb2
 go_wp2_with fail
 refine (feed_any b [] (List.replicate 64 0) s w3 F3 (by simp;omega) hb0 (HK.out w3 hbw3)).mono ?_
 rintro e w4 ⟨rfl,⟨k4,F4⟩,hg4⟩
 have hs4:=hg4.size
 have hbw4:Below w.heap.size w w4:=hbw3.trans (below_of_grown hg4 hwb (by omega))
 have hR4:Row w4 w.heap.size g2 32 32 (zeros8.map B):=hR3.kept hg4 (by simp;omega)
 rw [List.nil_append,List.length_nil,Nat.zero_add] at F4
 clear F3 hg4 hR3 hbw3
 have hfs:=fin_sha s.data.toList k4 F4.H.kl F4.tk
 have H4:=F4.H
 rw [hsl] at H4 hfs
 clear F4
 go_wp2_with fail
 refine (finish_any b _ k4 _ s.size w4 H4 (by omega) (by omega) hb0 (HK.out w4 hbw4)).mono ?_
 rintro e w5 ⟨rfl,hg5⟩
 rw [hfs]
 clear hfs H4
 have hbw5:Below w.heap.size w w5:=hbw4.trans (below_of_grown hg5 hwb (by omega))
 have hR5:Row w5 w.heap.size g2 32 32 (zeros8.map B):=hR4.kept hg5 (by simp;omega)
 have hln:((sha s.data.toList).map B).length=32:=by rw [List.length_map];unfold sha;rw [outTo_length]
 have h1c:∀ v ∈ (sha s.data.toList).map B,v.oneCell'=true:=by
  intro v hv
  obtain ⟨x,_,rfl⟩:=List.mem_map.1 hv
  rfl
 obtain ⟨L,hL⟩:∃ L,(sha s.data.toList).map B=L:=⟨_,rfl⟩
 rw [hL] at hln h1c
 rw [hL]
 have HL:Hid ((sha s.data.toList).map B=L):=hL
 clear hL
 go_wp2_with (refine wpList_store_whole _ rfl rfl 247 (.tmp 2) (.tmp 9) rfl w.heap.size g2 32 (zeros8.map B) L rfl rfl hR5 hln size32 h1c ?_;intro w8 hR8 hg8)
 refine ret_row _ (p:=2) (ty:=247) rfl w.heap.size g2 32 32 L 5 rfl hR8 Tryz.underlying247 size32 rfl ?_
 refine ⟨?_,?_⟩
 · rw [HL.out]
 · exact hbw5.trans (below_of_grown hg8 hge (by have:=hbw5.size;omega))
end Go.Proofs.YtibjhkpgaaapaaaGreatDoor
namespace Go.Proofs.Sha
open Go Go.RowKit
section
variable {P:Program} (w:World)
theorem eqItems_b (dp:Nat) (X Y:List UInt8) (e:TypeId) (he:P.underlying e=some (.int .u8)) (hc:P.cellsOf e=1) (n:Nat) (hX:X.length=n) (hY:Y.length=n):∀ is:List Nat,(∀ i ∈ is,i < n) →
 ∃ r:Bool,(Op.eqItems (dp + 1) e (P.cellsOf e) (X.map B).toArray (Y.map B).toArray is).run P w=.ok r w /\ (r=true ↔ ∀ i ∈ is,X.getD i 0=Y.getD i 0)
 | [],_=>⟨true,by simp [Op.eqItems],by simp⟩
 | i :: is,h=>by
  obtain ⟨r,hr,hiff⟩:=eqItems_b dp X Y e he hc n hX hY is (fun j hj=>h j (List.mem_cons_of_mem _ hj))
  have hi:i < n:=h i (List.mem_cons_self ..)
  have hagg:(isAgg e).run P w=.ok false w:=by
   unfold isAgg
   rw [Sem.run_bind,run_underlying he w];rfl
  have hpart:∀ L:List UInt8,L.length=n -> (part e (L.map B).toArray (i * P.cellsOf e)).run P w=.ok (.int .u8 ((L.getD i 0).toNat:Int)) w:=fun L hL=>by
   unfold part
   rw [Sem.run_bind,hagg,hc,Nat.mul_one]
   have:(L.map B).toArray[i]?=some (.int .u8 ((L.getD i 0).toNat:Int)):=by
    rw [List.getElem?_toArray,List.getElem?_map,List.getD_eq_getElem?_getD,List.getElem?_eq_getElem (by omega)];rfl
   rw [this];rfl
  have heq:∀ a b:Int,(Op.equalIn (dp + 1) e (.int .u8 a) (.int .u8 b)).run P w=.ok (a == b) w:=fun a b=>by
   simp [Op.equalIn,run_underlying he]
  have hne:∀ a b:UInt8,((a.toNat:Int) == (b.toNat:Int))=decide (a=b):=fun a b=>by
   rw [Bool.eq_iff_iff]
   simp only [beq_iff_eq,decide_eq_true_eq]
   exact ⟨fun h=>UInt8.toNat_inj.1 (by omega),fun h=>by rw [h]⟩
  rw [Op.eqItems]
  simp only [Sem.run_bind,hpart X hX,hpart Y hY,heq,hne,Result.andThen_ok]
  by_cases hxy:X.getD i 0=Y.getD i 0
  · refine ⟨r,by rw [decide_eq_true hxy];simpa using hr,?_⟩
    rw [hiff]
    exact ⟨fun g j hj=>by rcases List.mem_cons.1 hj with rfl | hj;exact hxy;exact g j hj,fun g j hj=>g j (List.mem_cons_of_mem _ hj)⟩
  · refine ⟨false,by rw [decide_eq_false hxy];simp,?_⟩
    exact ⟨fun h=>(by cases h),fun g=>absurd (g i (List.mem_cons_self ..)) hxy⟩
theorem run_eql_b (X Y:List UInt8) (t e:TypeId) (n:Nat) (i:TypeInfo) (hu:P.underlying t=some (.array n e)) (he:P.underlying e=some (.int .u8)) (hi:P.info? e=some i) (hc:P.cellsOf e=1) (hX:X.length=n) (hY:Y.length=n) :
 (binOp .eql t (.agg (X.map B).toArray) (.agg (Y.map B).toArray)).run P w=.ok (.bool (decide (X=Y))) w:=by
 obtain ⟨r,hr,hiff⟩:=eqItems_b w 9998 X Y e he hc n hX hY (List.range n) (fun j hj=>List.mem_range.1 hj)
 rw [run_eql_struct,run_equalIn_array w 9999 _ _ hu hi,hr]
 have:r=decide (X=Y):=by
  rw [Bool.eq_iff_iff,hiff,decide_eq_true_eq]
  constructor
  · intro g
    apply List.ext_getElem (by omega)
    intro j h1 h2
    have:=g j (List.mem_range.2 (by omega))
    simpa [List.getD_eq_getElem?_getD,List.getElem?_eq_getElem h1,List.getElem?_eq_getElem h2] using this
  · intro e j _;rw [e]
 rw [this];rfl
end
theorem less_eq (p q:List UInt8) (i:Nat) (h1:i < p.length) (h2:i < q.length) (he:p.getD i 0=q.getD i 0):Op.bytesLess (p.drop i) (q.drop i)=Op.bytesLess (p.drop (i + 1)) (q.drop (i + 1)):=by
 rw [List.drop_eq_getElem_cons h1,List.drop_eq_getElem_cons h2,Op.bytesLess]
 have e1:p[i]=q[i]:=by simpa [List.getD_eq_getElem?_getD,List.getElem?_eq_getElem h1,List.getElem?_eq_getElem h2] using he
 rw [e1];simp
theorem less_ne (p q:List UInt8) (i:Nat) (h1:i < p.length) (h2:i < q.length) (he:p.getD i 0 ≠ q.getD i 0):Op.bytesLess (p.drop i) (q.drop i)=decide (((p.getD i 0).toNat:Int) < ((q.getD i 0).toNat:Int)):=by
 rw [List.drop_eq_getElem_cons h1,List.drop_eq_getElem_cons h2,Op.bytesLess]
 have e1:p.getD i 0=p[i]:=by simp [List.getD_eq_getElem?_getD,List.getElem?_eq_getElem h1]
 have e2:q.getD i 0=q[i]:=by simp [List.getD_eq_getElem?_getD,List.getElem?_eq_getElem h2]
 rw [e1,e2] at he
 rw [e1,e2]
 have e3:(p[i] == q[i])=false:=by rw [beq_eq_false_iff_ne];exact he
 rw [e3,Bool.false_and,Bool.or_false]
 rw [Bool.eq_iff_iff];simp [UInt8.lt_iff_toNat_lt]
theorem less_end (p q:List UInt8) (i:Nat) (h:p.length <= i \/ q.length <= i) (hi:i <= p.length) (hj:i <= q.length):Op.bytesLess (p.drop i) (q.drop i)=decide ((p.length:Int) < (q.length:Int)):=by
 rcases Nat.lt_or_ge i q.length with hq | hq
 · have:p.drop i=[]:=List.drop_of_length_le (by omega)
   rw [this,List.drop_eq_getElem_cons hq,Op.bytesLess]
   symm;simp;omega
 · have:q.drop i=[]:=List.drop_of_length_le hq
   rw [this,Op.bytesLess]
   symm;simp;omega
end Go.Proofs.Sha
namespace Go.Proofs.YtibjhkpgaaapaaaGreatDoor
open Go.RowKit Go.Proofs.Sha Tryz
theorem bget (p:ByteArray) (k:Nat) (h:k < p.size):p[k]=p.data.toList.getD k 0:=by
 rw [List.getD_eq_getElem?_getD,List.getElem?_eq_getElem (by exact h)];rfl
theorem less_any (p q:ByteArray) (w:World) (hp:p.size <= 1048576) (hq:q.size <= 1048576) :
 Calls prog 85 #[.string p,.string q] w fun e w'=>e=.returned (.bool (Op.bytesLess p.data.toList q.data.toList)) /\ Below w.heap.size w w':=by
 have hpl:p.data.toList.length=p.size:=rfl
 have hql:q.data.toList.length=q.size:=rfl
 go_enter func85,ntmps85
 go_wp2_with fail
 go_loopw [5] (fun t wr=>∃ k:Nat,k <= p.size /\ k <= q.size /\ t=.int .i64 (k:Int) /\ Hid (Op.bytesLess p.data.toList q.data.toList=Op.bytesLess (p.data.toList.drop k) (q.data.toList.drop k)) /\ Below w.heap.size w wr) (fun t _=>p.size - (intOf t).toNat)
 case atStart=>exact ⟨0,by omega,by omega,rfl,rfl,Below.refl _ _⟩
 case round =>
  obtain ⟨k,hk1,hk2,rfl,HL,hb⟩:=hrel
  by_cases h1:k < p.size
  · by_cases h2:k < q.size
    · have z1:(0:Int) <= (k:Int):=by omega
      have z2:(k:Int) < (p.size:Int):=by omega
      have z3:(k:Int) < (q.size:Int):=by omega
      go_wp2_with fail
      go_region
      rw [bget p k h1,bget q k h2]
      have HE:=less_eq p.data.toList q.data.toList k h1 h2
      have HN:=less_ne p.data.toList q.data.toList k h1 h2
      obtain ⟨x,hx⟩:∃ x,p.data.toList.getD k 0=x:=⟨_,rfl⟩
      obtain ⟨y,hy⟩:∃ y,q.data.toList.getD k 0=y:=⟨_,rfl⟩
      rw [hx,hy] at HE HN
      rw [hx,hy]
      have HXY:Hid (p.data.toList.getD k 0=x /\ q.data.toList.getD k 0=y):=⟨hx,hy⟩
      clear hx hy
      by_cases hxy:x=y
      · have c0:((x.toNat:Int) != (y.toNat:Int))=false:=by rw [hxy];simp
        have HE':Hid (Op.bytesLess p.data.toList q.data.toList=Op.bytesLess (p.data.toList.drop (k + 1)) (q.data.toList.drop (k + 1))):=HL.out.trans (HE hxy)
        clear HE HN hxy
        go_wp2_with fail
        go_roundw
        case rel=>exact ⟨k + 1,by omega,by omega,by go_num,HE',hb.drew⟩
        case measure=>simp [intOf];omega
      · have c0:((x.toNat:Int) != (y.toNat:Int))=true:=by
         rw [bne_iff_ne];exact fun h=>hxy (UInt8.toNat_inj.1 (by omega))
        have HN':Hid (Op.bytesLess p.data.toList q.data.toList=decide (x.toNat < y.toNat)):=(HL.out.trans (HN hxy)).trans (by simp)
        clear HE HN hxy
        go_wp2_with fail
        go_region
        rw [bget p k h1,bget q k h2,HXY.out.1,HXY.out.2]
        go_wp2
        go_ret
        exact ⟨by rw [HN'.out];rfl,hb.drew.drew⟩
    · have HN':Hid (Op.bytesLess p.data.toList q.data.toList=decide (p.size < q.size)):=(HL.out.trans (less_end p.data.toList q.data.toList k (.inr (by omega)) (by omega) (by omega))).trans (by simp)
      go_wp2
      go_ret
      exact ⟨by rw [HN'.out];rfl,hb⟩
  · have HN':Hid (Op.bytesLess p.data.toList q.data.toList=decide (p.size < q.size)):=(HL.out.trans (less_end p.data.toList q.data.toList k (.inl (by omega)) (by omega) (by omega))).trans (by simp)
    go_wp2
    go_ret
    exact ⟨by rw [HN'.out];rfl,hb⟩
end Go.Proofs.YtibjhkpgaaapaaaGreatDoor
namespace Go.Proofs.Sha
open Go Go.RowKit
section
variable {P:Program} (w:World)
theorem wpList_eql_b {ops:Array Oper} {rest:List Oper} {o:Oper} {a:Act} {Q:Exit -> Act -> World -> Prop} (hgd:o.guard=none) (t t':TypeId) (x y:Operand) (ho:o.op=.binOp .eql t x y t') (X Y:List UInt8) (n:Nat) (e:TypeId) (i:TypeInfo)
 (hx:a.eval x=.agg (X.map B).toArray) (hy:a.eval y=.agg (Y.map B).toArray) (hu:P.underlying t=some (.array n e)) (he:P.underlying e=some (.int .u8)) (hi:P.info? e=some i) (hc:P.cellsOf e=1) (hX:X.length=n) (hY:Y.length=n)
 (hguard:(eqGuard .eql t x y (.agg (X.map B).toArray) (.agg (Y.map B).toArray)).run P w=.ok () w)
 (h:wpList P ops Q rest (a.put o.dst (.bool (decide (X=Y)))) w):wpList P ops Q (o :: rest) a w:=by
 refine Go.Great.wpList_runTo hgd o.dst rfl (.bool (decide (X=Y))) w ?_ h
 unfold execOp
 simp only [ho,hx,hy,Sem.run_bind,hguard,run_eql_b w X Y t e n i hu he hi hc hX hY,Result.andThen_ok,Sem.run_pure]
end
end Go.Proofs.Sha
namespace Go.Proofs.YtibjhkpgaaapaaaGreatDoor
open Go.RowKit Go.Proofs.Sha
theorem cells5:Tryz.prog.cellsOf 5=1:=by kernel_rfl
theorem guard28 (x y:Operand) (X Y:Array Value) (w:World):(eqGuard .eql 247 x y (.agg X) (.agg Y)).run Tryz.prog w=.ok () w:=by kernel_rfl
theorem greater_any (X Y:List UInt8) (hX:X.length=32) (hY:Y.length=32) (w:World) :
 Calls Tryz.prog 182 #[.agg (X.map B).toArray,.agg (Y.map B).toArray] w fun e w'=>e=.returned (.bool (Op.bytesLess Y X)) /\ Below w.heap.size w w':=by
 obtain ⟨LX,hLX⟩:∃ L,X.map B=L:=⟨_,rfl⟩
 obtain ⟨LY,hLY⟩:∃ L,Y.map B=L:=⟨_,rfl⟩
 have HLX:Hid (X.map B=LX):=hLX
 have HLY:Hid (Y.map B=LY):=hLY
 have l1:LX.length=32:=by rw [<- hLX,List.length_map,hX]
 have l2:LY.length=32:=by rw [<- hLY,List.length_map,hY]
 rw [hLX,hLY]
 have HL12:Hid (LX.length=32 /\ LY.length=32):=⟨l1,l2⟩
 clear hLX hLY l1 l2
 go_enter Tryz.func182,Tryz.ntmps182
 go_wp2_with (first | (refine wpList_box_row _ rfl (some 2) rfl 247 (.tmp 0) rfl LX rfl ?_;intro g2 w2 hr2 hb2) | (refine wpList_box_row _ rfl (some 3) rfl 247 (.tmp 1) rfl LY rfl ?_;intro g3 w3 hr3 hb3))
 have hR2:Row w3 w.heap.size g2 32 32 (X.map B):=by rw [HLX.out];have:=hr2.below hb3;rw [HL12.out.1] at this;exact this
 have hR3:Row w3 w2.heap.size g3 32 32 (Y.map B):=by rw [HLY.out];have:=hr3;rw [HL12.out.2] at this;exact this
 have hs2:=hb2.size
 have hbw:Below w.heap.size w w3:=hb2.trans (hb3.mono hs2)
 have hl2:=hR2.lt
 have hl3:=hR3.lt
 have HC:Hid (∀ j,j < 32 -> w3.cell? ⟨g2,j,none⟩=some (.int .u8 ((X.getD j 0).toNat:Int)) /\ w3.cell? ⟨g3,j,none⟩=some (.int .u8 ((Y.getD j 0).toNat:Int))):=fun j hj=>⟨row_b hR2 j hj,row_b hR3 j hj⟩
 clear hR2 hR3 hr2 hr3 hb2 hb3
 go_loopw [6] (fun t wr=>∃ k:Nat,k <= 32 /\ t=.int .i64 (k:Int) /\ Hid (Op.bytesLess Y X=Op.bytesLess (Y.drop k) (X.drop k)) /\ Below w3.heap.size w3 wr) (fun t _=>32 - (intOf t).toNat)
 case atStart=>exact ⟨0,by omega,rfl,rfl,Below.refl _ _⟩
 case round =>
  obtain ⟨k,hk,rfl,HL,hb⟩:=hrel
  by_cases hlt:k < 32
  · have c2:=(hb.cell (p:=⟨g2,k,none⟩) hl2).trans (HC.out k hlt).1
    have c3:=(hb.cell (p:=⟨g3,k,none⟩) hl3).trans (HC.out k hlt).2
    have HE:=less_eq Y X k (by omega) (by omega)
    have HN:=less_ne Y X k (by omega) (by omega)
    obtain ⟨x,hx⟩:∃ x,X.getD k 0=x:=⟨_,rfl⟩
    obtain ⟨y,hy⟩:∃ y,Y.getD k 0=y:=⟨_,rfl⟩
    rw [hx] at c2 HE HN
    rw [hy] at c3 HE HN
    clear hx hy
    have z0:(0:Int) <= (k:Int):=by omega
    have z1:(k:Int) < 32:=by omega
    by_cases hxy:y=x
    · have c0:((x.toNat:Int) != (y.toNat:Int))=false:=by rw [hxy];simp
      have HE':Hid (Op.bytesLess Y X=Op.bytesLess (Y.drop (k + 1)) (X.drop (k + 1))):=HL.out.trans (HE hxy)
      clear HE HN hxy
      go_wp2_with fail
      go_region_held3 (fun w'=>w'.cell? ⟨g2,k,none⟩=some (.int .u8 (x.toNat:Int)) /\ w'.cell? ⟨g3,k,none⟩=some (.int .u8 (y.toNat:Int))) (exact ⟨c2,c3⟩) (fail)
      go_wp2_with fail
      go_roundw
      case rel=>exact ⟨k + 1,by omega,by go_num,HE',hb.drew⟩
      case measure=>simp [intOf];omega
    · have c0:((x.toNat:Int) != (y.toNat:Int))=true:=by
       rw [bne_iff_ne];exact fun h=>hxy (UInt8.toNat_inj.1 (by omega))
      have HN':Hid (Op.bytesLess Y X=decide (y.toNat < x.toNat)):=(HL.out.trans (HN hxy)).trans (by simp)
      clear HE HN hxy
      go_wp2_with fail
      go_region_held3 (fun w'=>w'.cell? ⟨g2,k,none⟩=some (.int .u8 (x.toNat:Int)) /\ w'.cell? ⟨g3,k,none⟩=some (.int .u8 (y.toNat:Int))) (exact ⟨c2,c3⟩) (fail)
      go_wp2_with fail
      go_region_held3 (fun w'=>w'.cell? ⟨g2,k,none⟩=some (.int .u8 (x.toNat:Int)) /\ w'.cell? ⟨g3,k,none⟩=some (.int .u8 (y.toNat:Int))) (exact ⟨c2,c3⟩) (fail)
      go_wp2
      go_ret
      exact ⟨by rw [HN'.out];rfl,hbw.trans ((hb.mono (hbw.size)).drew.drew)⟩
  · obtain rfl:k=32:=by omega
    have HN':Hid (Op.bytesLess Y X=false):=by
     show Op.bytesLess Y X=false
     rw [HL.out,List.drop_of_length_le (by omega),List.drop_of_length_le (by omega)];rfl
    go_wp2
    go_ret
    exact ⟨by rw [HN'.out];rfl,hbw.trans (hb.mono (hbw.size))⟩
end Go.Proofs.YtibjhkpgaaapaaaGreatDoor
