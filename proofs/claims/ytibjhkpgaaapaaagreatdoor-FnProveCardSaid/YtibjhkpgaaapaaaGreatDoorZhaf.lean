import Derived.Test.YtibjhkpgaaapaaaGreatDoorZhae
import Derived.Test.YtibjhkpgaaapaaaGreatDoorZhab
import Derived.Test.YtibjhkpgaaapaaaGreatDoorProg
import Derived.Test.YtibjhkpgaaapaaaGreatDoorZhac
import Derived.WalkSpells
import Derived.WalkLawsBesides
import Derived.StillTactics
import Derived.Laws.Pointers
import Derived.Deep.RegionHeld3
set_option maxRecDepth 100000
set_option maxHeartbeats 1600000
namespace Go.Proofs.YtibjhkpgaaapaaaGreatDoor
open Go.RowKit Go.Proofs.Sha Tryz
theorem tab_any (w:World):Calls prog 121 #[] w fun e w'=>e=.returned (.slice (some ⟨w.heap.size,0,none⟩) 64 64) /\ w'=w.alloc (.cells ((kTab.map U).toArray) 177):=by
 go_enter func121,ntmps121
 go_wp2
 go_ret
 exact ⟨rfl,rfl⟩
theorem block_any (h:List UInt32) (hb hc kb kc:Nat) (m:List UInt8) (mb mc fr:Nat) (w:World) (hl:m.length <= 2000000) (hf:fr + 64 <= m.length)
 (hcm:∀ j,j < m.length -> w.cell? ⟨mb,j,none⟩=some (.int .u8 ((m.getD j 0).toNat:Int)))
 (hch:∀ j,j < 8 -> w.cell? ⟨hb,j,none⟩=some (.int .u32 ((h.getD j 0).toNat:Int)))
 (hck:∀ j,j < 64 -> w.cell? ⟨kb,j,none⟩=some (.int .u32 ((kTab.getD j 0).toNat:Int))) :
 Calls prog 123 #[.slice (some ⟨hb,0,none⟩) 8 hc,.slice (some ⟨kb,0,none⟩) 64 kc,.slice (some ⟨mb,0,none⟩) m.length mc,.int .i64 fr] w
  fun e w'=>∃ g,e=.returned (.slice (some ⟨g,0,none⟩) 8 8) /\ Row w' w.heap.size g 8 8 ((comp h (m.drop fr)).map U) /\ Below w.heap.size w w':=by
 have lh:hb < w.heap.size:=World.block_lt_of_cell? w _ (hch 0 (by omega))
 have lk:kb < w.heap.size:=World.block_lt_of_cell? w _ (hck 0 (by omega))
 go_enter func123,ntmps123
 go_wp2_with fail
 refine (schedule_any m mb mc fr w hl hf hcm).mono ?_
 rintro e w1 ⟨g,cap,rfl,hown,hbel⟩
 obtain ⟨x0,e0⟩:∃ x,h.getD 0 0=x:=⟨_,rfl⟩
 obtain ⟨x1,e1⟩:∃ x,h.getD 1 0=x:=⟨_,rfl⟩
 obtain ⟨x2,e2⟩:∃ x,h.getD 2 0=x:=⟨_,rfl⟩
 obtain ⟨x3,e3⟩:∃ x,h.getD 3 0=x:=⟨_,rfl⟩
 obtain ⟨x4,e4⟩:∃ x,h.getD 4 0=x:=⟨_,rfl⟩
 obtain ⟨x5,e5⟩:∃ x,h.getD 5 0=x:=⟨_,rfl⟩
 obtain ⟨x6,e6⟩:∃ x,h.getD 6 0=x:=⟨_,rfl⟩
 obtain ⟨x7,e7⟩:∃ x,h.getD 7 0=x:=⟨_,rfl⟩
 have c0:w1.cell? ⟨hb,0,none⟩=some (.int .u32 (x0.toNat:Int)):=by rw [<- e0];exact (hbel.cell lh).trans (hch 0 (by omega))
 have c1:w1.cell? ⟨hb,1,none⟩=some (.int .u32 (x1.toNat:Int)):=by rw [<- e1];exact (hbel.cell lh).trans (hch 1 (by omega))
 have c2:w1.cell? ⟨hb,2,none⟩=some (.int .u32 (x2.toNat:Int)):=by rw [<- e2];exact (hbel.cell lh).trans (hch 2 (by omega))
 have c3:w1.cell? ⟨hb,3,none⟩=some (.int .u32 (x3.toNat:Int)):=by rw [<- e3];exact (hbel.cell lh).trans (hch 3 (by omega))
 have c4:w1.cell? ⟨hb,4,none⟩=some (.int .u32 (x4.toNat:Int)):=by rw [<- e4];exact (hbel.cell lh).trans (hch 4 (by omega))
 have c5:w1.cell? ⟨hb,5,none⟩=some (.int .u32 (x5.toNat:Int)):=by rw [<- e5];exact (hbel.cell lh).trans (hch 5 (by omega))
 have c6:w1.cell? ⟨hb,6,none⟩=some (.int .u32 (x6.toNat:Int)):=by rw [<- e6];exact (hbel.cell lh).trans (hch 6 (by omega))
 have c7:w1.cell? ⟨hb,7,none⟩=some (.int .u32 (x7.toNat:Int)):=by rw [<- e7];exact (hbel.cell lh).trans (hch 7 (by omega))
 have HX:Hid (ofL h=⟨x0,x1,x2,x3,x4,x5,x6,x7⟩):=by unfold ofL;rw [e0,e1,e2,e3,e4,e5,e6,e7];exact rfl
 have HE:Hid (h.getD 0 0=x0 /\ h.getD 1 0=x1 /\ h.getD 2 0=x2 /\ h.getD 3 0=x3 /\ h.getD 4 0=x4 /\ h.getD 5 0=x5 /\ h.getD 6 0=x6 /\ h.getD 7 0=x7):=⟨e0,e1,e2,e3,e4,e5,e6,e7⟩
 clear e0 e1 e2 e3 e4 e5 e6 e7
 have hWl:=sched_length (m.drop fr) 64
 have hlg:=hown.lt g rfl
 obtain ⟨W,hW⟩:∃ W,sched (m.drop fr) 64=W:=⟨_,rfl⟩
 rw [hW] at hown hWl
 have HW:Hid (∀ N,N=64 -> sched (m.drop fr) N=W):=fun N hN=>by rw [hN];exact hW
 clear hW
 have hcw:∀ j,j < 64 -> w1.cell? ⟨g,j,none⟩=some (.int .u32 ((W.getD j 0).toNat:Int)):=own_u hown hWl
 have hck1:∀ j,j < 64 -> w1.cell? ⟨kb,j,none⟩=some (.int .u32 ((kTab.getD j 0).toNat:Int)):=fun j hj=>(hbel.cell lk).trans (hck j hj)
 clear hck hch hcm hown
 have lh1:hb < w1.heap.size:=Nat.lt_of_lt_of_le lh hbel.size
 have lk1:kb < w1.heap.size:=Nat.lt_of_lt_of_le lk hbel.size
 have HK:Hid (∀ j,j < 64 -> w1.cell? ⟨kb,j,none⟩=some (.int .u32 ((kTab.getD j 0).toNat:Int))):=hck1
 have HC:Hid (∀ j,j < 64 -> w1.cell? ⟨g,j,none⟩=some (.int .u32 ((W.getD j 0).toNat:Int))):=hcw
 clear hck1 hcw
 go_wp2_with fail
 go_loopw [10,11,12,13,14,15,16,17,18] (fun ta tb tc td te tf tg tz i wr=>∃ (k:Nat) (va vb vc vd ve vf vg vz:UInt32),k <= 64 /\ i=.int .i64 k /\ Hid (rnds W (⟨x0,x1,x2,x3,x4,x5,x6,x7⟩:St) k=⟨va,vb,vc,vd,ve,vf,vg,vz⟩) /\ ta=.int .u32 (va.toNat:Int) /\ tb=.int .u32 (vb.toNat:Int) /\ tc=.int .u32 (vc.toNat:Int) /\ td=.int .u32 (vd.toNat:Int) /\ te=.int .u32 (ve.toNat:Int) /\ tf=.int .u32 (vf.toNat:Int) /\ tg=.int .u32 (vg.toNat:Int) /\ tz=.int .u32 (vz.toNat:Int) /\ Below w1.heap.size w1 wr) (fun _ _ _ _ _ _ _ _ i _=>64 - (intOf i).toNat)
 case atStart=>exact ⟨0,x0,x1,x2,x3,x4,x5,x6,x7,Nat.zero_le _,rfl,rfl,rfl,rfl,rfl,rfl,rfl,rfl,rfl,rfl,Below.refl _ _⟩
 case round =>
  obtain ⟨k,va,vb,vc,vd,ve,vf,vg,vz,hk,rfl,HST,rfl,rfl,rfl,rfl,rfl,rfl,rfl,rfl,hb2⟩:=hrel
  by_cases hlt:k < 64
  · obtain ⟨kk,hkk⟩:∃ x,kTab.getD k 0=x:=⟨_,rfl⟩
    obtain ⟨ww,hww⟩:∃ x,W.getD k 0=x:=⟨_,rfl⟩
    have ck:wr.cell? ⟨kb,k,none⟩=some (.int .u32 (kk.toNat:Int)):=by rw [<- hkk];exact (hb2.cell lk1).trans (HK.out k hlt)
    have cw:wr.cell? ⟨g,k,none⟩=some (.int .u32 (ww.toNat:Int)):=by rw [<- hww];exact (hb2.cell hlg.2).trans (HC.out k hlt)
    have HKW:Hid (kTab.getD k 0=kk /\ W.getD k 0=ww):=⟨hkk,hww⟩
    clear hkk hww
    go_wp2_with (go_at_call 155;refine (turn_any _ _ (by omega) (by omega) _).mono ?_;rintro e w' ⟨rfl,rfl⟩)
    have q0:(0:Int) <= (k:Int):=by omega
    have q1:(k:Int) < 64:=by omega
    go_region_held3 (fun w'=>w'.cell? ⟨kb,k,none⟩=some (.int .u32 (kk.toNat:Int)) /\ w'.cell? ⟨g,k,none⟩=some (.int .u32 (ww.toNat:Int))) (go_keep) (fail)
    go_wp2_with (go_at_call 155;refine (turn_any _ _ (by omega) (by omega) _).mono ?_;rintro e w' ⟨rfl,rfl⟩)
    go_roundw
    case rel =>
     have HR:=rnds_succ W _ k kk ww _ HST.out HKW.out
     simp only [sumE_form,sumA_form,ch_form,maj_form,u_add]
     exact ⟨k + 1,_,_,_,_,_,_,_,_,by omega,by go_num,HR,rfl,rfl,rfl,rfl,rfl,rfl,rfl,rfl,by first | exact hb2.drew | exact hb2⟩
    case measure=>simp [intOf];omega
  · obtain rfl:k=64:=by omega
    have d0:wr.cell? ⟨hb,0,none⟩=some (.int .u32 (x0.toNat:Int)):=(hb2.cell lh1).trans c0
    have d1:wr.cell? ⟨hb,1,none⟩=some (.int .u32 (x1.toNat:Int)):=(hb2.cell lh1).trans c1
    have d2:wr.cell? ⟨hb,2,none⟩=some (.int .u32 (x2.toNat:Int)):=(hb2.cell lh1).trans c2
    have d3:wr.cell? ⟨hb,3,none⟩=some (.int .u32 (x3.toNat:Int)):=(hb2.cell lh1).trans c3
    have d4:wr.cell? ⟨hb,4,none⟩=some (.int .u32 (x4.toNat:Int)):=(hb2.cell lh1).trans c4
    have d5:wr.cell? ⟨hb,5,none⟩=some (.int .u32 (x5.toNat:Int)):=(hb2.cell lh1).trans c5
    have d6:wr.cell? ⟨hb,6,none⟩=some (.int .u32 (x6.toNat:Int)):=(hb2.cell lh1).trans c6
    have d7:wr.cell? ⟨hb,7,none⟩=some (.int .u32 (x7.toNat:Int)):=(hb2.cell lh1).trans c7
    clear c0 c1 c2 c3 c4 c5 c6 c7
    have HST':Hid (∀ N,N=64 -> rnds W ⟨x0,x1,x2,x3,x4,x5,x6,x7⟩ N=⟨va,vb,vc,vd,ve,vf,vg,vz⟩):=fun N hN=>by rw [hN];exact HST
    clear HST
    go_wp2_with fail
    go_region_held3 (fun w'=>w'.cell? ⟨hb,0,none⟩=some (.int .u32 (x0.toNat:Int)) /\ w'.cell? ⟨hb,1,none⟩=some (.int .u32 (x1.toNat:Int)) /\ w'.cell? ⟨hb,2,none⟩=some (.int .u32 (x2.toNat:Int)) /\ w'.cell? ⟨hb,3,none⟩=some (.int .u32 (x3.toNat:Int)) /\ w'.cell? ⟨hb,4,none⟩=some (.int .u32 (x4.toNat:Int)) /\ w'.cell? ⟨hb,5,none⟩=some (.int .u32 (x5.toNat:Int)) /\ w'.cell? ⟨hb,6,none⟩=some (.int .u32 (x6.toNat:Int)) /\ w'.cell? ⟨hb,7,none⟩=some (.int .u32 (x7.toNat:Int))) (go_keep) (fail)
    go_wp2
    go_ret
    have hs1:=hbel.size
    have hs2:=hb2.size
    rw [comp_form h (m.drop fr) W x0 x1 x2 x3 x4 x5 x6 x7 va vb vc vd ve vf vg vz HE.out (HW.out 64 rfl) (HST'.out 64 rfl)]
    exact ⟨wr.heap.size,rfl,(Row.of_block (base:=w.heap.size) (by omega) (heap_alloc_new wr _) 8 (by simp) (.inl rfl)).drew,((hbel.trans (hb2.mono hs1)).alloc (by omega) _).drew⟩
theorem spec_any (s:ByteArray) (w:World) (hs:s.size <= 1048576) :
 Calls prog 64 #[.string s] w fun e w'=>e=.returned (.string ⟨(sha s.data.toList).toArray⟩) /\ Below w.heap.size w w':=by
 obtain ⟨i0,hi0,hz0,hz1,hz2⟩:=info_parts info5
 have hsl:s.data.toList.length=s.size:=rfl
 go_enter func64,ntmps64
 go_wp2_with fail
 refine (tab_any _).mono ?_
 rintro e w2 ⟨rfl,rfl⟩
 go_wp2_with fail
 refine (padded_any s _ hs).mono ?_
 rintro e w3 ⟨mb,mc,rfl,hrow,hbel⟩
 have hplen:=pad_length s.data.toList
 have hpmod:=pad_mod s.data.toList
 have hz:=zpad_lt s.data.toList.length
 have htwo:=two_blocks w hTab kTab 177
 have hcm:=fun j hj=>row_b hrow j hj
 have hmb:=hrow.lt
 have hA:∀ j,j < 8 -> w3.cell? ⟨w.heap.size,j,none⟩=some (.int .u32 ((hTab.getD j 0).toNat:Int)):=fun j hj=>(hbel.cell (by simp;omega)).trans (htwo.1 j hj)
 have hK:∀ j,j < 64 -> w3.cell? ⟨w.heap.size + 1,j,none⟩=some (.int .u32 ((kTab.getD j 0).toNat:Int)):=fun j hj=>(hbel.cell (by simp)).trans (htwo.2 j hj)
 have hsz3:w.heap.size + 2 <= w3.heap.size:=by have:=hbel.size;simpa using this
 have hbel3:Below w.heap.size w w3:=(((Below.refl _ _).alloc (Nat.le_refl _) _).alloc (by simp) _).trans (hbel.mono (by simp;omega))
 clear htwo hbel hrow
 obtain ⟨p,hp⟩:∃ p,pad s.data.toList=p:=⟨_,rfl⟩
 rw [hp] at hplen hpmod hcm
 rw [hp]
 have HP:Hid (pad s.data.toList=p):=hp
 clear hp
 have hp2:p.length <= 2000000:=by omega
 clear hplen hz
 have HM:Hid (∀ j,j < p.length -> w3.cell? ⟨mb,j,none⟩=some (.int .u8 ((p.getD j 0).toNat:Int))):=hcm
 have HK:Hid (∀ j,j < 64 -> w3.cell? ⟨w.heap.size + 1,j,none⟩=some (.int .u32 ((kTab.getD j 0).toNat:Int))):=hK
 clear hcm hK
 go_wp2_with fail
 go_loopw [3,6] (fun v i wr=>∃ q g fr:Nat,fr <= p.length /\ Hid (fr=64 * q) /\ i=.int .i64 (fr:Int) /\ v=.slice (some ⟨g,0,none⟩) 8 8 /\ (∀ j,j < 8 -> wr.cell? ⟨g,j,none⟩=some (.int .u32 (((blocks p q).getD j 0).toNat:Int))) /\ Below w3.heap.size w3 wr) (fun _ i _=>p.length - (intOf i).toNat)
 case atStart=>exact ⟨0,w.heap.size,0,by omega,rfl,rfl,rfl,hA,Below.refl _ _⟩
 case round =>
  clear hA
  obtain ⟨q,g,fr,hq,HQ,rfl,rfl,hcg,hb⟩:=hrel
  have hsr:=hb.size
  have hgl:g < wr.heap.size:=World.block_lt_of_cell? wr _ (hcg 0 (by omega))
  have HG:Hid (∀ j,j < 8 -> wr.cell? ⟨g,j,none⟩=some (.int .u32 (((blocks p q).getD j 0).toNat:Int))):=hcg
  clear hcg
  by_cases hlt:fr < p.length
  · have hfr:fr + 64 <= p.length:=by have:=HQ.out;omega
    go_wp2_with fail
    refine (block_any (blocks p q) g 8 (w.heap.size + 1) 64 p mb mc fr wr hp2 hfr (fun j hj=>(hb.cell hmb).trans (HM.out j hj)) HG.out (fun j hj=>(hb.cell (by exact hsz3)).trans (HK.out j hj))).mono ?_
    rintro e w4 ⟨g',rfl,hrow',hb'⟩
    go_wp2_with fail
    go_roundw
    case rel =>
     refine ⟨q + 1,g',fr + 64,by omega,?_,by go_num,rfl,?_,hb.trans (hb'.mono hsr)⟩
     · have:=HQ.out;show fr + 64=64 * (q + 1);omega
     · intro j hj
       rw [blocks,<- HQ.out];exact row_u hrow' j hj
    case measure=>simp [intOf];omega
  · obtain rfl:fr=p.length:=by omega
    have HF:Hid (sha s.data.toList=outTo (blocks p q) 8):=by
     show sha s.data.toList=_
     unfold sha
     rw [HP.out,HQ.out]
     congr 2;omega
    have hbw:Below w.heap.size w wr:=hbel3.trans (hb.mono (by omega))
    clear HM HK HP
    obtain ⟨w5,rfl⟩:∃ w5,w5=wr:=⟨_,rfl⟩
    go_wp2_with fail
    go_loopw [7,8] (fun v i wx=>∃ k go cap:Nat,k <= 8 /\ i=.int .i64 (k:Int) /\ v=.slice (some ⟨go,0,none⟩) (4 * k) cap /\ Row wx w5.heap.size go (4 * k) cap ((outTo (blocks p q) k).map B) /\ Below w5.heap.size w5 wx) (fun _ i _=>8 - (intOf i).toNat)
    case atStart=>exact ⟨0,w5.heap.size,0,by omega,rfl,rfl,Row.of_block (Nat.le_refl _) (heap_alloc_new w5 _) 0 (by simp) (.inl rfl),(Below.refl _ _).alloc (Nat.le_refl _) _⟩
    case round =>
     obtain ⟨k,go,cap,hk,rfl,rfl,hrow,hbx⟩:=hrel
     have hsx:=hbx.size
     have hgo:=hrow.ge
     by_cases hlt2:k < 8
     · obtain ⟨x,hx⟩:∃ x,(blocks p q).getD k 0=x:=⟨_,rfl⟩
       have cx:wr.cell? ⟨g,k,none⟩=some (.int .u32 (x.toNat:Int)):=by rw [<- hx];exact (hbx.cell hgl).trans (HG.out k hlt2)
       have HX:Hid ((blocks p q).getD k 0=x):=hx
       clear hx
       have hne:some g ≠ some go:=by simp;omega
       have q0:(0:Int) <= (k:Int):=by omega
       have q1:(k:Int) < 8:=by omega
       go_wp2_with fail
       go_region_held3 (fun w'=>w'.cell? ⟨g,k,none⟩=some (.int .u32 (x.toNat:Int)))
        (first | go_keep | (rw [hgrow.cell_far _ (by simp;omega) hne];assumption))
        ((refine step_append_row _ (by rfl) _ _ _ (by rfl) 5 i0 _ 1 Tryz.underlying41 hi0 hz0 hz1 hz2 rfl w5.heap.size go (4 * k) cap _ (by rfl) ((hrow.alloc _).drew) ⟨wr.heap.size,0,none⟩ 4 4 [_,_,_,_] (by rfl) (by rfl) (World.news_of_block (heap_alloc_new wr _)) (by simp [Value.oneCell']) (by unfold maxLen;omega) (by omega) (by simp;omega) (wr.heap.size + 1) (by simp) ?_;intro go' cap' wy hrow' hgrow hat hold))
       go_wp2
       go_roundw
       case rel =>
        rw [<- outTo_succ (blocks p q) k x HX.out] at hrow'
        exact ⟨k + 1,go',cap',by omega,by go_num,rfl,hrow',(hbx.alloc hsx _).drew.grown hgrow (by simp;omega) (fun y hy=>by cases hy;exact hgo)⟩
       case measure=>simp [intOf];omega
     · obtain rfl:k=8:=by omega
       go_wp2_with (refine wpList_string_row _ rfl (.tmp 55) 41 9 5 rfl w5.heap.size go 32 cap _ rfl (by exact hrow) Tryz.underlying41 Tryz.underlying5 Tryz.underlying9 ?_)
       go_ret
       rw [HF.out]
       exact ⟨rfl,hbw.trans (hbx.mono hbw.size)⟩
theorem and31 (n:Nat) (hn:n <= 31) (h1:1 <= n):bits BinOp.and IntKind.u64 (IntKind.u64.wrap (-(n:Int))) 31=((32 - n:Nat):Int):=by
 have:n=1 \/ n=2 \/ n=3 \/ n=4 \/ n=5 \/ n=6 \/ n=7 \/ n=8 \/ n=9 \/ n=10 \/ n=11 \/ n=12 \/ n=13 \/ n=14 \/ n=15 \/ n=16 \/ n=17 \/ n=18 \/ n=19 \/ n=20 \/ n=21 \/ n=22 \/ n=23 \/ n=24 \/ n=25 \/ n=26 \/ n=27 \/ n=28 \/ n=29 \/ n=30 \/ n=31:=by omega
 rcases this with h|h|h|h|h|h|h|h|h|h|h|h|h|h|h|h|h|h|h|h|h|h|h|h|h|h|h|h|h|h|h <;> subst h <;> decide
theorem rot_any (x:UInt32) (m:Int) (h1:m <= -1) (h2:-31 <= m) (w:World) :
 Calls prog 202 #[.int .u32 x.toNat,.int .i64 m] w fun e w'=>e=.returned (.int .u32 (turn x (-m).toNat).toNat) /\ w=w':=by
 obtain ⟨n,hn⟩:=Int.eq_ofNat_of_zero_le (show 0 <= -m by omega)
 obtain rfl:m = -(n:Int):=by omega
 rw [Int.neg_neg,Int.toNat_natCast]
 clear hn
 have hn1:1 <= n:=by omega
 have hn2:n <= 31:=by omega
 have ha:=and31 n hn2 hn1
 go_enter func202,ntmps202
 go_wp2
 go_ret
 exact ⟨ret_int (by rw [show 32 - (32 - n)=n from by omega];exact turn_impl x n),rfl⟩
def zeros32:List UInt32:=List.replicate 64 0
theorem alloc46 (w:World):(Instr.alloc 294 true (.tuple #[])).run prog w=.ok (.pointer (some ⟨w.heap.size,0,none⟩)) (w.alloc (.cells (zeros32.map U).toArray 294)):=by kernel_rfl
theorem size46:(prog.info? 294).map (·.size)=some 64:=by kernel_rfl
theorem isched_any (b:Nat) (h:List UInt32) (kb:List UInt8) (held size:Nat) (w:World) (H:Hsh w b h kb held size) :
 Calls prog 201 #[.pointer (some ⟨b,0,none⟩)] w fun e w'=>e=.returned (.agg ((sched kb 64).map U).toArray) /\ Below w.heap.size w w':=by
 have hbl:=H.lt
 go_enter func201,ntmps201
 go_wp2_with (first | (refine wpList_alloc_row _ rfl (some 2) rfl 294 294 rfl (zeros32.map U) alloc46 ?_;intro g2 w2 hr2 hb2) | (refine wpList_alloc_row _ rfl (some 3) rfl 294 294 rfl (zeros32.map U) alloc46 ?_;intro g3 w3 hr3 hb3))
 have hr2':Row w2 w.heap.size g2 64 64 (zeros32.map U):=hr2
 have hr3':Row w3 w2.heap.size g3 64 64 ((arr kb 0).map U):=hr3
 have h2:=hb2.size
 have h3:=hb3.size
 have hl2:=hr2.lt
 have hg3:=hr3.ge
 have hg2:=hr2.ge
 have HR2:Row w3 w.heap.size g2 64 64 (zeros32.map U):=hr2'.below hb3
 have HH:Hsh w3 b h kb held size:=(H.below hb2).below hb3
 have hbw:Below w.heap.size w w3:=hb2.trans (hb3.mono h2)
 clear hr2 hr3 hr2' H hb2 hb3
 go_loopw [4] (fun i wr=>∃ q:Nat,q <= 16 /\ i=.int .i64 (q:Int) /\ Row wr w2.heap.size g3 64 64 ((arr kb q).map U) /\ w3.grownBy wr (some g3)) (fun i _=>16 - (intOf i).toNat)
 case atStart=>exact ⟨0,by omega,rfl,hr3',grownBy_refl _ _⟩
 case round =>
  clear hr3'
  obtain ⟨q,hq,rfl,hrow,hgr⟩:=hrel
  have hne:b ≠ g3:=by omega
  have hH:Hsh wr b h kb held size:=HH.kept hgr (by simp;omega)
  by_cases hlt:q < 16
  · obtain ⟨p,hp⟩:∃ p,p=4 * q:=⟨_,rfl⟩
    have c0:=hH.ks p (by omega)
    have c1:=hH.ks (p + 1) (by omega)
    have c2:=hH.ks (p + 2) (by omega)
    have c3:=hH.ks (p + 3) (by omega)
    generalize hb0:kb.getD p 0=b0 at c0
    generalize hb1:kb.getD (p + 1) 0=b1 at c1
    generalize hb2:kb.getD (p + 2) 0=b2 at c2
    generalize hb3:kb.getD (p + 3) 0=b3 at c3
    have HB:Hid (kb.getD p 0=b0 /\ kb.getD (p + 1) 0=b1 /\ kb.getD (p + 2) 0=b2 /\ kb.getD (p + 3) 0=b3):=⟨hb0,hb1,hb2,hb3⟩
    clear hb0 hb1 hb2 hb3 hH
    have ct:=row_u hrow q (by omega)
    have cf:=hrow.free q (by omega)
    have w0:IntKind.i64.wrap (4 * (q:Int))=(p:Int):=by rw [wrap_i64_in _ (by omega) (by omega)];omega
    have q0:(0:Int) <= (p:Int):=by omega
    have q1:(p:Int) < 64:=by omega
    have q2:(p:Int) + 1 < 64:=by omega
    have q3:(p:Int) + 2 < 64:=by omega
    have q4:(p:Int) + 3 < 64:=by omega
    have w1:IntKind.i64.wrap ((p:Int) + 1)=(p:Int) + 1:=wrap_i64_in _ (by omega) (by omega)
    have r1:(0:Int) <= (p:Int) + 1:=by omega
    have t1:((p:Int) + 1).toNat=p + 1:=by omega
    have wp2:IntKind.i64.wrap ((p:Int) + 2)=(p:Int) + 2:=wrap_i64_in _ (by omega) (by omega)
    have r2:(0:Int) <= (p:Int) + 2:=by omega
    have t2:((p:Int) + 2).toNat=p + 2:=by omega
    have wp3:IntKind.i64.wrap ((p:Int) + 3)=(p:Int) + 3:=wrap_i64_in _ (by omega) (by omega)
    have r3:(0:Int) <= (p:Int) + 3:=by omega
    have t3:((p:Int) + 3).toNat=p + 3:=by omega
    have s0:(0:Int) <= (q:Int):=by omega
    have s1:(q:Int) < 64:=by omega
    have HP:Hid (p=4 * q):=hp
    clear hp
    go_wp2_with fail
    go_region_held3 (fun w'=>w'.cell? ⟨b,8 + p,none⟩=some (.int .u8 (b0.toNat:Int)) /\ w'.cell? ⟨b,8 + (p + 1),none⟩=some (.int .u8 (b1.toNat:Int)) /\ w'.cell? ⟨b,8 + (p + 2),none⟩=some (.int .u8 (b2.toNat:Int)) /\ w'.cell? ⟨b,8 + (p + 3),none⟩=some (.int .u8 (b3.toNat:Int)))
     (first | exact ⟨c0,c1,c2,c3⟩ | exact ⟨(cell_set_far _ _ _ _ _ _ hne).trans c0,(cell_set_far _ _ _ _ _ _ hne).trans c1,(cell_set_far _ _ _ _ _ _ hne).trans c2,(cell_set_far _ _ _ _ _ _ hne).trans c3⟩) (fail)
    rw [word_form]
    go_wp2
    go_roundw
    case rel =>
     refine ⟨q + 1,by omega,by go_num,?_,?_⟩
     · rw [<- arr_lo kb q p b0 b1 b2 b3 hlt HP.out HB.out,word_form];exact (hrow.set q (by omega) _).drew
     · exact grownBy_drewR (grownBy_trans hgr (grownBy_setCell _ _ _ _))
    case measure=>simp [intOf];omega
  · obtain rfl:q=16:=by omega
    obtain ⟨w4,rfl⟩:∃ w4,w4=wr:=⟨_,rfl⟩
    clear hH
    go_wp2_with fail
    go_loopw [5] (fun i wr=>∃ q:Nat,16 <= q /\ q <= 64 /\ i=.int .i64 (q:Int) /\ Row wr w2.heap.size g3 64 64 ((arr kb q).map U) /\ w3.grownBy wr (some g3)) (fun i _=>64 - (intOf i).toNat)
    case atStart=>exact ⟨16,by omega,by omega,rfl,hrow,hgr⟩
    case round =>
     clear hrow hgr
     obtain ⟨q,hq16,hq,rfl,hrow,hgr⟩:=hrel
     by_cases hlt:q < 64
     · have c15:=row_u hrow (q - 15) (by omega)
       have c2:=row_u hrow (q - 2) (by omega)
       have c16:=row_u hrow (q - 16) (by omega)
       have c7:=row_u hrow (q - 7) (by omega)
       have ct:=row_u hrow q (by omega)
       have cf:=hrow.free q (by omega)
       rw [arr_getD kb q _ (by omega)] at c15 c2 c16 c7
       generalize h15:(sched kb q).getD (q - 15) 0=x15 at *
       generalize h2':(sched kb q).getD (q - 2) 0=x2 at *
       generalize h16':(sched kb q).getD (q - 16) 0=x16 at *
       generalize h7:(sched kb q).getD (q - 7) 0=x7 at *
       have HB:Hid ((sched kb q).getD (q - 16) 0=x16 /\ (sched kb q).getD (q - 15) 0=x15 /\ (sched kb q).getD (q - 7) 0=x7 /\ (sched kb q).getD (q - 2) 0=x2):=⟨h16',h15,h7,h2'⟩
       clear h15 h2' h16' h7
       have k1:(q:Int) - 16 < 64:=by omega
       have k2:(q:Int) - 7 < 64:=by omega
       have k3:(q:Int) - 15 < 64:=by omega
       have k4:(q:Int) - 2 < 64:=by omega
       have k5:(q:Int) < 64:=by omega
       have k6:(0:Int) <= (q:Int):=by omega
       have w1:IntKind.i64.wrap ((q:Int) - 16)=(q:Int) - 16:=wrap_i64_in _ (by omega) (by omega)
       have r1:(16:Int) <= (q:Int):=by omega
       have t1:((q:Int) - 16).toNat=q - 16:=by omega
       have w2':IntKind.i64.wrap ((q:Int) - 7)=(q:Int) - 7:=wrap_i64_in _ (by omega) (by omega)
       have r2:(7:Int) <= (q:Int):=by omega
       have t2:((q:Int) - 7).toNat=q - 7:=by omega
       have w3':IntKind.i64.wrap ((q:Int) - 15)=(q:Int) - 15:=wrap_i64_in _ (by omega) (by omega)
       have r3:(15:Int) <= (q:Int):=by omega
       have t3:((q:Int) - 15).toNat=q - 15:=by omega
       have w4':IntKind.i64.wrap ((q:Int) - 2)=(q:Int) - 2:=wrap_i64_in _ (by omega) (by omega)
       have r4:(2:Int) <= (q:Int):=by omega
       have t4:((q:Int) - 2).toNat=q - 2:=by omega
       go_wp2_with fail
       go_region_held3 (fun w'=>w'.cell? ⟨g3,q - 2,none⟩=some (.int .u32 (x2.toNat:Int)) /\ w'.cell? ⟨g3,q - 15,none⟩=some (.int .u32 (x15.toNat:Int))) (exact ⟨c2,c15⟩) (fail)
       go_wp2_with (go_at_call 202;refine (rot_any _ _ (by omega) (by omega) _).mono ?_;rintro e w' ⟨rfl,rfl⟩)
       rw [far_form,near_form]
       generalize hs0:sumFar x15=sf at *
       generalize hs1:sumNear x2=sn at *
       have HS:Hid (sumFar x15=sf /\ sumNear x2=sn):=⟨hs0,hs1⟩
       clear hs0 hs1
       go_region_held3 (fun w'=>w'.cell? ⟨g3,q - 7,none⟩=some (.int .u32 (x7.toNat:Int)) /\ w'.cell? ⟨g3,q - 16,none⟩=some (.int .u32 (x16.toNat:Int))) (first | exact ⟨c7,c16⟩ | exact ⟨(cell_set_ne _ _ _ _ _ (by omega)).trans c7,(cell_set_ne _ _ _ _ _ (by omega)).trans c16⟩) (fail)
       rw [wrap_add,wrap_add,wrap_add]
       generalize hv:sn + x7 + sf + x16=nv
       have HV:Hid (sn + x7 + sf + x16=nv):=hv
       clear hv
       go_wp2
       go_roundw
       case rel =>
        have e:=arr_hi kb q x16 x15 x7 x2 hq16 hlt HB.out
        rw [HS.out.1,HS.out.2,wrap_add,wrap_add,wrap_add,HV.out] at e
        (repeat apply Exists.intro)
        refine ⟨⟨q + 1,by omega,by omega,by go_num,?_,?_⟩,rfl⟩
        · rw [<- e];exact (hrow.set q (by omega) _).drew.drew
        · exact grownBy_drewR (grownBy_drewR (grownBy_trans hgr (grownBy_setCell _ _ _ _)))
       case measure=>simp [intOf];omega
     · obtain rfl:q=64:=by omega
       have hR2:Row wr w.heap.size g2 64 64 (zeros32.map U):=HR2.kept hgr (by simp;omega)
       rw [arr_full] at hrow
       have hln:((sched kb 64).map U).length=64:=by rw [List.length_map,sched_length]
       have h1c:∀ v ∈ (sched kb 64).map U,v.oneCell'=true:=by
        intro v hv
        obtain ⟨x,_,rfl⟩:=List.mem_map.1 hv
        rfl
       have HF:Hid (∀ N,N=64 -> Row wr w2.heap.size g3 64 64 ((sched kb N).map U) /\ ((sched kb N).map U).length=64 /\ ∀ v ∈ (sched kb N).map U,v.oneCell'=true):=fun N hN=>by subst hN;exact ⟨hrow,hln,h1c⟩
       clear hrow hln h1c
       obtain ⟨L,hL⟩:∃ L,(sched kb 64).map U=L:=⟨_,rfl⟩
       have HL:Hid (∀ N,N=64 -> (sched kb N).map U=L):=fun N hN=>by subst hN;exact hL
       have F:=HF.out 64 rfl
       rw [hL] at F
       obtain ⟨F1,F2,F3⟩:=F
       clear hL HF
       go_wp2_with (first | (refine wpList_load_whole _ rfl 294 (.tmp 3) rfl w2.heap.size g3 64 64 L 177 rfl F1 Tryz.underlying294 size46 ?_) | (refine wpList_store_whole _ rfl rfl 294 (.tmp 2) (.tmp 100) rfl w.heap.size g2 64 (zeros32.map U) L rfl rfl hR2 F2 size46 F3 ?_;intro w5 hR5 hg5))
       refine ret_row _ (p:=2) (ty:=294) rfl w.heap.size g2 64 64 L 177 rfl hR5 Tryz.underlying294 size46 rfl ?_
       refine ⟨?_,?_⟩
       · rw [<- HL.out 64 rfl]
       · exact (hbw.trans (below_of_grown hgr (by omega) (by omega))).trans (below_of_grown hg5 (by omega) (by have:=hgr.size;omega))
theorem ch_form2 (e f g:UInt32):bits BinOp.xor IntKind.u32 (bits BinOp.and IntKind.u32 (e.toNat:Int) (f.toNat:Int)) (bits BinOp.and IntKind.u32 (bits BinOp.xor IntKind.u32 IntKind.u32.max (e.toNat:Int)) (g.toNat:Int))=((ch e f g).toNat:Int):=ch_form e f g
theorem size41:(prog.info? 286).map (·.size)=some 8:=by kernel_rfl
theorem size24:(prog.info? 177).map (·.size)=some 1:=by kernel_rfl
theorem mix_any (b:Nat) (x0 x1 x2 x3 x4 x5 x6 x7:UInt32) (kb:List UInt8) (held size:Nat) (w:World) (H:Hsh w b [x0,x1,x2,x3,x4,x5,x6,x7] kb held size) (_hb0:b ≠ 0)
 (hK:∀ j,j < 64 -> w.cell? ⟨0,j,none⟩=some (.int .u32 ((kTab.getD j 0).toNat:Int))) :
 Calls prog 195 #[.pointer (some ⟨b,0,none⟩)] w fun e w'=>e=.returned (.tuple #[]) /\ Hsh w' b (comp [x0,x1,x2,x3,x4,x5,x6,x7] kb) kb 0 size /\ w.grownBy w' (some b):=by
 have hbl:=H.lt
 have hl0:0 < w.heap.size:=by omega
 have hWl:=sched_length kb 64
 have h1c:∀ v ∈ (sched kb 64).map U,v.oneCell'=true:=by
  intro v hv
  obtain ⟨x,_,rfl⟩:=List.mem_map.1 hv
  rfl
 have hsa:=isched_any b [x0,x1,x2,x3,x4,x5,x6,x7] kb held size w H
 obtain ⟨W,hW⟩:∃ W,sched kb 64=W:=⟨_,rfl⟩
 rw [hW] at hWl h1c hsa
 have HW:Hid (∀ N,N=64 -> sched kb N=W):=fun N hN=>by rw [hN];exact hW
 clear hW
 have hLW:(W.map U).length=64:=by rw [List.length_map,hWl]
 obtain ⟨L,hL⟩:∃ L,W.map U=L:=⟨_,rfl⟩
 have HL:Hid (W.map U=L):=hL
 rw [hL] at hLW h1c hsa
 clear hL
 go_enter func195,ntmps195
 go_wp2_with fail
 refine hsa.mono ?_
 rintro e w1 ⟨rfl,hb1⟩
 clear hsa
 have hs1:=hb1.size
 go_wp2_with (first | (refine wpList_alloc_row _ rfl (some 2) rfl 294 294 rfl (zeros32.map U) alloc46 ?_;intro g2 w2 hr2 hb2) | (refine wpList_store_whole _ rfl rfl 294 (.tmp 2) (.tmp 21) rfl w1.heap.size g2 64 (zeros32.map U) L rfl rfl hr2 hLW size46 h1c ?_;intro w3 hr3 hg3))
 have hg2l:=hr2.ge
 have hg2g:=hr2.lt
 have hs2:=hb2.size
 have hs3:=hg3.size
 have H3:Hsh w3 b [x0,x1,x2,x3,x4,x5,x6,x7] kb held size:=((H.below hb1).below hb2).kept hg3 (by simp;omega)
 have hB3:Below w.heap.size w w3:=(hb1.trans (hb2.mono hs1)).trans (below_of_grown hg3 (by omega) (by omega))
 have hK3:∀ j,j < 64 -> w3.cell? ⟨0,j,none⟩=some (.int .u32 ((kTab.getD j 0).toNat:Int)):=fun j hj=>(hB3.cell (by exact hl0)).trans (hK j hj)
 have hC3:∀ j,j < 64 -> w3.cell? ⟨g2,j,none⟩=some (.int .u32 ((W.getD j 0).toNat:Int)):=by rw [<- HL.out] at hr3;exact fun j hj=>row_u hr3 j hj
 have HK:Hid (∀ j,j < 64 -> w3.cell? ⟨0,j,none⟩=some (.int .u32 ((kTab.getD j 0).toNat:Int))):=hK3
 have HC:Hid (∀ j,j < 64 -> w3.cell? ⟨g2,j,none⟩=some (.int .u32 ((W.getD j 0).toNat:Int))):=hC3
 have c0:w3.cell? ⟨b,0,none⟩=some (.int .u32 (x0.toNat:Int)):=H3.hs 0 (by omega)
 have c1:w3.cell? ⟨b,1,none⟩=some (.int .u32 (x1.toNat:Int)):=H3.hs 1 (by omega)
 have c2:w3.cell? ⟨b,2,none⟩=some (.int .u32 (x2.toNat:Int)):=H3.hs 2 (by omega)
 have c3:w3.cell? ⟨b,3,none⟩=some (.int .u32 (x3.toNat:Int)):=H3.hs 3 (by omega)
 have c4:w3.cell? ⟨b,4,none⟩=some (.int .u32 (x4.toNat:Int)):=H3.hs 4 (by omega)
 have c5:w3.cell? ⟨b,5,none⟩=some (.int .u32 (x5.toNat:Int)):=H3.hs 5 (by omega)
 have c6:w3.cell? ⟨b,6,none⟩=some (.int .u32 (x6.toNat:Int)):=H3.hs 6 (by omega)
 have c7:w3.cell? ⟨b,7,none⟩=some (.int .u32 (x7.toNat:Int)):=H3.hs 7 (by omega)
 have hl3:g2 < w3.heap.size:=by omega
 have hl30:0 < w3.heap.size:=by omega
 clear hK hK3 hC3 hr2 hr3 hg3 hb2 hb1 h1c hLW HL H
 go_region_held3 (fun w'=>w'.cell? ⟨b,0,none⟩=some (.int .u32 (x0.toNat:Int)) /\ w'.cell? ⟨b,1,none⟩=some (.int .u32 (x1.toNat:Int)) /\ w'.cell? ⟨b,2,none⟩=some (.int .u32 (x2.toNat:Int)) /\ w'.cell? ⟨b,3,none⟩=some (.int .u32 (x3.toNat:Int))) (exact ⟨c0,c1,c2,c3⟩) (fail)
 go_wp2_with fail
 go_region_held3 (fun w'=>w'.cell? ⟨b,4,none⟩=some (.int .u32 (x4.toNat:Int)) /\ w'.cell? ⟨b,5,none⟩=some (.int .u32 (x5.toNat:Int)) /\ w'.cell? ⟨b,6,none⟩=some (.int .u32 (x6.toNat:Int)) /\ w'.cell? ⟨b,7,none⟩=some (.int .u32 (x7.toNat:Int))) (exact ⟨c4,c5,c6,c7⟩) (fail)
 go_wp2_with fail
 go_loopw [3,4,5,6,7,8,9,10,11] (fun ta tb tc td te tf tg tz i wr=>∃ (k:Nat) (va vb vc vd ve vf vg vz:UInt32),k <= 64 /\ i=.int .i64 k /\ Hid (rnds W ⟨x0,x1,x2,x3,x4,x5,x6,x7⟩ k=⟨va,vb,vc,vd,ve,vf,vg,vz⟩) /\ ta=.int .u32 (va.toNat:Int) /\ tb=.int .u32 (vb.toNat:Int) /\ tc=.int .u32 (vc.toNat:Int) /\ td=.int .u32 (vd.toNat:Int) /\ te=.int .u32 (ve.toNat:Int) /\ tf=.int .u32 (vf.toNat:Int) /\ tg=.int .u32 (vg.toNat:Int) /\ tz=.int .u32 (vz.toNat:Int) /\ Below w3.heap.size w3 wr) (fun _ _ _ _ _ _ _ _ i _=>64 - (intOf i).toNat)
 case atStart=>exact ⟨0,x0,x1,x2,x3,x4,x5,x6,x7,Nat.zero_le _,rfl,rfl,rfl,rfl,rfl,rfl,rfl,rfl,rfl,rfl,(Below.refl _ _).drew.drew⟩
 case round =>
  obtain ⟨k,va,vb,vc,vd,ve,vf,vg,vz,hk,rfl,HST,rfl,rfl,rfl,rfl,rfl,rfl,rfl,rfl,hb2⟩:=hrel
  by_cases hlt:k < 64
  · obtain ⟨kk,hkk⟩:∃ x,kTab.getD k 0=x:=⟨_,rfl⟩
    obtain ⟨ww,hww⟩:∃ x,W.getD k 0=x:=⟨_,rfl⟩
    have ck:wr.cell? ⟨0,k,none⟩=some (.int .u32 (kk.toNat:Int)):=by rw [<- hkk];exact (hb2.cell hl30).trans (HK.out k hlt)
    have cw:wr.cell? ⟨g2,k,none⟩=some (.int .u32 (ww.toNat:Int)):=by rw [<- hww];exact (hb2.cell hl3).trans (HC.out k hlt)
    have HKW:Hid (kTab.getD k 0=kk /\ W.getD k 0=ww):=⟨hkk,hww⟩
    clear hkk hww
    have q0:(0:Int) <= (k:Int):=by omega
    have q1:(k:Int) < 64:=by omega
    go_wp2_with (go_at_call 202;refine (rot_any _ _ (by omega) (by omega) _).mono ?_;rintro e w' ⟨rfl,rfl⟩)
    rw [sumE_form,sumA_form,ch_form2,maj_form]
    go_region_held3 (fun w'=>w'.cell? ⟨0,k,none⟩=some (.int .u32 (kk.toNat:Int)) /\ w'.cell? ⟨g2,k,none⟩=some (.int .u32 (ww.toNat:Int))) (exact ⟨ck,cw⟩) (fail)
    go_wp2
    go_roundw
    case rel =>
     have HR:=rnds_succ W _ k kk ww _ HST.out HKW.out
     simp only [u_add]
     exact ⟨k + 1,_,_,_,_,_,_,_,_,by omega,by go_num,HR,rfl,rfl,rfl,rfl,rfl,rfl,rfl,rfl,by first | exact hb2.drew | exact hb2⟩
    case measure=>simp [intOf];omega
  · obtain rfl:k=64:=by omega
    obtain ⟨w4,rfl⟩:∃ w4,w4=wr:=⟨_,rfl⟩
    have H4:Hsh w4 b [x0,x1,x2,x3,x4,x5,x6,x7] kb held size:=H3.below hb2
    have HST':Hid (∀ N,N=64 -> rnds W ⟨x0,x1,x2,x3,x4,x5,x6,x7⟩ N=⟨va,vb,vc,vd,ve,vf,vg,vz⟩):=fun N hN=>by rw [hN];exact HST
    clear HST c0 c1 c2 c3 c4 c5 c6 c7 H3 HK HC
    have hg4:w.grownBy w4 (some b):=grownBy_of_below (hB3.trans (hb2.mono (by omega))) _
    go_wp2_with fail
    go_loopw [138] (fun t wr=>∃ i:Nat,i <= 8 /\ t=.int .i64 (i:Int) /\ Hsh wr b (addTo [x0,x1,x2,x3,x4,x5,x6,x7] [va,vb,vc,vd,ve,vf,vg,vz] i) kb held size /\ w.grownBy wr (some b)) (fun t _=>8 - (intOf t).toNat)
    case atStart=>exact ⟨0,by omega,rfl,H4,hg4⟩
    case round =>
     clear H4 hg4 hb2
     obtain ⟨i,hi,rfl,HH,hgr⟩:=hrel
     by_cases hlt:i < 8
     · obtain ⟨x,hx⟩:∃ x,(addTo [x0,x1,x2,x3,x4,x5,x6,x7] [va,vb,vc,vd,ve,vf,vg,vz] i).getD i 0=x:=⟨_,rfl⟩
       obtain ⟨y,hy⟩:∃ y,[va,vb,vc,vd,ve,vf,vg,vz].getD i 0=y:=⟨_,rfl⟩
       have cx:wr.cell? ⟨b,i,none⟩=some (.int .u32 (x.toNat:Int)):=by rw [<- hx];exact HH.hs i hlt
       have cf:=HH.fr i (by omega)
       have HXY:Hid ((addTo [x0,x1,x2,x3,x4,x5,x6,x7] [va,vb,vc,vd,ve,vf,vg,vz] i).getD i 0=x /\ [va,vb,vc,vd,ve,vf,vg,vz].getD i 0=y):=⟨hx,hy⟩
       clear hx hy
       have q0:(0:Int) <= (i:Int):=by omega
       have q1:(i:Int) < 8:=by omega
       go_wp2_with (refine wpList_index_u _ rfl 286 (.tmp 137) (.tmp 138) rfl [va,vb,vc,vd,ve,vf,vg,vz] 8 177 i rfl rfl rfl hlt Tryz.underlying286 Tryz.underlying177 size24 ?_;rw [HXY.out.2])
       go_region
       go_wp2
       go_roundw
       case rel =>
        have e:addTo [x0,x1,x2,x3,x4,x5,x6,x7] [va,vb,vc,vd,ve,vf,vg,vz] (i + 1)=(addTo [x0,x1,x2,x3,x4,x5,x6,x7] [va,vb,vc,vd,ve,vf,vg,vz] i).set i (x + y):=by rw [addTo,HXY.out.1,HXY.out.2]
        have hw2:=u_add x y
        simp only [hw2]
        first
         | exact ⟨i + 1,by omega,by go_num,by rw [e];exact (HH.setWord i hlt (x + y)).drew,grownBy_drewR (grownBy_trans hgr (grownBy_setCell _ _ _ _))⟩
         | ((repeat apply Exists.intro);exact ⟨⟨i + 1,by omega,by go_num,by rw [e];exact (HH.setWord i hlt (x + y)).drew,grownBy_drewR (grownBy_trans hgr (grownBy_setCell _ _ _ _))⟩,rfl⟩)
       case measure=>simp [intOf];omega
     · obtain rfl:i=8:=by omega
       have cd:=HH.hd
       have cf:=HH.fr 72 (by omega)
       go_wp2
       go_end0
       refine ⟨rfl,?_,grownBy_trans hgr (grownBy_setCell _ _ _ _)⟩
       rw [<- addTo_comp kb W x0 x1 x2 x3 x4 x5 x6 x7 va vb vc vd ve vf vg vz (HW.out 64 rfl) (HST'.out 64 rfl)]
       exact HH.setHeld 0
end Go.Proofs.YtibjhkpgaaapaaaGreatDoor
