import Derived.Test.YtibjhkpgaaapaaaGreatDoorZhbr
import Derived.Test.YtibjhkpgaaapaaaGreatDoorZhbq
import Derived.Test.YtibjhkpgaaapaaaGreatDoorZhbf
import Derived.Test.YtibjhkpgaaapaaaGreatDoorZhbo
import Derived.Test.YtibjhkpgaaapaaaGreatDoorZhbk
set_option maxRecDepth 100000
set_option maxHeartbeats 8000000
namespace Go.Proofs.YtibjhkpgaaapaaaGreatDoor
open Go.RowKit Go.Proofs.Sha Tryz
theorem dprove_any (a:Option Addr) (L cap:Nat) (n:Int) (ss:List ByteArray) (root lo hi:ByteArray) (w:World)
 (HP:∀ w',Below w.heap.size w w' -> Calls prog 65 #[.slice a L cap] w' (RGot n ss root lo hi w')):Calls prog 24 #[.slice a L cap] w (RGot n ss root lo hi w):=by
 have HP':Hid _:=HP
 unfold RGot at HP'
 obtain ⟨N,hN⟩:∃ N,ss.length=N:=⟨_,rfl⟩
 rw [hN] at HP'
 have hA:Below w.heap.size w (w.alloc (.cells #[.int .i64 0,.slice none 0 0] 31)):=(Below.refl _ _).alloc (Nat.le_refl _) _
 have nA:=heap_alloc_new w (.cells #[.int .i64 0,.slice none 0 0] 31)
 have hgw:w.heap.size <= w.heap.size:=Nat.le_refl _
 clear HP
 go_enter func24,ntmps24
 go_upto_region 1 with fail
 generalize w.alloc (.cells #[.int .i64 0,.slice none 0 0] 31)=wA at hA nA ⊢
 obtain ⟨gr,hgr⟩:∃ g,w.heap.size=g:=⟨_,rfl⟩
 have hgl:w.heap.size <= gr:=Nat.le_of_eq hgr
 rw [hgr] at nA
 try rw [hgr]
 clear hgr hgw
 go_wp2_with (first | (go_at_call 65;refine (HP'.out _ hA).mono ?_;rintro e w2 ⟨ap,cp,rfl,hS2,hb2⟩;have nB:=pblk_below hb2 nA;have r0:=ZC nB 0;have r1:=ZC nB 1;have rf:∀ j,w2.frozen? ⟨gr,j,none⟩=false:=(fun j=>(by rw [World.frozen?,nB];rfl))))
 have hbw:=hA.trans (hb2.mono hA.size)
 have m0:=heap_setCell_same w2 gr 0 _ 31 (.int .i64 n) nB
 have m1:=heap_setCell_same _ gr 1 _ 31 (.slice ap N cp) m0
 have hS6:=(hS2.set37 nB (o:=0) (.int .i64 n)).set37 m0 (o:=1) (.slice ap N cp)
 have hb6:=(hbw.setCell (p:=⟨gr,0,none⟩) hgl (.int .i64 n)).setCell (p:=⟨gr,1,none⟩) hgl (.slice ap N cp)
 have hfin:Hid (RGot n ss root lo hi w (.returned (.tuple #[.agg #[.int .i64 n,.slice ap N cp],.string root,.string lo,.string hi])) ((w2.setCell ⟨gr,0,none⟩ (.int .i64 n)).setCell ⟨gr,1,none⟩ (.slice ap N cp))):=⟨ap,cp,by rw [hN],hS6,hb6⟩
 exact retPT4 Tryz.results24 rfl rfl rfl rfl rfl m1 hfin.out
def VrQ (A:List PairT) (ok:Bool) (w:World) (e:Ending) (w':World):Prop:=∃ a c,e=.returned (.tuple #[.slice a A.length c,.bool ok]) /\ PArg a A w' /\ Below w.heap.size w w'
structure P7 (w:World) (g3 g7:Nat) (n:Int) (N:Nat) (ss:List ByteArray) (a3:Option Addr) (c3:Nat) (a7:Option Addr) (c7:Nat) (W:World):Prop where
 n3:W.heap[g3]?=some (.cells #[.int .i64 n,.slice a3 N c3] 31)
 n7:W.heap[g7]?=some (.cells #[.int .i64 n,.slice a7 N c7] 31)
 s3:SArg a3 ss W
 s7:SArg a7 ss W
 bl:Below w.heap.size w W
theorem P7.below {w:World} {g3 g7:Nat} {n:Int} {N:Nat} {ss:List ByteArray} {a3:Option Addr} {c3:Nat} {a7:Option Addr} {c7:Nat} {W W':World} (h:P7 w g3 g7 n N ss a3 c3 a7 c7 W) (hb:Below W.heap.size W W'):P7 w g3 g7 n N ss a3 c3 a7 c7 W':=⟨below_cells hb h.n3,below_cells hb h.n7,h.s3.below hb,h.s7.below hb,h.bl.trans (hb.mono h.bl.size)⟩
theorem prove_no (a:Option Addr) (L cap:Nat) (n:Int) (ss:List ByteArray) (root lo hi PF:ByteArray) (PC:Int) (ALL:List PairT) (AC:Int) (w:World) (hL:L <= 1048576) (hK:KT w)
 (HDw:∀ w',Below w.heap.size w w' -> Calls prog 24 #[.slice a L cap] w' (RGot n ss root lo hi w'))
 (HSP:∀ w' ap cp,SArg ap ss w' -> Calls prog 12 #[.agg #[.int .i64 n,.slice ap ss.length cp],.string root,.string lo,.string hi] w' fun e w''=>e=.returned (.tuple #[.string PF,.int .i64 PC]) /\ Below w'.heap.size w' w'')
 (HIP:∀ w' ap cp,SArg ap ss w' -> KT w' -> Calls prog 14 #[.agg #[.int .i64 n,.slice ap ss.length cp],.string root,.string lo,.string hi] w' fun e w''=>e=.returned (.tuple #[.string PF,.int .i64 PC]) /\ Below w'.heap.size w' w'')
 (HLD:∀ w' ap cp,SArg ap ss w' -> Calls prog 25 #[.agg #[.int .i64 n,.slice ap ss.length cp],.string root] w' fun e w''=>∃ a c,e=.returned (.tuple #[.slice a ALL.length c,.int .i64 AC]) /\ PArg a ALL w'' /\ ALL.length <= c /\ Below w'.heap.size w' w'')
 (hAC:AC ≠ 0) :
 Calls prog 7 #[.slice a L cap] w fun e w'=>e=.returned (.bool true) /\ Below w.heap.size w w':=by
 have yA:(AC != 0)=true:=by rw [bne_iff_ne];exact hAC
 have z0:decide ((1048576:Int) < (L:Int))=false:=by simp;omega
 obtain ⟨N,hN⟩:∃ N,ss.length=N:=⟨_,rfl⟩
 obtain ⟨M,hM⟩:∃ N,ALL.length=N:=⟨_,rfl⟩
 have HD:Hid _:=HDw
 unfold RGot at HD
 rw [hN] at HD HSP HIP HLD
 rw [hM] at HLD
 have JSP:Hid _:=HSP
 have JIP:Hid _:=HIP
 have JLD:Hid _:=HLD
 have hKh:Hid (KT w):=hK
 have y0:(PC != PC)=false:=by simp
 clear HDw HSP HIP HLD hK
 go_enter func7,ntmps7
 go_upto_region 4 with (first | (go_at_call 24;refine (HD.out _ (Below.refl _ _)).mono ?_;rintro e w1 ⟨a3,c3,rfl,hS1,hb1⟩))
 have al1:Below w1.heap.size w1 (w1.alloc (.cells #[.int .i64 n,.slice a3 N c3] 31)):=(Below.refl _ _).alloc (Nat.le_refl _) _
 have n1:=heap_alloc_new w1 (.cells #[.int .i64 n,.slice a3 N c3] 31)
 have hS2:=hS1.below al1
 have hb2:=hb1.trans (al1.mono hb1.size)
 generalize w1.alloc (.cells #[.int .i64 n,.slice a3 N c3] 31)=w2 at n1 hS2 hb2 ⊢
 obtain ⟨g3,hg3⟩:∃ g,w1.heap.size=g:=⟨_,rfl⟩
 rw [hg3] at n1
 try rw [hg3]
 clear hg3 al1 hS1 hb1
 go_upto_region 5 with (first | (go_at_call 24;refine (HD.out _ hb2).mono ?_;rintro e w3 ⟨a7,c7,rfl,hS3,hb3'⟩))
 have al3:Below w3.heap.size w3 (w3.alloc (.cells #[.int .i64 n,.slice a7 N c7] 31)):=(Below.refl _ _).alloc (Nat.le_refl _) _
 have n3:=heap_alloc_new w3 (.cells #[.int .i64 n,.slice a7 N c7] 31)
 have hb3:=hb2.trans (hb3'.mono hb2.size)
 have hP:P7 w g3 w3.heap.size n N ss a3 c3 a7 c7 (w3.alloc (.cells #[.int .i64 n,.slice a7 N c7] 31)):=⟨below_cells al3 (below_cells hb3' n1),n3,(hS2.below hb3').below al3,hS3.below al3,hb3.trans (al3.mono hb3.size)⟩
 generalize w3.alloc (.cells #[.int .i64 n,.slice a7 N c7] 31)=w4 at hP ⊢
 obtain ⟨g7,hg7⟩:∃ g,w3.heap.size=g:=⟨_,rfl⟩
 rw [hg7] at hP
 try rw [hg7]
 clear hg7 al3 n3 hb3 hb3' hS3 hS2 n1 hb2 HD
 have k70:=ZC hP.n7 0
 have k71:=ZC hP.n7 1
 go_upto_region 6 with (first | (go_at_call 12;refine (JSP.out _ _ _ hP.s7).mono ?_;rintro e w5 ⟨rfl,hb5⟩))
 have hP5:=hP.below hb5
 clear k70 k71 hP hb5 JSP
 have hK5:Hid (KT w5):=hKh.out.below hP5.bl
 have k30:=ZC hP5.n3 0
 have k31:=ZC hP5.n3 1
 go_upto_region 7 with (first | (go_at_call 14;refine (JIP.out _ _ _ hP5.s3 hK5.out).mono ?_;rintro e w6 ⟨rfl,hb6⟩))
 have hP6:=hP5.below hb6
 clear k30 k31 hP5 hb6 JIP hK5
 have k70:=ZC hP6.n7 0
 have k71:=ZC hP6.n7 1
 go_upto_region 10 with (first | (go_at_call 25;refine (JLD.out _ _ _ hP6.s7).mono ?_;rintro e w7 ⟨aA,cA,rfl,hpA,hcA,hb7⟩))
 have hP7:=hP6.below hb7
 clear k70 k71 hP6 hb7 JLD
 have hbl:=hP7.bl
 clear hP7 hpA
 go_wp2_with fail
 go_ret
 exact ⟨rfl,hbl⟩
theorem prove_yes (a:Option Addr) (L cap:Nat) (n:Int) (ss:List ByteArray) (root lo hi PF:ByteArray) (PC:Int) (ALL:List PairT) (w:World) (hL:L <= 1048576) (hK:KT w)
 (HDw:∀ w',Below w.heap.size w w' -> Calls prog 24 #[.slice a L cap] w' (RGot n ss root lo hi w'))
 (HSP:∀ w' ap cp,SArg ap ss w' -> Calls prog 12 #[.agg #[.int .i64 n,.slice ap ss.length cp],.string root,.string lo,.string hi] w' fun e w''=>e=.returned (.tuple #[.string PF,.int .i64 PC]) /\ Below w'.heap.size w' w'')
 (HIP:∀ w' ap cp,SArg ap ss w' -> KT w' -> Calls prog 14 #[.agg #[.int .i64 n,.slice ap ss.length cp],.string root,.string lo,.string hi] w' fun e w''=>e=.returned (.tuple #[.string PF,.int .i64 PC]) /\ Below w'.heap.size w' w'')
 (HLD:∀ w' ap cp,SArg ap ss w' -> Calls prog 25 #[.agg #[.int .i64 n,.slice ap ss.length cp],.string root] w' fun e w''=>∃ a c,e=.returned (.tuple #[.slice a ALL.length c,.int .i64 0]) /\ PArg a ALL w'' /\ ALL.length <= c /\ Below w'.heap.size w' w'')
 (_hSA:SmallP ALL) (_hM5:ALL.length <= 500) (WN:List PairT) (hWs:SmallP WN) (hW5:WN.length <= 500) (cf cs h:Nat) (hcf:cf <= WN.length + 2 * h) (hcs:cs <= 2 * h + 1) (hh:h <= 500)
 (HWN:∀ w' ap cp,PArg ap ALL w' -> Calls prog 26 #[.slice ap ALL.length cp,.string lo,.string hi] w' (PairsAt WN w'))
 (HVR:∀ w',KT w' -> Calls prog 17 #[.int .i64 n,.string root,.string lo,.string hi,.string PF] w' (VrQ WN true w'))
 (HCN:∀ w',Calls prog 27 #[.string PF,.int .i64 n] w' fun e w''=>e=.returned (.tuple #[.int .i64 (cf:Int),.int .i64 (cs:Int),.bool true]) /\ Below w'.heap.size w' w'')
 (HHT:∀ w' ap cp,PArg ap ALL w' -> ALL.length <= cp -> Calls prog 28 #[.slice ap ALL.length cp] w' fun e w''=>e=.returned (.int .i64 (h:Int)) /\ Below w'.heap.size w' w'')
 (HRT:∀ w' ap cp,PArg ap ALL w' -> ALL.length <= cp -> Calls prog 29 #[.slice ap ALL.length cp,.int .i64 n] w' fun e w''=>e=.returned (.string root) /\ Below w'.heap.size w' w'')
 (o:SvO) (hoS:SmT o.xs 500 10000) (HSV:∀ w' ap cp,PArg ap ALL w' -> KT w' -> Calls prog 30 #[.agg #[.int .i64 n,.slice none 0 0],.slice ap ALL.length cp] w' (SavedIs o w'))
 (hO:(o.cd=4 /\ o.x ≠ o.y) \/ (o.cd=0 /\ ∀ w' ap cp,SArg ap o.xs w' -> KT w' -> Calls prog 14 #[.agg #[.int .i64 o.n,.slice ap o.xs.length cp],.string o.root,.string lo,.string hi] w' fun e w''=>e=.returned (.tuple #[.string PF,.int .i64 0]) /\ Below w'.heap.size w' w'')) (hROOT:o.xs.length <= 500) :
 Calls prog 7 #[.slice a L cap] w fun e w'=>e=.returned (.bool true) /\ Below w.heap.size w w':=by
 obtain ⟨V,hV⟩:∃ N,WN.length=N:=⟨_,rfl⟩
 have JWN:Hid _:=HWN
 have JVR:Hid _:=HVR
 have JCN:Hid _:=HCN
 have JHT:Hid _:=HHT
 have JRT:Hid _:=HRT
 have JSV:Hid _:=HSV
 have W1:Hid (∀ p q c d w',PArg p WN w' -> PArg q WN w' -> Calls prog 22 #[.slice p WN.length c,.slice q WN.length d] w' fun e w''=>e=.returned (.bool true) /\ Below w'.heap.size w' w''):=fun p q c d w' x y=>by have:=wsame_any p q WN WN c d w' x y;rw [decide_eq_true rfl] at this;exact this
 unfold PairsAt at JWN
 unfold VrQ at JVR
 unfold SavedIs at JSV
 rw [hV] at JWN JVR W1 hcf hW5
 clear HWN HVR HCN HHT HRT HSV
 have z0:decide ((1048576:Int) < (L:Int))=false:=by simp;omega
 obtain ⟨N,hN⟩:∃ N,ss.length=N:=⟨_,rfl⟩
 obtain ⟨M,hM⟩:∃ N,ALL.length=N:=⟨_,rfl⟩
 have HD:Hid _:=HDw
 unfold RGot at HD
 rw [hN] at HD HSP HIP HLD
 rw [hM] at HLD JWN JHT JRT JSV
 have JSP:Hid _:=HSP
 have JIP:Hid _:=HIP
 have JLD:Hid _:=HLD
 have hKh:Hid (KT w):=hK
 have y0:(PC != PC)=false:=by simp
 clear HDw HSP HIP HLD hK
 go_enter func7,ntmps7
 go_upto_region 4 with (first | (go_at_call 24;refine (HD.out _ (Below.refl _ _)).mono ?_;rintro e w1 ⟨a3,c3,rfl,hS1,hb1⟩))
 have al1:Below w1.heap.size w1 (w1.alloc (.cells #[.int .i64 n,.slice a3 N c3] 31)):=(Below.refl _ _).alloc (Nat.le_refl _) _
 have n1:=heap_alloc_new w1 (.cells #[.int .i64 n,.slice a3 N c3] 31)
 have hS2:=hS1.below al1
 have hb2:=hb1.trans (al1.mono hb1.size)
 generalize w1.alloc (.cells #[.int .i64 n,.slice a3 N c3] 31)=w2 at n1 hS2 hb2 ⊢
 obtain ⟨g3,hg3⟩:∃ g,w1.heap.size=g:=⟨_,rfl⟩
 rw [hg3] at n1
 try rw [hg3]
 clear hg3 al1 hS1 hb1
 go_upto_region 5 with (first | (go_at_call 24;refine (HD.out _ hb2).mono ?_;rintro e w3 ⟨a7,c7,rfl,hS3,hb3'⟩))
 have al3:Below w3.heap.size w3 (w3.alloc (.cells #[.int .i64 n,.slice a7 N c7] 31)):=(Below.refl _ _).alloc (Nat.le_refl _) _
 have n3:=heap_alloc_new w3 (.cells #[.int .i64 n,.slice a7 N c7] 31)
 have hb3:=hb2.trans (hb3'.mono hb2.size)
 have hP:P7 w g3 w3.heap.size n N ss a3 c3 a7 c7 (w3.alloc (.cells #[.int .i64 n,.slice a7 N c7] 31)):=⟨below_cells al3 (below_cells hb3' n1),n3,(hS2.below hb3').below al3,hS3.below al3,hb3.trans (al3.mono hb3.size)⟩
 generalize w3.alloc (.cells #[.int .i64 n,.slice a7 N c7] 31)=w4 at hP ⊢
 obtain ⟨g7,hg7⟩:∃ g,w3.heap.size=g:=⟨_,rfl⟩
 rw [hg7] at hP
 try rw [hg7]
 clear hg7 al3 n3 hb3 hb3' hS3 hS2 n1 hb2 HD
 have k70:=ZC hP.n7 0
 have k71:=ZC hP.n7 1
 go_upto_region 6 with (first | (go_at_call 12;refine (JSP.out _ _ _ hP.s7).mono ?_;rintro e w5 ⟨rfl,hb5⟩))
 have hP5:=hP.below hb5
 clear k70 k71 hP hb5 JSP
 have hK5:Hid (KT w5):=hKh.out.below hP5.bl
 have k30:=ZC hP5.n3 0
 have k31:=ZC hP5.n3 1
 go_upto_region 7 with (first | (go_at_call 14;refine (JIP.out _ _ _ hP5.s3 hK5.out).mono ?_;rintro e w6 ⟨rfl,hb6⟩))
 have hP6:=hP5.below hb6
 clear k30 k31 hP5 hb6 JIP hK5
 have k70:=ZC hP6.n7 0
 have k71:=ZC hP6.n7 1
 go_upto_region 10 with (first | (go_at_call 25;refine (JLD.out _ _ _ hP6.s7).mono ?_;rintro e w7 ⟨aA,cA,rfl,hpA,hcA,hb7⟩))
 have hP7:=hP6.below hb7
 clear k70 k71 hP6 hb7 JLD
 have hWsh:Hid (SmallP WN):=hWs
 clear hWs
 go_upto_region 13 with (first | (go_at_call 26;refine (JWN.out _ _ _ hpA).mono ?_;rintro e w8 ⟨aW,cW,rfl,hOW⟩))
 have hpW:=ownp_parg hOW hWsh.out
 have hpA8:=hpA.below hOW.bel
 have hP8:=hP7.below hOW.bel
 have hK8:Hid (KT w8):=hKh.out.below hP8.bl
 clear hOW hpA hP7 JWN
 have k70:=ZC hP8.n7 0
 go_upto_region 14 with (first | (go_at_call 17;refine (JVR.out _ hK8.out).mono ?_;rintro e w9 ⟨aV,cV,rfl,hpV,hb9⟩))
 have hpW9:=hpW.below hb9
 have hpA9:=hpA8.below hb9
 have hP9:=hP8.below hb9
 clear hpW hpA8 hP8 hb9 hK8 k70 JVR
 go_upto_region 16 with (first | (go_at_call 22;refine (W1.out _ _ _ _ _ hpV hpW9).mono ?_;rintro e w10 ⟨rfl,hb10⟩))
 have hpA10:=hpA9.below hb10
 have hP10:=hP9.below hb10
 clear hpW9 hpV hpA9 hP9 hb10 W1
 have k70:=ZC hP10.n7 0
 go_upto_region 17 with (first | (go_at_call 27;refine (JCN.out _).mono ?_;rintro e w11 ⟨rfl,hb11⟩))
 have hpA11:=hpA10.below hb11
 have hP11:=hP10.below hb11
 clear hpA10 hP10 hb11 k70 JCN
 go_upto_region 18 with (first | (go_at_call 28;refine (JHT.out _ _ _ hpA11 hcA).mono ?_;rintro e w12 ⟨rfl,hb12⟩))
 have hpA12:=hpA11.below hb12
 have hP12:=hP11.below hb12
 clear hpA11 hP11 hb12 JHT
 have q1:decide ((V:Int) + 2 * (h:Int) + 2 < (cf:Int))=false:=decide_eq_false (by omega)
 have q2:decide (2 * (h:Int) + 2 < (cs:Int))=false:=decide_eq_false (by omega)
 have q3:decide (V + 2 * h + 2 < cf)=false:=decide_eq_false (by omega)
 have q4:decide (2 * h + 2 < cs)=false:=decide_eq_false (by omega)
 have x1:(2:Int) * (h:Int)=((2 * h:Nat):Int):=by omega
 have x2:(V:Int) + 2 * (h:Int)=((V + 2 * h:Nat):Int):=by omega
 have x3:(V:Int) + 2 * (h:Int) + 2=((V + 2 * h + 2:Nat):Int):=by omega
 have x4:(2:Int) * (h:Int) + 2=((2 * h + 2:Nat):Int):=by omega
 have v1:wrap64 (2 * (h:Int))=2 * (h:Int):=wr_in _ (by omega)
 have v2:wrap64 ((V:Int) + 2 * (h:Int))=(V:Int) + 2 * (h:Int):=wr_in _ (by clear v1;omega)
 have v3:wrap64 ((V:Int) + 2 * (h:Int) + 2)=(V:Int) + 2 * (h:Int) + 2:=wr_in _ (by clear v1 v2;omega)
 have v4:wrap64 (2 * (h:Int) + 2)=2 * (h:Int) + 2:=wr_in _ (by clear v1 v2 v3;omega)
 clear x1 x2 x3 x4
 have k70:=ZC hP12.n7 0
 go_upto_region 20 with fail
 clear v1 v2 v3 v4 q1 q2 q3 q4
 have rr:(root.toList == root.toList)=true:=by rw [ba_eq,decide_eq_true rfl]
 have rr2:(root.toList != root.toList)=false:=by simp
 go_upto_region 22 with (first | (go_at_call 29;refine (JRT.out _ _ _ hpA12 hcA).mono ?_;rintro e w13 ⟨rfl,hb13⟩))
 have hpA13:=hpA12.below hb13
 have hP13:=hP12.below hb13
 have hK13:Hid (KT w13):=hKh.out.below hP13.bl
 clear hpA12 hP12 hb13 k70 JRT rr rr2
 have k70:=ZC hP13.n7 0
 obtain ⟨cd,on,ys,oroot,ox,oy⟩:=o
 simp only at hoS hO hROOT JSV
 obtain ⟨NY,hNY⟩:∃ N,ys.length=N:=⟨_,rfl⟩
 rw [hNY] at JSV hO
 unfold svV at JSV
 go_upto_region 23 with (first | (go_at_call 30;refine (JSV.out _ _ _ hpA13 hK13.out).mono ?_;rintro e w14 ⟨a14,c14,rfl,hO14⟩))
 have al:Below w14.heap.size w14 (w14.alloc (.cells #[.int .i64 cd,.int .i64 on,.slice a14 NY c14,.string oroot,.string ox,.string oy] 56)):=(Below.refl _ _).alloc (Nat.le_refl _) _
 have nS:=heap_alloc_new w14 (.cells #[.int .i64 cd,.int .i64 on,.slice a14 NY c14,.string oroot,.string ox,.string oy] 56)
 have hSA:SArg a14 ys (w14.alloc (.cells #[.int .i64 cd,.int .i64 on,.slice a14 NY c14,.string oroot,.string ox,.string oy] 56)):=by
  have h1:=hO14
  rw [<- hNY] at h1
  exact (h1.sarg hoS (by omega) (by omega)).below al
 have hb15:=hP13.bl.trans ((hO14.bel.trans (al.mono hO14.bel.size)).mono hP13.bl.size)
 generalize w14.alloc (.cells #[.int .i64 cd,.int .i64 on,.slice a14 NY c14,.string oroot,.string ox,.string oy] 56)=w15 at nS hSA hb15 ⊢
 obtain ⟨gs,hgs⟩:∃ g,w14.heap.size=g:=⟨_,rfl⟩
 rw [hgs] at nS
 try rw [hgs]
 clear hgs al hO14 k70 hP13 hpA13 hK13 JSV
 have hK15:Hid (KT w15):=hKh.out.below hb15
 have s0:=ZC nS 0
 have s1:=ZC nS 1
 have s2:=ZC nS 2
 have s3:=ZC nS 3
 have s4:=ZC nS 4
 have s5:=ZC nS 5
 rcases hO with ⟨rfl,hne⟩ | ⟨rfl,HPr⟩
 · have zt:(ox.toList == oy.toList)=false:=by rw [ba_eq,decide_eq_false hne]
   have zt2:(ox.toList != oy.toList)=true:=by rw [bne,zt];rfl
   clear hne
   go_wp2_with fail
   go_ret
   exact ⟨rfl,hb15⟩
 · have JPr:Hid _:=HPr
   have zp:(PF.toList == PF.toList)=true:=by rw [ba_eq,decide_eq_true rfl]
   clear HPr
   go_wp2_with (first | (go_at_call 14;refine (JPr.out _ _ _ hSA hK15.out).mono ?_;rintro e w16 ⟨rfl,hb16⟩))
   go_ret
   exact ⟨rfl,hb15.trans (hb16.mono hb15.size)⟩
theorem set4_below {B gn:Nat} {a W:World} (h:Below B a W) (hg:B <= gn) (u0 u1 u2 u3:Value):Below B a ((((W.setCell ⟨gn,0,none⟩ u0).setCell ⟨gn,1,none⟩ u1).setCell ⟨gn,2,none⟩ u2).setCell ⟨gn,3,none⟩ u3) :=
 (((h.setCell (p:=⟨gn,0,none⟩) hg _).setCell (p:=⟨gn,1,none⟩) hg _).setCell (p:=⟨gn,2,none⟩) hg _).setCell (p:=⟨gn,3,none⟩) hg _
end Go.Proofs.YtibjhkpgaaapaaaGreatDoor
