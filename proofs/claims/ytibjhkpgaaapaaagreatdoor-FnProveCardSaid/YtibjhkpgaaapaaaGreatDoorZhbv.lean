import Derived.Test.YtibjhkpgaaapaaaGreatDoorZhbr
import Derived.Test.YtibjhkpgaaapaaaGreatDoorZhbu
set_option maxRecDepth 100000
set_option maxHeartbeats 4000000
namespace Go.Proofs.YtibjhkpgaaapaaaGreatDoor
open Go.RowKit Go.Proofs.Sha Tryz
theorem any_w (a:Option Addr) (xs:List Nat) (cap p x y wd z:Nat) (ss roots:List ByteArray) (hz:z <= 100000) (_hss:SmT ss 500 10000) (hr:SmT roots 4 32)
 (HT:∀ w,BL a xs w -> Calls prog 58 #[.slice a xs.length cap,.int .i64 (p:Int),.int .i64 24] w fun e w'=>e=.returned (.tuple #[.int .i64 (x:Int),.int .i64 ((p + 1:Nat):Int)]) /\ Below w.heap.size w w')
 (HP:∀ w,BL a xs w -> Calls prog 156 #[.slice a xs.length cap,.int .i64 ((p + 1:Nat):Int)] w (PoolGot wd ss roots z w))
 (HA:∀ w,BL a xs w -> Calls prog 58 #[.slice a xs.length cap,.int .i64 (z:Int),.int .i64 (roots.length:Int)] w fun e w'=>e=.returned (.tuple #[.int .i64 (y:Int),.int .i64 ((z + 1:Nat):Int)]) /\ Below w.heap.size w w') (hx:x=23) (hy:0 < roots.length -> y < roots.length) :
 ∀ w,BL a xs w -> Calls prog 124 #[.slice a xs.length cap,.int .i64 (p:Int)] w (AGot ((33 * ((z + 1) % 2):Nat):Int) ss roots (roots.getD y ⟨#[]⟩) (z + 1) w):=by
 intro w hB
 have HT':Hid (∀ w',Below w.heap.size w w' -> Calls prog 58 #[.slice a xs.length cap,.int .i64 (p:Int),.int .i64 24] w' fun e w''=>e=.returned (.tuple #[.int .i64 (x:Int),.int .i64 ((p + 1:Nat):Int)]) /\ Below w'.heap.size w' w''):=fun w' hb=>HT w' (hB.below hb)
 have HP':Hid (∀ w',Below w.heap.size w w' -> Calls prog 156 #[.slice a xs.length cap,.int .i64 ((p + 1:Nat):Int)] w' (PoolGot wd ss roots z w')):=fun w' hb=>HP w' (hB.below hb)
 have HA':Hid (∀ w',Below w.heap.size w w' -> Calls prog 58 #[.slice a xs.length cap,.int .i64 (z:Int),.int .i64 (roots.length:Int)] w' fun e w''=>e=.returned (.tuple #[.int .i64 (y:Int),.int .i64 ((z + 1:Nat):Int)]) /\ Below w'.heap.size w' w''):=fun w' hb=>HA w' (hB.below hb)
 unfold PoolGot at HP'
 clear HT HP HA hB
 have hrl:roots.length <= 4:=hr.len
 obtain ⟨L,hLL⟩:∃ L,xs.length=L:=⟨_,rfl⟩
 rw [hLL] at HT' HP' HA' ⊢
 obtain ⟨q1,hq1⟩:∃ q,p + 1=q:=⟨_,rfl⟩
 rw [hq1] at HT' HP'
 obtain ⟨q2,hq2⟩:∃ q,z + 1=q:=⟨_,rfl⟩
 rw [hq2] at HA'
 clear hq1 hLL
 obtain ⟨N,hN⟩:∃ N,ss.length=N:=⟨_,rfl⟩
 rw [hN] at HP'
 obtain ⟨R,hRn⟩:∃ R,roots.length=R:=⟨_,rfl⟩
 rw [hRn] at HP' HA' hrl
 have hA:Below w.heap.size w (w.alloc (.cells #[.int .i64 0,.slice none 0 0] 31)):=(Below.refl _ _).alloc (Nat.le_refl _) _
 have nA:=heap_alloc_new w (.cells #[.int .i64 0,.slice none 0 0] 31)
 have hgw:w.heap.size <= w.heap.size:=Nat.le_refl _
 go_enter func124,ntmps124
 go_upto_region 2 with fail
 generalize w.alloc (.cells #[.int .i64 0,.slice none 0 0] 31)=wA at hA nA ⊢
 obtain ⟨gr,hgr⟩:∃ g,w.heap.size=g:=⟨_,rfl⟩
 have hgl:w.heap.size <= gr:=Nat.le_of_eq hgr
 rw [hgr] at nA
 try rw [hgr]
 clear hgr hgw
 go_upto_region 3 with (first | (go_at_call 58;refine (HT'.out _ hA).mono ?_;rintro e w1 ⟨rfl,hb1⟩;have hbw1:=hA.trans (hb1.mono hA.size)))
 have nB:=pblk_below hb1 nA
 go_upto_region 4 with (first | (go_at_call 156;refine (HP'.out _ hbw1).mono ?_;rintro e w2 ⟨ap,cp,ar,cr,rfl,hS2,hO2,_⟩))
 have al:Below w2.heap.size w2 (w2.alloc (.cells #[.int .i64 (wd:Int),.slice ap N cp] 31)):=(Below.refl _ _).alloc (Nat.le_refl _) _
 have hbw2:=hbw1.trans (hO2.bel.mono hbw1.size)
 have nC:=pblk_below hO2.bel nB
 have hAP:AP w gr w2.heap.size (wd:Int) ss roots ap cp ar (w2.alloc (.cells #[.int .i64 (wd:Int),.slice ap N cp] 31)):=by
  refine ⟨pblk_below al nC,by rw [hN];exact heap_alloc_new w2 _,?_,hgl,hbw2.size,hS2.below al,?_,hbw2.trans (al.mono hbw2.size)⟩
  · have:=(Array.getElem?_eq_some_iff.1 nC).1
    omega
  · have h1:=hO2.below al
    rw [<- hRn] at h1
    exact h1.sarg hr (by omega) (by omega)
 generalize w2.alloc (.cells #[.int .i64 (wd:Int),.slice ap N cp] 31)=w3 at al hAP ⊢
 obtain ⟨gq,hgq⟩:∃ g,w2.heap.size=g:=⟨_,rfl⟩
 rw [hgq] at hAP
 try rw [hgq]
 clear hgq al hS2 hO2 nC nB nA hb1 hbw1 hbw2 hA HT' HP'
 have z1:decide ((15:Int) <= (x:Int))=true:=by simp;omega
 have z1':decide (15 <= x)=true:=by simp;omega
 have z1b:decide ((x:Int) < 22)=false:=by simp;omega
 have z1b':decide (x < 22)=false:=by simp;omega
 have z2:decide ((17:Int) <= (x:Int))=true:=by simp;omega
 have z2':decide (17 <= x)=true:=by simp;omega
 have z3:((x:Int) == 22)=false:=by simp;omega
 have z4:((x:Int) == 23)=true:=by simp;omega
 clear hx
 by_cases hRR:R=0
 · have hg0:roots.getD y ⟨#[]⟩=⟨#[]⟩:=by rw [List.getD_eq_getElem?_getD,List.getElem?_eq_none (by omega)];rfl
   have zR:decide ((0:Int) < (R:Int))=false:=by simp;omega
   have zR':decide (0 < R)=false:=by simp;omega
   have hRh:Hid (R=0):=hRR
   clear hRR
   go_upto_region 7 with (first | (go_at_call 58;refine (HA'.out _ hAP.bel).mono ?_;rintro e w4 ⟨rfl,hb4⟩))
   have hP4:=hAP.below hb4
   clear hAP hb4 HA'
   have hus:=hr.getD y
   have c0:=ZC hP4.pool 0
   have c1:=ZC hP4.pool 1
   rw [hN] at c0 c1
   have fq:∀ j,w4.frozen? ⟨gq,j,none⟩=false:=fun j=>by rw [World.frozen?,hP4.pool];rfl
   have ym:(q2:Int).tmod 2=((q2 % 2:Nat):Int):=by rw [Int.tmod_eq_emod_of_nonneg (by omega)];omega
   have hm2:q2 % 2 < 2:=Nat.mod_lt _ (by omega)
   obtain ⟨k2,hk2⟩:∃ k,q2 % 2=k:=⟨_,rfl⟩
   rw [hk2] at ym hm2
   have yw:IntKind.i64.wrap (33 * (k2:Int))=((33 * k2:Nat):Int):=by rw [wrap_i64_in _ (by omega) (by omega)];omega
   obtain ⟨k3,hk3⟩:∃ k,33 * k2=k:=⟨_,rfl⟩
   rw [hk3] at yw
   go_upto_region 16 with fail
   have hP5:=hP4.setw (k3:Int)
   clear hP4 c0 c1 fq
   generalize w4.setCell ⟨gq,0,none⟩ (.int .i64 (k3:Int))=w5 at hP5 ⊢
   have c0:=ZC hP5.pool 0
   have c1:=ZC hP5.pool 1
   rw [hN] at c0 c1
   have hfin:Hid (AGot _ ss roots ⟨#[]⟩ q2 w _ _):=hP5.fin ⟨#[]⟩ q2 cr
   have m1:=hP5.m1
   rw [hN,hRn] at hfin
   rw [hN] at m1
   have e0:=ZC hP5.res 0
   have e1:=ZC hP5.res 1
   have ef:∀ j,w5.frozen? ⟨gr,j,none⟩=false:=fun j=>by rw [World.frozen?,hP5.res];rfl
   clear hP5
   go_wp2_with fail
   exact retPT4 Tryz.results124 rfl rfl rfl rfl rfl m1 (by rw [hq2,hk2,hk3,hg0];exact hfin.out)
 · go_upto_region 7 with (first | (go_at_call 58;refine (HA'.out _ hAP.bel).mono ?_;rintro e w4 ⟨rfl,hb4⟩))
   have hP4:=hAP.below hb4
   clear hAP hb4 HA'
   have hRp:0 < R:=by omega
   have zR:decide ((0:Int) < (R:Int))=true:=by simp;omega
   have zR':decide (0 < R)=true:=by simp;omega
   have hyR:y < R:=(by have:=hy (by omega);omega)
   have hx0:(0:Int) <= (y:Int):=Int.natCast_nonneg _
   have hx1:(y:Int) < (R:Int):=by omega
   obtain ⟨b1,off1,rfl,hbl1,hc⟩:=hP4.rarg.at_ (by omega)
   have hc1:=hc y (by omega)
   clear hc
   obtain ⟨u,hu⟩:∃ u,roots.getD y ⟨#[]⟩=u:=⟨_,rfl⟩
   rw [hu] at hc1
   have hus:=hr.getD y
   have c0:=ZC hP4.pool 0
   have c1:=ZC hP4.pool 1
   rw [hN] at c0 c1
   have fq:∀ j,w4.frozen? ⟨gq,j,none⟩=false:=fun j=>by rw [World.frozen?,hP4.pool];rfl
   have ym:(q2:Int).tmod 2=((q2 % 2:Nat):Int):=by rw [Int.tmod_eq_emod_of_nonneg (by omega)];omega
   have hm2:q2 % 2 < 2:=Nat.mod_lt _ (by omega)
   obtain ⟨k2,hk2⟩:∃ k,q2 % 2=k:=⟨_,rfl⟩
   rw [hk2] at ym hm2
   have yw:IntKind.i64.wrap (33 * (k2:Int))=((33 * k2:Nat):Int):=by rw [wrap_i64_in _ (by omega) (by omega)];omega
   obtain ⟨k3,hk3⟩:∃ k,33 * k2=k:=⟨_,rfl⟩
   rw [hk3] at yw
   go_upto_region 16 with fail
   have hP5:=hP4.setw (k3:Int)
   clear hP4 c0 c1 fq
   generalize w4.setCell ⟨gq,0,none⟩ (.int .i64 (k3:Int))=w5 at hP5 ⊢
   have c0:=ZC hP5.pool 0
   have c1:=ZC hP5.pool 1
   rw [hN] at c0 c1
   have hfin:Hid (AGot _ ss roots u q2 w _ _):=hP5.fin u q2 cr
   have m1:=hP5.m1
   rw [hN,hRn] at hfin
   rw [hN] at m1
   have e0:=ZC hP5.res 0
   have e1:=ZC hP5.res 1
   have ef:∀ j,w5.frozen? ⟨gr,j,none⟩=false:=fun j=>by rw [World.frozen?,hP5.res];rfl
   clear hP5
   go_wp2_with fail
   exact retPT4 Tryz.results124 rfl rfl rfl rfl rfl m1 (by rw [hq2,hk2,hk3,hu];exact hfin.out)
theorem AP.made {w:World} {gr gq:Nat} {n n':Int} {m0 c0:Nat} {a0:Option Addr} {ss' roots':List ByteArray} {ap' ar':Option Addr} {cp':Nat} {W:World} (res:W.heap[gr]?=some (.cells #[.int .i64 0,.slice none 0 0] 31)) (pool:W.heap[gq]?=some (.cells #[.int .i64 n,.slice a0 m0 c0] 31)) (ne:gr ≠ gq) (ge:w.heap.size <= gr) (ge2:w.heap.size <= gq) (bel:Below w.heap.size w W) (h1:SArg ap' ss' W) (h2:SArg ar' roots' W):AP w gr gq n' ss' roots' ap' cp' ar' ((W.setCell ⟨gq,0,none⟩ (.int .i64 n')).setCell ⟨gq,1,none⟩ (.slice ap' ss'.length cp')):=by
 have m0:=heap_setCell_same W gq 0 _ 31 (.int .i64 n') pool
 exact ⟨(Below.heap_setCell _ _ _ _ (by show gr ≠ gq;exact ne)).trans ((Below.heap_setCell _ _ _ _ (by show gr ≠ gq;exact ne)).trans res),heap_setCell_same _ gq 1 _ 31 (.slice ap' ss'.length cp') m0,ne,ge,ge2,(h1.set37 pool _).set37 m0 _,(h2.set37 pool _).set37 m0 _,(bel.setCell (p:=⟨gq,0,none⟩) ge2 _).setCell (p:=⟨gq,1,none⟩) ge2 _⟩
theorem any_hurt1 (a:Option Addr) (xs:List Nat) (cap p x y wd z z2:Nat) (ss roots ss2 roots2:List ByteArray) (_hz:z2 <= 100000) (_hss:SmT ss 500 10000) (hr:SmT roots 4 32) (hr2:SmT roots2 5 32)
 (HT:∀ w,BL a xs w -> Calls prog 58 #[.slice a xs.length cap,.int .i64 (p:Int),.int .i64 24] w fun e w'=>e=.returned (.tuple #[.int .i64 (x:Int),.int .i64 ((p + 1:Nat):Int)]) /\ Below w.heap.size w w')
 (HP:∀ w,BL a xs w -> Calls prog 156 #[.slice a xs.length cap,.int .i64 ((p + 1:Nat):Int)] w (PoolGot wd ss roots z w))
 (HA:∀ w,BL a xs w -> Calls prog 58 #[.slice a xs.length cap,.int .i64 (z2:Int),.int .i64 (roots2.length:Int)] w fun e w'=>e=.returned (.tuple #[.int .i64 (y:Int),.int .i64 ((z2 + 1:Nat):Int)]) /\ Below w.heap.size w w') (HH:∀ w0 w ap cp ar cr,BL a xs w0 -> SArg ap ss w -> OwnT w0 roots ar roots.length cr w -> Calls prog 157 #[.slice a xs.length cap,.int .i64 (z:Int),.agg #[.int .i64 (wd:Int),.slice ap ss.length cp],.slice ar roots.length cr] w (HGot (fun q=>w.heap[q]?) (Value.slice ar roots.length cr).ownBlock w.heap.size wd ss2 roots2 z2 w0)) (hx:15 <= x /\ x < 17) (hy:0 < roots2.length -> y < roots2.length) :
 ∀ w,BL a xs w -> Calls prog 124 #[.slice a xs.length cap,.int .i64 (p:Int)] w (AGot (wd:Int) ss2 roots2 (roots2.getD y ⟨#[]⟩) (z2 + 1) w):=by
 intro w hB
 have HT':Hid (∀ w',Below w.heap.size w w' -> Calls prog 58 #[.slice a xs.length cap,.int .i64 (p:Int),.int .i64 24] w' fun e w''=>e=.returned (.tuple #[.int .i64 (x:Int),.int .i64 ((p + 1:Nat):Int)]) /\ Below w'.heap.size w' w''):=fun w' hb=>HT w' (hB.below hb)
 have HP':Hid (∀ w',Below w.heap.size w w' -> Calls prog 156 #[.slice a xs.length cap,.int .i64 ((p + 1:Nat):Int)] w' (PoolGot wd ss roots z w')):=fun w' hb=>HP w' (hB.below hb)
 have HA':Hid (∀ w',Below w.heap.size w w' -> Calls prog 58 #[.slice a xs.length cap,.int .i64 (z2:Int),.int .i64 (roots2.length:Int)] w' fun e w''=>e=.returned (.tuple #[.int .i64 (y:Int),.int .i64 ((z2 + 1:Nat):Int)]) /\ Below w'.heap.size w' w''):=fun w' hb=>HA w' (hB.below hb)
 unfold PoolGot at HP'
 unfold HGot at HH
 have hBh:Hid (BL a xs w):=hB
 clear HT HP HA hB
 have hrl:roots.length <= 4:=hr.len
 obtain ⟨L,hLL⟩:∃ L,xs.length=L:=⟨_,rfl⟩
 rw [hLL] at HT' HP' HA' HH ⊢
 obtain ⟨q1,hq1⟩:∃ q,p + 1=q:=⟨_,rfl⟩
 rw [hq1] at HT' HP'
 obtain ⟨q2,hq2⟩:∃ q,z2 + 1=q:=⟨_,rfl⟩
 rw [hq2] at HA'
 clear hq1 hLL
 obtain ⟨N,hN⟩:∃ N,ss.length=N:=⟨_,rfl⟩
 rw [hN] at HP' HH
 obtain ⟨R,hRn⟩:∃ R,roots.length=R:=⟨_,rfl⟩
 rw [hRn] at HP' HH hrl
 obtain ⟨N2,hN2⟩:∃ N,ss2.length=N:=⟨_,rfl⟩
 rw [hN2] at HH
 obtain ⟨R2,hRn2⟩:∃ R,roots2.length=R:=⟨_,rfl⟩
 have hrl2:roots2.length <= 5:=hr2.len
 rw [hRn2] at HH HA' hrl2
 have HHh:Hid (∀ w0 w ap cp ar cr,BL a xs w0 -> SArg ap ss w -> OwnT w0 roots ar R cr w -> Calls prog 157 #[.slice a L cap,.int .i64 (z:Int),.agg #[.int .i64 (wd:Int),.slice ap N cp],.slice ar R cr] w fun e w'=>∃ ap2 cp2 ar2 cr2,e=.returned (.tuple #[.agg #[.int .i64 (wd:Int),.slice ap2 N2 cp2],.slice ar2 R2 cr2,.int .i64 (z2:Int)]) /\ SArg ap2 ss2 w' /\ SArg ar2 roots2 w' /\ Below w0.heap.size w0 w' /\ ∀ q,q < w.heap.size -> (Value.slice ar R cr).ownBlock ≠ some q -> w'.heap[q]?=w.heap[q]?):=HH
 clear HH
 have hA:Below w.heap.size w (w.alloc (.cells #[.int .i64 0,.slice none 0 0] 31)):=(Below.refl _ _).alloc (Nat.le_refl _) _
 have nA:=heap_alloc_new w (.cells #[.int .i64 0,.slice none 0 0] 31)
 have hgw:w.heap.size <= w.heap.size:=Nat.le_refl _
 go_enter func124,ntmps124
 go_upto_region 2 with fail
 generalize w.alloc (.cells #[.int .i64 0,.slice none 0 0] 31)=wA at hA nA ⊢
 obtain ⟨gr,hgr⟩:∃ g,w.heap.size=g:=⟨_,rfl⟩
 have hgl:w.heap.size <= gr:=Nat.le_of_eq hgr
 rw [hgr] at nA
 try rw [hgr]
 clear hgr hgw
 go_upto_region 3 with (first | (go_at_call 58;refine (HT'.out _ hA).mono ?_;rintro e w1 ⟨rfl,hb1⟩;have hbw1:=hA.trans (hb1.mono hA.size)))
 have nB:=pblk_below hb1 nA
 go_upto_region 4 with (first | (go_at_call 156;refine (HP'.out _ hbw1).mono ?_;rintro e w2 ⟨ap,cp,ar,cr,rfl,hS2,hO2,_⟩))
 have al:Below w2.heap.size w2 (w2.alloc (.cells #[.int .i64 (wd:Int),.slice ap N cp] 31)):=(Below.refl _ _).alloc (Nat.le_refl _) _
 have hbw2:=hbw1.trans (hO2.bel.mono hbw1.size)
 have nC:=pblk_below hO2.bel nB
 have hO3:=hO2.below al
 have hH3:=HHh.out w1 _ ap cp ar cr (hBh.out.below hbw1) (hS2.below al) hO3
 have exr:∀ b,(Value.slice ar R cr).ownBlock=some b -> gr ≠ b /\ w2.heap.size ≠ b:=fun b hb=>by
  have h1:=(ownG_cells hO2.own hb).1
  have h2:=(ownG_cells hO2.own hb).2.1
  have h3:=(Array.getElem?_eq_some_iff.1 nB).1
  constructor <;> omega
 have exr1:(Value.slice ar R cr).ownBlock ≠ some gr:=fun q=>(exr _ q).1 rfl
 have exr2:(Value.slice ar R cr).ownBlock ≠ some w2.heap.size:=fun q=>(exr _ q).2 rfl
 have nR:=pblk_below al nC
 have nP:(w2.alloc (.cells #[.int .i64 (wd:Int),.slice ap N cp] 31)).heap[w2.heap.size]?=some (.cells #[.int .i64 (wd:Int),.slice ap N cp] 31):=heap_alloc_new w2 _
 have ne:gr ≠ w2.heap.size:=by
  have:=(Array.getElem?_eq_some_iff.1 nC).1
  omega
 have ge2:w.heap.size <= w2.heap.size:=hbw2.size
 generalize w2.alloc (.cells #[.int .i64 (wd:Int),.slice ap N cp] 31)=w3 at hH3 nR nP ⊢
 have bR:=(Array.getElem?_eq_some_iff.1 nR).1
 have bP:=(Array.getElem?_eq_some_iff.1 nP).1
 obtain ⟨gq,hgq⟩:∃ g,w2.heap.size=g:=⟨_,rfl⟩
 rw [hgq] at nP ne ge2 exr2 bP
 try rw [hgq]
 have hH4:Hid (Calls prog 157 #[.slice a L cap,.int .i64 (z:Int),.agg #[.int .i64 (wd:Int),.slice ap N cp],.slice ar R cr] w3 fun e w'=>∃ ap2 cp2 ar2 cr2,e=.returned (.tuple #[.agg #[.int .i64 (wd:Int),.slice ap2 N2 cp2],.slice ar2 R2 cr2,.int .i64 (z2:Int)]) /\ SArg ap2 ss2 w' /\ SArg ar2 roots2 w' /\ Below w1.heap.size w1 w' /\ w'.heap[gr]?=some (.cells #[.int .i64 0,.slice none 0 0] 31) /\ w'.heap[gq]?=some (.cells #[.int .i64 (wd:Int),.slice ap N cp] 31)):=hH3.mono (by
  rintro e w' ⟨ap2,cp2,ar2,cr2,rfl,h1,h2,h3,h4⟩
  exact ⟨ap2,cp2,ar2,cr2,rfl,h1,h2,h3,(h4 gr bR exr1).trans nR,(h4 gq bP exr2).trans nP⟩)
 clear hgq al hS2 hO2 nC nB nA hb1 hbw2 hA HT' HP' hH3 hO3 exr exr1 exr2 HHh hBh bR bP
 have c0:=ZC nP 0
 have c1:=ZC nP 1
 have z1:decide ((15:Int) <= (x:Int))=true:=by simp;omega
 have z1':decide (15 <= x)=true:=by simp;omega
 have z1b:decide ((x:Int) < 22)=true:=by simp;omega
 have z1b':decide (x < 22)=true:=by simp;omega
 have z2:decide ((17:Int) <= (x:Int))=false:=by simp;omega
 have z2':decide (17 <= x)=false:=by simp;omega
 have z3:((x:Int) == 22)=false:=by simp;omega
 have z4:((x:Int) == 23)=false:=by simp;omega
 clear hx
 go_upto_region 6 with (first | (go_at_call 157;refine hH4.out.mono ?_;rintro e w4 ⟨ap2,cp2,ar2,cr2,rfl,hS4,hR4,hb4,nR4,nP4⟩;have d0:=ZC nP4 0;have d1:=ZC nP4 1;have df:∀ j,w4.frozen? ⟨gq,j,none⟩=false:=fun j=>(by rw [World.frozen?,nP4];rfl)))
 have hbw4:=hbw1.trans (hb4.mono hbw1.size)
 have hAP:AP w gr gq (wd:Int) ss2 roots2 ap2 cp2 ar2 _:=AP.made nR4 nP4 ne hgl ge2 hbw4 hS4 hR4
 rw [hN2] at hAP
 generalize (w4.setCell ⟨gq,0,none⟩ (.int .i64 (wd:Int))).setCell ⟨gq,1,none⟩ (.slice ap2 N2 cp2)=w5 at hAP ⊢
 clear hbw4 nR4 nP4 d0 d1 df hS4 hR4 hb4 c0 c1 hH4 nR nP ne ge2 hbw1
 by_cases hRR:R2=0
 · have hg0:roots2.getD y ⟨#[]⟩=⟨#[]⟩:=by rw [List.getD_eq_getElem?_getD,List.getElem?_eq_none (by omega)];rfl
   have zR:decide ((0:Int) < (R2:Int))=false:=by simp;omega
   have zR':decide (0 < R2)=false:=by simp;omega
   have hRh:Hid (R2=0):=hRR
   clear hRR
   go_upto_region 7 with (first | (go_at_call 58;refine (HA'.out _ hAP.bel).mono ?_;rintro e w4 ⟨rfl,hb4⟩))
   have hP4:=hAP.below hb4
   clear hAP hb4 HA'
   have hus:=hr2.getD y
   have c0:=ZC hP4.pool 0
   have c1:=ZC hP4.pool 1
   rw [hN2] at c0 c1
   have hfin:Hid (AGot _ ss2 roots2 ⟨#[]⟩ q2 w _ _):=hP4.fin ⟨#[]⟩ q2 cr2
   have m1:=hP4.m1
   rw [hN2,hRn2] at hfin
   rw [hN2] at m1
   have e0:=ZC hP4.res 0
   have e1:=ZC hP4.res 1
   have ef:∀ j,w4.frozen? ⟨gr,j,none⟩=false:=fun j=>by rw [World.frozen?,hP4.res];rfl
   clear hP4
   go_wp2_with fail
   exact retPT4 Tryz.results124 rfl rfl rfl rfl rfl m1 (by rw [hq2,hg0];exact hfin.out)
 · go_upto_region 7 with (first | (go_at_call 58;refine (HA'.out _ hAP.bel).mono ?_;rintro e w4 ⟨rfl,hb4⟩))
   have hP4:=hAP.below hb4
   clear hAP hb4 HA'
   have hRp:0 < R2:=by omega
   have zR:decide ((0:Int) < (R2:Int))=true:=by simp;omega
   have zR':decide (0 < R2)=true:=by simp;omega
   have hyR:y < R2:=(by have:=hy (by omega);omega)
   have hx0:(0:Int) <= (y:Int):=Int.natCast_nonneg _
   have hx1:(y:Int) < (R2:Int):=by omega
   obtain ⟨b1,off1,rfl,hbl1,hc⟩:=hP4.rarg.at_ (by omega)
   have hc1:=hc y (by omega)
   clear hc
   obtain ⟨u,hu⟩:∃ u,roots2.getD y ⟨#[]⟩=u:=⟨_,rfl⟩
   rw [hu] at hc1
   have hus:=hr2.getD y
   have c0:=ZC hP4.pool 0
   have c1:=ZC hP4.pool 1
   rw [hN2] at c0 c1
   have hfin:Hid (AGot _ ss2 roots2 u q2 w _ _):=hP4.fin u q2 cr2
   have m1:=hP4.m1
   rw [hN2,hRn2] at hfin
   rw [hN2] at m1
   have e0:=ZC hP4.res 0
   have e1:=ZC hP4.res 1
   have ef:∀ j,w4.frozen? ⟨gr,j,none⟩=false:=fun j=>by rw [World.frozen?,hP4.res];rfl
   clear hP4
   go_wp2_with fail
   exact retPT4 Tryz.results124 rfl rfl rfl rfl rfl m1 (by rw [hq2,hu];exact hfin.out)
theorem any_hurt2 (a:Option Addr) (xs:List Nat) (cap p x y wd z z2:Nat) (ss roots ss2 roots2:List ByteArray) (_hz:z2 <= 100000) (_hss:SmT ss 500 10000) (hr:SmT roots 4 32) (hr2:SmT roots2 5 32)
 (HT:∀ w,BL a xs w -> Calls prog 58 #[.slice a xs.length cap,.int .i64 (p:Int),.int .i64 24] w fun e w'=>e=.returned (.tuple #[.int .i64 (x:Int),.int .i64 ((p + 1:Nat):Int)]) /\ Below w.heap.size w w')
 (HP:∀ w,BL a xs w -> Calls prog 156 #[.slice a xs.length cap,.int .i64 ((p + 1:Nat):Int)] w (PoolGot wd ss roots z w))
 (HA:∀ w,BL a xs w -> Calls prog 58 #[.slice a xs.length cap,.int .i64 (z2:Int),.int .i64 (roots2.length:Int)] w fun e w'=>e=.returned (.tuple #[.int .i64 (y:Int),.int .i64 ((z2 + 1:Nat):Int)]) /\ Below w.heap.size w w') (HH:∀ w0 w ap cp ar cr,BL a xs w0 -> SArg ap ss w -> OwnT w0 roots ar roots.length cr w -> Calls prog 157 #[.slice a xs.length cap,.int .i64 (z:Int),.agg #[.int .i64 (wd:Int),.slice ap ss.length cp],.slice ar roots.length cr] w (HGot (fun q=>w.heap[q]?) (Value.slice ar roots.length cr).ownBlock w.heap.size wd ss2 roots2 z2 w0)) (hx:17 <= x /\ x < 22) (hy:0 < roots2.length -> y < roots2.length) :
 ∀ w,BL a xs w -> Calls prog 124 #[.slice a xs.length cap,.int .i64 (p:Int)] w (AGot (wd:Int) ss2 roots2 (roots2.getD (roots2.length - 1) ⟨#[]⟩) (z2 + 1) w):=by
 intro w hB
 have HT':Hid (∀ w',Below w.heap.size w w' -> Calls prog 58 #[.slice a xs.length cap,.int .i64 (p:Int),.int .i64 24] w' fun e w''=>e=.returned (.tuple #[.int .i64 (x:Int),.int .i64 ((p + 1:Nat):Int)]) /\ Below w'.heap.size w' w''):=fun w' hb=>HT w' (hB.below hb)
 have HP':Hid (∀ w',Below w.heap.size w w' -> Calls prog 156 #[.slice a xs.length cap,.int .i64 ((p + 1:Nat):Int)] w' (PoolGot wd ss roots z w')):=fun w' hb=>HP w' (hB.below hb)
 have HA':Hid (∀ w',Below w.heap.size w w' -> Calls prog 58 #[.slice a xs.length cap,.int .i64 (z2:Int),.int .i64 (roots2.length:Int)] w' fun e w''=>e=.returned (.tuple #[.int .i64 (y:Int),.int .i64 ((z2 + 1:Nat):Int)]) /\ Below w'.heap.size w' w''):=fun w' hb=>HA w' (hB.below hb)
 unfold PoolGot at HP'
 unfold HGot at HH
 have hBh:Hid (BL a xs w):=hB
 clear HT HP HA hB
 have hrl:roots.length <= 4:=hr.len
 obtain ⟨L,hLL⟩:∃ L,xs.length=L:=⟨_,rfl⟩
 rw [hLL] at HT' HP' HA' HH ⊢
 obtain ⟨q1,hq1⟩:∃ q,p + 1=q:=⟨_,rfl⟩
 rw [hq1] at HT' HP'
 obtain ⟨q2,hq2⟩:∃ q,z2 + 1=q:=⟨_,rfl⟩
 rw [hq2] at HA'
 clear hq1 hLL
 obtain ⟨N,hN⟩:∃ N,ss.length=N:=⟨_,rfl⟩
 rw [hN] at HP' HH
 obtain ⟨R,hRn⟩:∃ R,roots.length=R:=⟨_,rfl⟩
 rw [hRn] at HP' HH hrl
 obtain ⟨N2,hN2⟩:∃ N,ss2.length=N:=⟨_,rfl⟩
 rw [hN2] at HH
 obtain ⟨R2,hRn2⟩:∃ R,roots2.length=R:=⟨_,rfl⟩
 have hrl2:roots2.length <= 5:=hr2.len
 rw [hRn2] at HH HA' hrl2
 have HHh:Hid (∀ w0 w ap cp ar cr,BL a xs w0 -> SArg ap ss w -> OwnT w0 roots ar R cr w -> Calls prog 157 #[.slice a L cap,.int .i64 (z:Int),.agg #[.int .i64 (wd:Int),.slice ap N cp],.slice ar R cr] w fun e w'=>∃ ap2 cp2 ar2 cr2,e=.returned (.tuple #[.agg #[.int .i64 (wd:Int),.slice ap2 N2 cp2],.slice ar2 R2 cr2,.int .i64 (z2:Int)]) /\ SArg ap2 ss2 w' /\ SArg ar2 roots2 w' /\ Below w0.heap.size w0 w' /\ ∀ q,q < w.heap.size -> (Value.slice ar R cr).ownBlock ≠ some q -> w'.heap[q]?=w.heap[q]?):=HH
 clear HH
 have hA:Below w.heap.size w (w.alloc (.cells #[.int .i64 0,.slice none 0 0] 31)):=(Below.refl _ _).alloc (Nat.le_refl _) _
 have nA:=heap_alloc_new w (.cells #[.int .i64 0,.slice none 0 0] 31)
 have hgw:w.heap.size <= w.heap.size:=Nat.le_refl _
 go_enter func124,ntmps124
 go_upto_region 2 with fail
 generalize w.alloc (.cells #[.int .i64 0,.slice none 0 0] 31)=wA at hA nA ⊢
 obtain ⟨gr,hgr⟩:∃ g,w.heap.size=g:=⟨_,rfl⟩
 have hgl:w.heap.size <= gr:=Nat.le_of_eq hgr
 rw [hgr] at nA
 try rw [hgr]
 clear hgr hgw
 go_upto_region 3 with (first | (go_at_call 58;refine (HT'.out _ hA).mono ?_;rintro e w1 ⟨rfl,hb1⟩;have hbw1:=hA.trans (hb1.mono hA.size)))
 have nB:=pblk_below hb1 nA
 go_upto_region 4 with (first | (go_at_call 156;refine (HP'.out _ hbw1).mono ?_;rintro e w2 ⟨ap,cp,ar,cr,rfl,hS2,hO2,_⟩))
 have al:Below w2.heap.size w2 (w2.alloc (.cells #[.int .i64 (wd:Int),.slice ap N cp] 31)):=(Below.refl _ _).alloc (Nat.le_refl _) _
 have hbw2:=hbw1.trans (hO2.bel.mono hbw1.size)
 have nC:=pblk_below hO2.bel nB
 have hO3:=hO2.below al
 have hH3:=HHh.out w1 _ ap cp ar cr (hBh.out.below hbw1) (hS2.below al) hO3
 have exr:∀ b,(Value.slice ar R cr).ownBlock=some b -> gr ≠ b /\ w2.heap.size ≠ b:=fun b hb=>by
  have h1:=(ownG_cells hO2.own hb).1
  have h2:=(ownG_cells hO2.own hb).2.1
  have h3:=(Array.getElem?_eq_some_iff.1 nB).1
  constructor <;> omega
 have exr1:(Value.slice ar R cr).ownBlock ≠ some gr:=fun q=>(exr _ q).1 rfl
 have exr2:(Value.slice ar R cr).ownBlock ≠ some w2.heap.size:=fun q=>(exr _ q).2 rfl
 have nR:=pblk_below al nC
 have nP:(w2.alloc (.cells #[.int .i64 (wd:Int),.slice ap N cp] 31)).heap[w2.heap.size]?=some (.cells #[.int .i64 (wd:Int),.slice ap N cp] 31):=heap_alloc_new w2 _
 have ne:gr ≠ w2.heap.size:=by
  have:=(Array.getElem?_eq_some_iff.1 nC).1
  omega
 have ge2:w.heap.size <= w2.heap.size:=hbw2.size
 generalize w2.alloc (.cells #[.int .i64 (wd:Int),.slice ap N cp] 31)=w3 at hH3 nR nP ⊢
 have bR:=(Array.getElem?_eq_some_iff.1 nR).1
 have bP:=(Array.getElem?_eq_some_iff.1 nP).1
 obtain ⟨gq,hgq⟩:∃ g,w2.heap.size=g:=⟨_,rfl⟩
 rw [hgq] at nP ne ge2 exr2 bP
 try rw [hgq]
 have hH4:Hid (Calls prog 157 #[.slice a L cap,.int .i64 (z:Int),.agg #[.int .i64 (wd:Int),.slice ap N cp],.slice ar R cr] w3 fun e w'=>∃ ap2 cp2 ar2 cr2,e=.returned (.tuple #[.agg #[.int .i64 (wd:Int),.slice ap2 N2 cp2],.slice ar2 R2 cr2,.int .i64 (z2:Int)]) /\ SArg ap2 ss2 w' /\ SArg ar2 roots2 w' /\ Below w1.heap.size w1 w' /\ w'.heap[gr]?=some (.cells #[.int .i64 0,.slice none 0 0] 31) /\ w'.heap[gq]?=some (.cells #[.int .i64 (wd:Int),.slice ap N cp] 31)):=hH3.mono (by
  rintro e w' ⟨ap2,cp2,ar2,cr2,rfl,h1,h2,h3,h4⟩
  exact ⟨ap2,cp2,ar2,cr2,rfl,h1,h2,h3,(h4 gr bR exr1).trans nR,(h4 gq bP exr2).trans nP⟩)
 clear hgq al hS2 hO2 nC nB nA hb1 hbw2 hA HT' HP' hH3 hO3 exr exr1 exr2 HHh hBh bR bP
 have c0:=ZC nP 0
 have c1:=ZC nP 1
 have z1:decide ((15:Int) <= (x:Int))=true:=by simp;omega
 have z1':decide (15 <= x)=true:=by simp;omega
 have z1b:decide ((x:Int) < 22)=true:=by simp;omega
 have z1b':decide (x < 22)=true:=by simp;omega
 have z2:decide ((17:Int) <= (x:Int))=true:=by simp;omega
 have z2':decide (17 <= x)=true:=by simp;omega
 have z3:((x:Int) == 22)=false:=by simp;omega
 have z4:((x:Int) == 23)=false:=by simp;omega
 clear hx
 go_upto_region 6 with (first | (go_at_call 157;refine hH4.out.mono ?_;rintro e w4 ⟨ap2,cp2,ar2,cr2,rfl,hS4,hR4,hb4,nR4,nP4⟩;have d0:=ZC nP4 0;have d1:=ZC nP4 1;have df:∀ j,w4.frozen? ⟨gq,j,none⟩=false:=fun j=>(by rw [World.frozen?,nP4];rfl)))
 have hbw4:=hbw1.trans (hb4.mono hbw1.size)
 have hAP:AP w gr gq (wd:Int) ss2 roots2 ap2 cp2 ar2 _:=AP.made nR4 nP4 ne hgl ge2 hbw4 hS4 hR4
 rw [hN2] at hAP
 generalize (w4.setCell ⟨gq,0,none⟩ (.int .i64 (wd:Int))).setCell ⟨gq,1,none⟩ (.slice ap2 N2 cp2)=w5 at hAP ⊢
 clear hbw4 nR4 nP4 d0 d1 df hS4 hR4 hb4 c0 c1 hH4 nR nP ne ge2 hbw1
 by_cases hRR:R2=0
 · have hg0:roots2.getD (roots2.length - 1) ⟨#[]⟩=⟨#[]⟩:=by rw [List.getD_eq_getElem?_getD,List.getElem?_eq_none (by omega)];rfl
   have zR:decide ((0:Int) < (R2:Int))=false:=by simp;omega
   have zR':decide (0 < R2)=false:=by simp;omega
   have hRh:Hid (R2=0):=hRR
   clear hRR
   go_upto_region 7 with (first | (go_at_call 58;refine (HA'.out _ hAP.bel).mono ?_;rintro e w4 ⟨rfl,hb4⟩))
   have hP4:=hAP.below hb4
   clear hAP hb4 HA'
   have hus:=hr2.getD y
   have c0:=ZC hP4.pool 0
   have c1:=ZC hP4.pool 1
   rw [hN2] at c0 c1
   have hfin:Hid (AGot _ ss2 roots2 ⟨#[]⟩ q2 w _ _):=hP4.fin ⟨#[]⟩ q2 cr2
   have m1:=hP4.m1
   rw [hN2,hRn2] at hfin
   rw [hN2] at m1
   have e0:=ZC hP4.res 0
   have e1:=ZC hP4.res 1
   have ef:∀ j,w4.frozen? ⟨gr,j,none⟩=false:=fun j=>by rw [World.frozen?,hP4.res];rfl
   clear hP4
   go_wp2_with fail
   exact retPT4 Tryz.results124 rfl rfl rfl rfl rfl m1 (by rw [hq2,hg0];exact hfin.out)
 · go_upto_region 7 with (first | (go_at_call 58;refine (HA'.out _ hAP.bel).mono ?_;rintro e w4 ⟨rfl,hb4⟩))
   have hP4:=hAP.below hb4
   clear hAP hb4 HA'
   have hRp:0 < R2:=by omega
   have zR:decide ((0:Int) < (R2:Int))=true:=by simp;omega
   have zR':decide (0 < R2)=true:=by simp;omega
   have hyR:y < R2:=(by have:=hy (by omega);omega)
   have hx0:(0:Int) <= (y:Int):=Int.natCast_nonneg _
   have hx1:(y:Int) < (R2:Int):=by omega
   obtain ⟨b1,off1,rfl,hbl1,hc⟩:=hP4.rarg.at_ (by omega)
   have hc1:=hc y (by omega)
   obtain ⟨k,hk⟩:∃ k,R2 - 1=k:=⟨_,rfl⟩
   have hk0:(0:Int) <= (k:Int):=Int.natCast_nonneg _
   have hk1:(k:Int) < (R2:Int):=by omega
   have yk:IntKind.i64.wrap ((R2:Int) - 1)=(k:Int):=by rw [wrap_i64_in _ (by omega) (by omega)];omega
   have hc2:=hc k (by omega)
   obtain ⟨v,hv⟩:∃ v,roots2.getD k ⟨#[]⟩=v:=⟨_,rfl⟩
   rw [hv] at hc2
   clear hc
   obtain ⟨u,hu⟩:∃ u,roots2.getD y ⟨#[]⟩=u:=⟨_,rfl⟩
   rw [hu] at hc1
   have hus:=hr2.getD y
   have c0:=ZC hP4.pool 0
   have c1:=ZC hP4.pool 1
   rw [hN2] at c0 c1
   have hfin:Hid (AGot _ ss2 roots2 v q2 w _ _):=hP4.fin v q2 cr2
   have m1:=hP4.m1
   rw [hN2,hRn2] at hfin
   rw [hN2] at m1
   have e0:=ZC hP4.res 0
   have e1:=ZC hP4.res 1
   have ef:∀ j,w4.frozen? ⟨gr,j,none⟩=false:=fun j=>by rw [World.frozen?,hP4.res];rfl
   clear hP4
   go_wp2_with fail
   exact retPT4 Tryz.results124 rfl rfl rfl rfl rfl m1 (by rw [hq2,hRn2,hk,hv];exact hfin.out)
theorem any_det (HDg:Hid DigSaid) (a:Option Addr) (xs:List Nat) (cap p:Nat) (hX:Code8 xs) (hp:p <= 40000) :
 ∃ (n:Int) (ss roots:List ByteArray) (root:ByteArray) (z:Nat),(0 <= n /\ n <= 33 /\ SmT ss 501 10001 /\ SmT roots 5 32 /\ root.size <= 33 /\ z <= p + 210) /\ ∀ w,BL a xs w -> Calls prog 124 #[.slice a xs.length cap,.int .i64 (p:Int)] w (AGot n ss roots root z w):=by
 obtain ⟨x,hx,HT⟩:=take_det a xs cap p 24 hX (by omega) (by omega) (by omega)
 obtain ⟨wd,ss,roots,z,⟨hw1,hw2,hss,hr,hz⟩,HP⟩:=pool_det HDg a xs cap (p + 1) hX (by omega)
 have hrl:=hr.len
 have hss5:SmT ss 501 10001:=⟨Nat.le_trans hss.len (by omega),fun x hx=>Nat.le_trans (hss.sz x hx) (by omega)⟩
 have hr5:SmT roots 5 32:=⟨Nat.le_trans hr.len (by omega),hr.sz⟩
 by_cases hh:15 <= x /\ x < 22
 · obtain ⟨ss2,roots2,z2,⟨hs2,hr2,hz2⟩,HH⟩:=hurt_det HDg a xs cap z wd ss roots hX (by omega) hw1 hw2 hss hr
   have hrl2:=hr2.len
   obtain ⟨y,hy,_,HA⟩:=take0_det a xs cap z2 roots2.length hX (by omega) (by omega)
   by_cases h17:x < 17
   · exact ⟨(wd:Int),ss2,roots2,_,z2 + 1,⟨by omega,by omega,hs2,hr2,Nat.le_trans (hr2.getD _) (by omega),by omega⟩,any_hurt1 a xs cap p x y wd z z2 ss roots ss2 roots2 (by omega) hss hr hr2 HT HP HA HH ⟨hh.1,h17⟩ hy⟩
   · exact ⟨(wd:Int),ss2,roots2,_,z2 + 1,⟨by omega,by omega,hs2,hr2,Nat.le_trans (hr2.getD _) (by omega),by omega⟩,any_hurt2 a xs cap p x y wd z z2 ss roots ss2 roots2 (by omega) hss hr hr2 HT HP HA HH ⟨by omega,hh.2⟩ hy⟩
 · obtain ⟨y,hy,_,HA⟩:=take0_det a xs cap z roots.length hX (by omega) (by omega)
   by_cases h22:x=22
   · have hg:=hr.getD y
     exact ⟨(wd:Int),ss,roots,_,z + 1,⟨by omega,by omega,hss5,hr5,by rw [ByteArray.size_append];show _ + 1 <= 33;omega,by omega⟩,any_x a xs cap p x y wd z ss roots (by omega) hss hr HT HP HA h22 hy⟩
   · by_cases h23:x=23
     · have hm:(z + 1) % 2 < 2:=Nat.mod_lt _ (by omega)
       exact ⟨_,ss,roots,_,z + 1,⟨by omega,by omega,hss5,hr5,Nat.le_trans (hr.getD _) (by omega),by omega⟩,any_w a xs cap p x y wd z ss roots (by omega) hss hr HT HP HA h23 hy⟩
     · exact ⟨(wd:Int),ss,roots,_,z + 1,⟨by omega,by omega,hss5,hr5,Nat.le_trans (hr.getD _) (by omega),by omega⟩,any_low a xs cap p x y wd z ss roots (by omega) hss hr HT HP HA (by omega) hy⟩
end Go.Proofs.YtibjhkpgaaapaaaGreatDoor
