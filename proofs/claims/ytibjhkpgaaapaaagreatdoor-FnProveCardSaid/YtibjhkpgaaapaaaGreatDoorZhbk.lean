import Derived.Test.YtibjhkpgaaapaaaGreatDoorZhbj
import Derived.Test.YtibjhkpgaaapaaaGreatDoorZhax
set_option maxRecDepth 100000
set_option maxHeartbeats 4000000
namespace Go.Proofs.YtibjhkpgaaapaaaGreatDoor
open Go.RowKit Go.Proofs.Sha Tryz
theorem retPT {fn:Func} {R:Ending -> World -> Prop} {A:Act} {p q r:Tmp} {gb:Nat} {n:Int} {a:Option Addr} {m c:Nat} {v2 v3:Value} {W:World} (hres:fn.results=#[.cell p 31,.tmp q,.tmp r]) (hp:A.tmps.getD p undef=.pointer (some ⟨gb,0,none⟩)) (hq:A.tmps.getD q undef=v2) (hr:A.tmps.getD r undef=v3) (hd:A.defers=[]) (hn:W.heap[gb]?=some (.cells #[.int .i64 n,.slice a m c] 31))
 (h:R (.returned (.tuple #[.agg #[.int .i64 n,.slice a m c],v2,v3])) W):bodyPost prog fn R Exit.ret A W:=by
 have c0:=ZC hn 0
 have c1:=ZC hn 1
 have hp':A.tmps[p]?.getD undef=.pointer (some ⟨gb,0,none⟩):=by simpa using hp
 have hq':A.tmps[q]?.getD undef=v2:=by simpa using hq
 have hr':A.tmps[r]?.getD undef=v3:=by simpa using hr
 refine bodyPost_ret (v:=.tuple #[.agg #[.int .i64 n,.slice a m c],v2,v3]) ?_ hd h
 simp [results,hres,go_sem,asAddr,hp',hq',hr',c0,c1]
def PoolGot (wd:Nat) (ss roots:List ByteArray) (z:Nat) (w:World) (e:Ending) (w':World):Prop:=∃ ap cp ar cr,e=.returned (.tuple #[.agg #[.int .i64 (wd:Int),.slice ap ss.length cp],.slice ar roots.length cr,.int .i64 (z:Int)]) /\ SArg ap ss w' /\ OwnT w roots ar roots.length cr w' /\ ∀ b off,ap=some ⟨b,off,none⟩ -> 0 < ss.length -> (Value.slice ar roots.length cr).ownBlock ≠ some b
theorem pool_inv {wd:Nat} (h2:wd <= 32) {nf:List PairT × Nat × Nat -> List PairT × Nat} {z0:Nat} {s0:PSt} (h0:PInv z0 0 s0) (hnf:∀ x:List PairT × Nat × Nat,SmP x.1 x.2.2 -> x.2.1 <= 70000 -> x.2.2 <= 1000 -> SmP (nf x).1 (x.2.2 + 3) /\ (nf x).2 <= x.2.1 + 13) (hz:z0 <= 60000):∀ i,i <= 10 -> PInv z0 i (stP wd nf s0 i)
 | 0,_=>h0
 | i + 1,hi=>by
  have ih:=pool_inv h2 h0 hnf hz i (by omega)
  obtain ⟨n1,n2⟩:=hnf ((stP wd nf s0 i).ps,(stP wd nf s0 i).z,14 + 3 * i) ih.ps (by have:=ih.z;show (stP wd nf s0 i).z <= _;omega) (by show 14 + 3 * i <= _;omega)
  rw [stP]
  refine ⟨n1,?_,?_,?_⟩
  · have:=ih.z
    show (nf _).2 <= _
    simp only at n2
    omega
  · show SmT (if _ then _ else _) _ _
    split
    · rename_i hc
      have:=(saveO_ok h2 ih.ss ih.ps.len hc).1
      exact ⟨by have:=this.len;omega,this.sz⟩
    · exact ⟨by have:=ih.ss.len;omega,ih.ss.sz⟩
  · show SmT (if _ then _ else _) _ _
    split
    · rename_i hc
      exact ih.roots.app ⟨Nat.le_refl _,fun x hx=>by rw [List.mem_singleton.1 hx];exact (saveO_ok h2 ih.ss ih.ps.len hc).2.1⟩
    · exact ⟨by have:=ih.roots.len;omega,ih.roots.sz⟩
theorem pool_det (HD:Hid DigSaid) (a:Option Addr) (xs:List Nat) (cap p:Nat) (hX:Code8 xs) (hp:p <= 50000) :
 ∃ (wd:Nat) (ss roots:List ByteArray) (z:Nat),(1 <= wd /\ wd <= 32 /\ SmT ss 500 10000 /\ SmT roots 4 32 /\ z <= p + 200) /\ ∀ w,BL a xs w -> Calls prog 156 #[.slice a xs.length cap,.int .i64 (p:Int)] w (PoolGot wd ss roots z w):=by
 obtain ⟨wd,⟨hw1,hw2⟩,HWd⟩:=width_det a xs cap p hX (by omega)
 obtain ⟨n,hn,HN⟩:=take_det a xs cap (p + 1) 4 hX (by omega) (by omega) (by omega)
 have hL:=hX.le
 obtain ⟨K,hK⟩:∃ K,(if 14 < 2 + xs.length / 8 then 14 else 2 + xs.length / 8)=K:=⟨_,rfl⟩
 have hKb:K <= 14:=by rw [<- hK];split <;> omega
 obtain ⟨ps0,hps0,HM⟩:=map_det a xs cap (p + 1 + 1) K hX (by omega) (by omega)
 have hnx:∀ x:List PairT × Nat × Nat,∃ y:List PairT × Nat,SmP x.1 x.2.2 -> x.2.1 <= 70000 -> x.2.2 <= 1000 -> (SmP y.1 (x.2.2 + 3) /\ y.2 <= x.2.1 + 13) /\ ∀ a3 c3 w,BL a xs w -> PArg a3 x.1 w -> x.1.length <= c3 -> Calls prog 78 #[.slice a xs.length cap,.int .i64 (x.2.1:Int),.slice a3 x.1.length c3] w (PGot y.1 x.1 y.2 a3 w):=fun x=>by
  by_cases hx:SmP x.1 x.2.2 /\ x.2.1 <= 70000 /\ x.2.2 <= 1000
  · obtain ⟨qs,z,⟨h1,_,h3⟩,HC⟩:=near_det a xs cap x.2.1 x.1 x.2.2 hX hx.2.1 hx.2.2 hx.1
    exact ⟨(qs,z),fun _ _ _=>⟨⟨h1,h3⟩,HC⟩⟩
  · exact ⟨([],0),fun q1 q2 q3=>absurd ⟨q1,q2,q3⟩ hx⟩
 obtain ⟨nf,hnf⟩:=Classical.axiomOfChoice hnx
 obtain ⟨z0,hz0⟩:∃ z0,p + 1 + 1 + 3 * K=z0:=⟨_,rfl⟩
 rw [hz0] at HM
 have h0:PInv z0 0 ⟨[],[],ps0,z0⟩:=⟨⟨by have:=hps0.len;show ps0.length <= 14 + 3 * 0;omega,hps0.up,hps0.sz⟩,by show z0 <= _;omega,⟨Nat.zero_le _,fun x hx=>by cases hx⟩,⟨Nat.zero_le _,fun x hx=>by cases hx⟩⟩
 have hinv:=pool_inv hw2 h0 (fun x q1 q2 q3=>(hnf x q1 q2 q3).1) (by omega)
 have hE:=hinv (n + 1) (by omega)
 refine ⟨wd,(stP wd nf ⟨[],[],ps0,z0⟩ (n + 1)).ss,(stP wd nf ⟨[],[],ps0,z0⟩ (n + 1)).roots,(stP wd nf ⟨[],[],ps0,z0⟩ (n + 1)).z,⟨hw1,hw2,⟨by have:=hE.ss.len;omega,hE.ss.sz⟩,⟨by have:=hE.roots.len;omega,hE.roots.sz⟩,by have:=hE.z;omega⟩,fun w hB=>?_⟩
 have hbz:Hid (∀ W,Below w.heap.size w W -> BL a xs W):=fun W hW=>hB.below hW
 have HC:Hid (∀ w',Calls prog 118 #[.slice a xs.length cap,.int .i64 8,.int .i64 2,.int .i64 14] w' fun e w''=>e=.returned (.int .i64 (K:Int)) /\ w''=w'):=fun w'=>by
  have:=count_any a xs.length cap 8 2 14 w' (by omega) hL (by omega) (by omega)
  rw [hK] at this
  exact this
 have HWd':Hid (∀ w',Below w.heap.size w w' -> Calls prog 73 #[.slice a xs.length cap,.int .i64 (p:Int)] w' fun e w''=>e=.returned (.tuple #[.int .i64 (wd:Int),.int .i64 ((p + 1:Nat):Int)]) /\ Below w'.heap.size w' w''):=fun w' hb=>HWd w' (hB.below hb)
 have HN':Hid (∀ w',Below w.heap.size w w' -> Calls prog 58 #[.slice a xs.length cap,.int .i64 ((p + 1:Nat):Int),.int .i64 4] w' fun e w''=>e=.returned (.tuple #[.int .i64 (n:Int),.int .i64 ((p + 1 + 1:Nat):Int)]) /\ Below w'.heap.size w' w''):=fun w' hb=>HN w' (hB.below hb)
 have HM':Hid (∀ w',Below w.heap.size w w' -> Calls prog 117 #[.slice a xs.length cap,.int .i64 ((p + 1 + 1:Nat):Int),.int .i64 (K:Int)] w' fun e w''=>∃ a' c',e=.returned (.tuple #[.slice a' ps0.length c',.int .i64 (z0:Int)]) /\ OwnP w' ps0 a' ps0.length c' w''):=fun w' hb=>HM w' (hB.below hb)
 have HNe:Hid (∀ i a3 c3 w',i <= n -> Below w.heap.size w w' -> PArg a3 (stP wd nf ⟨[],[],ps0,z0⟩ i).ps w' -> (stP wd nf ⟨[],[],ps0,z0⟩ i).ps.length <= c3 -> Calls prog 78 #[.slice a xs.length cap,.int .i64 ((stP wd nf ⟨[],[],ps0,z0⟩ i).z:Int),.slice a3 (stP wd nf ⟨[],[],ps0,z0⟩ i).ps.length c3] w' (PGot (stP wd nf ⟨[],[],ps0,z0⟩ (i + 1)).ps (stP wd nf ⟨[],[],ps0,z0⟩ i).ps (stP wd nf ⟨[],[],ps0,z0⟩ (i + 1)).z a3 w')):=fun i a3 c3 w' hi hb hP hc=>by
  have hi':=hinv i (by omega)
  exact (hnf ((stP wd nf ⟨[],[],ps0,z0⟩ i).ps,(stP wd nf ⟨[],[],ps0,z0⟩ i).z,14 + 3 * i) hi'.ps (by have:=hi'.z;show (stP wd nf ⟨[],[],ps0,z0⟩ i).z <= _;omega) (by show 14 + 3 * i <= _;omega)).2 a3 c3 w' (hB.below hb) hP hc
 have HSv:Hid (∀ i ap cp a3 c3 w',i <= n -> SArg ap (stP wd nf ⟨[],[],ps0,z0⟩ i).ss w' -> PArg a3 (stP wd nf ⟨[],[],ps0,z0⟩ i).ps w' -> (stP wd nf ⟨[],[],ps0,z0⟩ i).ps.length <= c3 -> Calls prog 33 #[.agg #[.int .i64 (wd:Int),.slice ap (stP wd nf ⟨[],[],ps0,z0⟩ i).ss.length cp],.slice a3 (stP wd nf ⟨[],[],ps0,z0⟩ i).ps.length c3] w' (SavedIs (saveO (wd:Int) (stP wd nf ⟨[],[],ps0,z0⟩ i).ss (stP wd nf ⟨[],[],ps0,z0⟩ i).ps) w')):=fun i ap cp a3 c3 w' hi hS hP hc=>ssave_any HD (wd:Int) ap _ cp a3 _ c3 w' hS (fun j=>by have:=(hinv i (by omega)).ss.getD j;omega) hP hc
 have hsmx:Hid (∀ i,i <= n -> (saveO (wd:Int) (stP wd nf ⟨[],[],ps0,z0⟩ i).ss (stP wd nf ⟨[],[],ps0,z0⟩ i).ps).cd=0 -> (∀ j,((saveO (wd:Int) (stP wd nf ⟨[],[],ps0,z0⟩ i).ss (stP wd nf ⟨[],[],ps0,z0⟩ i).ps).xs.getD j ⟨#[]⟩).size <= 1048576) /\ (saveO (wd:Int) (stP wd nf ⟨[],[],ps0,z0⟩ i).ss (stP wd nf ⟨[],[],ps0,z0⟩ i).ps).xs.length <= 1048576 /\ (saveO (wd:Int) (stP wd nf ⟨[],[],ps0,z0⟩ i).ss (stP wd nf ⟨[],[],ps0,z0⟩ i).ps).n=(wd:Int)):=fun i hi hc=>by
  have hi':=hinv i (by omega)
  obtain ⟨q1,q2,q3⟩:=saveO_ok hw2 hi'.ss hi'.ps.len hc
  exact ⟨fun j=>by have:=q1.getD j;omega,by have:=q1.len;omega,q3⟩
 have hrl:Hid (∀ i,i <= n -> (stP wd nf ⟨[],[],ps0,z0⟩ i).roots.length <= 100):=fun i hi=>by have:=(hinv i (by omega)).roots.len;omega
 have hstep:Hid (∀ i,stP wd nf ⟨[],[],ps0,z0⟩ (i + 1)=stepP wd nf i (stP wd nf ⟨[],[],ps0,z0⟩ i)):=fun i=>rfl
 have hst0:Hid (stP wd nf ⟨[],[],ps0,z0⟩ 0=⟨[],[],ps0,z0⟩):=rfl
 have hps0s:Hid (SmallP ps0):=hps0.small (by omega)
 generalize stP wd nf ⟨[],[],ps0,z0⟩=st at HNe HSv hsmx hrl hstep hst0 ⊢
 clear hinv hE hnf hnx HWd HN HM h0 hK hB hps0
 obtain ⟨L,hLL⟩:∃ L,xs.length=L:=⟨_,rfl⟩
 rw [hLL] at HC HWd' HN' HM' HNe ⊢
 clear hL hLL
 have hA:Below w.heap.size w (w.alloc (.cells #[.int .i64 0,.slice none 0 0] 31)):=(Below.refl _ _).alloc (Nat.le_refl _) _
 have nA:=heap_alloc_new w (.cells #[.int .i64 0,.slice none 0 0] 31)
 obtain ⟨g0,hg0⟩:∃ g,w.heap.size=g:=⟨_,rfl⟩
 go_enter func156,ntmps156
 go_upto_region 2 with fail
 generalize w.alloc (.cells #[.int .i64 0,.slice none 0 0] 31)=wA at hA nA ⊢
 try rw [hg0]
 go_wp2_with (first | (go_at_call 73;refine (HWd'.out _ hA).mono ?_;rintro e w1 ⟨rfl,hb1⟩;have hbw1:=hA.trans (hb1.mono hA.size)) | (go_at_call 58;refine (HN'.out _ hbw1).mono ?_;rintro e w2 ⟨rfl,hb2⟩;have hbw2:=hbw1.trans (hb2.mono hbw1.size)) | (go_at_call 118;refine (HC.out _).mono ?_;rintro e w3 ⟨rfl,rfl⟩))
 have nA2:w2.heap[w.heap.size]?=some (.cells #[.int .i64 0,.slice none 0 0] 31):=pblk_below hb2 (pblk_below hb1 nA)
 have hb3:Below w2.heap.size w2 ((w2.alloc (.cells #[.int .i64 (wd:Int),.slice none 0 0] 31)).alloc (.cells #[] 9)):=((Below.refl _ _).alloc (Nat.le_refl _) _).alloc (by simp) _
 have nR:=heap_alloc_new (w2.alloc (.cells #[.int .i64 (wd:Int),.slice none 0 0] 31)) (.cells #[] 9)
 rw [World.size_alloc] at nR
 have nP:=(Below.heap_alloc (w2.alloc (.cells #[.int .i64 (wd:Int),.slice none 0 0] 31)) (.cells #[] 9) w2.heap.size (by simp)).trans (heap_alloc_new w2 _)
 have hz3:((w2.alloc (.cells #[.int .i64 (wd:Int),.slice none 0 0] 31)).alloc (.cells #[] 9)).heap.size=w2.heap.size + 2:=by simp
 have hgq:w.heap.size < w2.heap.size:=(Array.getElem?_eq_some_iff.1 nA2).1
 generalize (w2.alloc (.cells #[.int .i64 (wd:Int),.slice none 0 0] 31)).alloc (.cells #[] 9)=w3 at hb3 nR nP hz3 ⊢
 have hbw3:=hbw2.trans (hb3.mono hbw2.size)
 have nA3:=pblk_below hb3 nA2
 obtain ⟨gq,hgq'⟩:∃ g,w2.heap.size=g:=⟨_,rfl⟩
 rw [hgq'] at nR nP hz3 hgq
 try rw [hgq']
 clear hgq' nA2 nA hb1 hb2 hb3 hA hbw1 hbw2 HWd' HN' HC
 have HM3:=HM'.out w3 hbw3
 refine HM3.mono ?_
 rintro e w4 ⟨a4,c4,rfl,hT4⟩
 have hO4:OwnT w [] (some ⟨gq + 1,0,none⟩) 0 0 w4:=(OwnT.below (w:=w) (W:=w3) ⟨⟨rfl,.inr ⟨gq + 1,0,#[],rfl,by omega,nR,by simp⟩⟩,hbw3,rfl⟩ hT4.bel)
 have hP0:PD w gq wd [] [] ps0 none 0 (some ⟨gq + 1,0,none⟩) 0 a4 c4 w4:=⟨pblk_below hT4.bel nA3,pblk_below hT4.bel nP,⟨Nat.zero_le _,fun j=>Nat.zero_le _,fun h=>absurd h (Nat.lt_irrefl _)⟩,hO4,ownp_parg hT4 hps0s.out,own2_le hT4.own,hgq,(fun b off e=>by cases e),(fun b off e _ q=>by
  have h1:=hT4.ge b off e
  have h2:gq + 1=b:=Option.some.inj q
  omega)⟩
 clear hT4 hO4 nA3 nP nR hz3 hbw3 HM3 HM' hps0s
 obtain ⟨i0,hi0,hz0',hz1,hz2⟩:=info_parts2 info9
 go_wp2_with fail
 go_loopw [11,12,13,14] (fun t11 t12 t13 t14 wr=>∃ (i:Nat) (ap:Option Addr) (cp:Nat) (ar:Option Addr) (cr:Nat) (a4:Option Addr) (c4:Nat),i <= n + 1 /\ t14=.int .i64 (i:Int) /\ t13=.int .i64 ((st i).z:Int) /\ t12=.slice a4 (st i).ps.length c4 /\ t11=.slice ar (st i).roots.length cr /\ PD w gq wd (st i).ss (st i).roots (st i).ps ap cp ar cr a4 c4 wr) (fun _ _ _ t14 _=>n + 1 - (intOf t14).toNat)
 case atStart=>exact ⟨0,none,0,some ⟨gq + 1,0,none⟩,0,a4,c4,Nat.zero_le _,rfl,by rw [hst0.out],by rw [hst0.out],by rw [hst0.out];rfl,by rw [hst0.out];exact hP0⟩
 case round =>
  clear hP0
  obtain ⟨i,ap,cp,ar,cr,a5,c5,hi,rfl,rfl,rfl,rfl,hP⟩:=hrel
  by_cases hlt:i <= n
  · have z1:decide ((i:Int) <= (n:Int))=true:=by simp;omega
    have HS1:=HSv.out i ap cp a5 c5 wr hlt hP.parg hP.ppar hP.pcap
    have hx:=hsmx.out i hlt
    have hrl':=hrl.out i hlt
    have hst:=hstep.out i
    have HN1:Hid (∀ w',Below w.heap.size w w' -> PArg a5 (st i).ps w' -> Calls prog 78 #[.slice a L cap,.int .i64 ((st i).z:Int),.slice a5 (st i).ps.length c5] w' (PGot (st (i + 1)).ps (st i).ps (st (i + 1)).z a5 w')):=fun w' hb hp=>HNe.out i a5 c5 w' hlt hb hp hP.pcap
    unfold PGot at HN1
    have hss:(st (i + 1)).ss=if (saveO (wd:Int) (st i).ss (st i).ps).cd=0 then (saveO (wd:Int) (st i).ss (st i).ps).xs else (st i).ss:=by rw [hst];rfl
    have hro:(st (i + 1)).roots=if (saveO (wd:Int) (st i).ss (st i).ps).cd=0 then (st i).roots ++ [(saveO (wd:Int) (st i).ss (st i).ps).root] else (st i).roots:=by rw [hst];rfl
    have HF:Hid (∀ ap' cp' ar' cr' a6 c6 W,PD w gq wd (st (i + 1)).ss (st (i + 1)).roots (st (i + 1)).ps ap' cp' ar' cr' a6 c6 W -> ∃ (j:Nat) (ap:Option Addr) (cp:Nat) (ar:Option Addr) (cr:Nat) (a4:Option Addr) (c4:Nat),j <= n + 1 /\ Value.int .i64 ((i + 1:Nat):Int)=.int .i64 (j:Int) /\ Value.int .i64 ((st (i + 1)).z:Int)=.int .i64 ((st j).z:Int) /\ Value.slice a6 (st (i + 1)).ps.length c6=.slice a4 (st j).ps.length c4 /\ Value.slice ar' (st (i + 1)).roots.length cr'=.slice ar (st j).roots.length cr /\ PD w gq wd (st j).ss (st j).roots (st j).ps ap cp ar cr a4 c4 W):=fun ap' cp' ar' cr' a6 c6 W h=>⟨i + 1,ap',cp',ar',cr',a6,c6,by omega,rfl,rfl,rfl,rfl,h⟩
    clear hst hstep HNe HSv hsmx hrl
    obtain ⟨qs,hqs⟩:∃ qs,(st (i + 1)).ps=qs:=⟨_,rfl⟩
    obtain ⟨zz,hzz⟩:∃ zz,(st (i + 1)).z=zz:=⟨_,rfl⟩
    rw [hqs,hzz] at HN1 HF
    generalize saveO (wd:Int) (st i).ss (st i).ps=O at HS1 hx hss hro
    obtain ⟨od,on,oxs,oroot,ox,oy⟩:=O
    unfold SavedIs at HS1
    dsimp only [svV] at HS1 hx hss hro
    generalize (st i).z=zi at HN1 ⊢
    obtain ⟨K2,hK2⟩:∃ K2,(st i).ps.length=K2:=⟨_,rfl⟩
    rw [hK2] at HN1 HS1
    rw [hK2]
    obtain ⟨N1,hN1⟩:∃ N1,(st i).ss.length=N1:=⟨_,rfl⟩
    obtain ⟨R1,hR1⟩:∃ R1,(st i).roots.length=R1:=⟨_,rfl⟩
    rw [hN1] at HS1
    rw [hR1]
    have c0:=ZC hP.pool 0
    have c1:=ZC hP.pool 1
    rw [hN1] at c1 c0
    clear hqs hzz hK2
    go_upto_region 11 with (first | (go_at_call 33;refine HS1.mono ?_;rintro e w1 ⟨asv,csv,rfl,hT1⟩))
    have al1:Below w1.heap.size w1 (w1.alloc (.cells #[.int .i64 od,.int .i64 on,.slice asv oxs.length csv,.string oroot,.string ox,.string oy] 56)):=(Below.refl _ _).alloc (Nat.le_refl _) _
    have hbr2:Below wr.heap.size wr (w1.alloc (.cells #[.int .i64 od,.int .i64 on,.slice asv oxs.length csv,.string oroot,.string ox,.string oy] 56)):=hT1.bel.trans (al1.mono hT1.bel.size)
    have hP2:=hP.below hbr2
    have nS:SB w1.heap.size od on asv oxs.length csv oroot ox oy (w1.alloc (.cells #[.int .i64 od,.int .i64 on,.slice asv oxs.length csv,.string oroot,.string ox,.string oy] 56)):=heap_alloc_new w1 _
    have hT2:=hT1.below al1
    have hrb:∀ g,(Value.slice ar (st i).roots.length cr).ownBlock=some g -> g < wr.heap.size:=fun g hg=>(ownG_cells hP.rown.own hg).2.1
    generalize w1.alloc (.cells #[.int .i64 od,.int .i64 on,.slice asv oxs.length csv,.string oroot,.string ox,.string oy] 56)=w2 at al1 hbr2 hP2 nS hT2 ⊢
    obtain ⟨gs,hgs⟩:∃ g,w1.heap.size=g:=⟨_,rfl⟩
    rw [hgs] at nS
    try rw [hgs]
    clear hgs al1 hT1 HS1 c0 c1 hP
    obtain ⟨s0,s1,s2,s3,s4,s5,sf⟩:=nS.at
    by_cases hod:od=0
    · subst hod
      obtain ⟨hx1,hx2,hx3⟩:=hx rfl
      subst hx3
      rw [if_pos rfl] at hss hro
      have hS2:SArg asv oxs w2:=by
       have h1:=hT2.own
       exact own_sarg h1 hx2 hx1
      have hlt2:∀ b off,asv=some ⟨b,off,none⟩ -> 0 < oxs.length -> (Value.slice ar (st i).roots.length cr).ownBlock ≠ some b:=fun b off e _ q=>by
       subst e
       have h1:=(ownG_cells hT2.own (g:=b) rfl).1
       have h2:=hrb b q
       omega
      have hP3:=hP2.take (cp':=csv) hS2 hlt2
      have k0:=ZC hP2.pool 0
      have k1:=ZC hP2.pool 1
      have kf:∀ j,w2.frozen? ⟨gq,j,none⟩=false:=fun j=>by rw [World.frozen?,hP2.pool];rfl
      have hgn:gs ≠ gq:=ne_of_type nS hP2.pool (by decide)
      have nS3:SB gs 0 (wd:Int) asv oxs.length csv oroot ox oy ((w2.setCell ⟨gq,0,none⟩ (.int .i64 (wd:Int))).setCell ⟨gq,1,none⟩ (.slice asv oxs.length csv)):=(Below.heap_setCell _ _ _ _ (by show gs ≠ gq;exact hgn)).trans ((Below.heap_setCell _ _ _ _ (by show gs ≠ gq;exact hgn)).trans nS)
      clear hT2 hS2 hlt2 hbr2
      go_upto_region 13 with fail
      generalize (w2.setCell ⟨gq,0,none⟩ (.int .i64 (wd:Int))).setCell ⟨gq,1,none⟩ (.slice asv oxs.length csv)=w3 at hP3 nS3 ⊢
      clear hP2 k0 k1 kf s0 s1 s2 s3 s4 s5 sf nS
      obtain ⟨r0,r1,r2,r3,r4,r5,rf⟩:=nS3.at
      have own3:=hP3.rown.own
      have hbs3:=hP3.rown.bel.size
      rw [hR1] at own3 hrl'
      go_upto_region 14 with (at_builtin;refine wpList_append_lies _ rfl (.tmp 52) (.tmp 55) 25 rfl w.heap.size 9 i0 (.string ⟨#[]⟩) 1 16 Tryz.underlying25 hi0 hz0' hz1 hz2 rfl (by decide) (.slice ar R1 cr) R1 ((st i).roots.map Value.string) rfl (own3.alloc _) ⟨w3.heap.size,0,none⟩ 1 1 [.string oroot] rfl rfl (World.news_of_block (heap_alloc_new w3 _)) (by simp [Value.oneCell']) (by decide) (by unfold maxLen;omega) (by omega) (by simp;omega) (w3.heap.size + 1) (by simp) ?_;intro g5 c6 w5 hown5 hgrow5 hat5 hlt5)
      rw [<- hR1] at hown5 hgrow5 hat5
      have hP5:=hP3.root hown5 hgrow5 hat5
      clear hP3 own3 nS3 r0 r1 r2 r3 r4 r5 rf hown5 hgrow5 hat5
      go_wp2_with (first | (go_at_call 78;refine (HN1.out _ hP5.rown.bel hP5.ppar).mono ?_;rintro e w6 ⟨a6,c7,rfl,hp6,hc6,hg6,hb6⟩))
      have hP6:=hP5.near hb6 hp6 hc6 hg6
      rw [<- hss,<- hro] at hP6
      have hfin:=HF.out _ _ _ _ _ _ _ hP6
      have hrl2:Hid ((st (i + 1)).roots.length=R1 + 1):=by show _=_;rw [hro,List.length_append,hR1];rfl
      rw [hrl2.out] at hfin
      go_roundw
      case rel =>
       obtain ⟨j,b1,d1,b2,d2,b3,d3,q1,q2,q3,q4,q5,q6⟩:=hfin
       exact ⟨j,b1,d1,b2,d2,b3,d3,q1,by rw [<- q2];go_num,q3,q4,q5,q6⟩
      case measure=>simp [intOf];omega
    · rw [if_neg hod] at hss hro
      have zc:(od == 0)=false:=by simp [hod]
      clear hT2 hod hx
      go_wp2_with (first | (go_at_call 78;refine (HN1.out _ hP2.rown.bel hP2.ppar).mono ?_;rintro e w6 ⟨a6,c7,rfl,hp6,hc6,hg6,hb6⟩))
      have hP6:=hP2.near hb6 hp6 hc6 hg6
      rw [<- hss,<- hro] at hP6
      have hfin:=HF.out _ _ _ _ _ _ _ hP6
      have hrl2:Hid ((st (i + 1)).roots.length=R1):=by show _=_;rw [hro,hR1]
      rw [hrl2.out] at hfin
      go_roundw
      case rel =>
       obtain ⟨j,b1,d1,b2,d2,b3,d3,q1,q2,q3,q4,q5,q6⟩:=hfin
       exact ⟨j,b1,d1,b2,d2,b3,d3,q1,by rw [<- q2];go_num,q3,q4,q5,q6⟩
      case measure=>simp [intOf];omega
  · obtain rfl:i=n + 1:=by omega
    have z1:decide (((n + 1:Nat):Int) <= (n:Int))=false:=by simp;omega
    have z1':decide ((n:Int) + 1 <= (n:Int))=false:=by simp;omega
    have c0:=ZC hP.pool 0
    have c1:=ZC hP.pool 1
    have e0:=ZC hP.res 0
    have e1:=ZC hP.res 1
    have ef:∀ j,wr.frozen? ⟨w.heap.size,j,none⟩=false:=fun j=>by rw [World.frozen?,hP.res];rfl
    have m1:=heap_setCell_same _ w.heap.size 1 _ 31 (.slice ap (st (n + 1)).ss.length cp) (heap_setCell_same wr w.heap.size 0 _ 31 (.int .i64 (wd:Int)) hP.res)
    have hfin:Hid (PoolGot wd (st (n + 1)).ss (st (n + 1)).roots (st (n + 1)).z w (.returned (.tuple #[.agg #[.int .i64 (wd:Int),.slice ap (st (n + 1)).ss.length cp],.slice ar (st (n + 1)).roots.length cr,.int .i64 ((st (n + 1)).z:Int)])) ((wr.setCell ⟨w.heap.size,0,none⟩ (.int .i64 (wd:Int))).setCell ⟨w.heap.size,1,none⟩ (.slice ap (st (n + 1)).ss.length cp))):=by
     have hg1:wr.grownBy ((wr.setCell ⟨w.heap.size,0,none⟩ (.int .i64 (wd:Int))).setCell ⟨w.heap.size,1,none⟩ (.slice ap (st (n + 1)).ss.length cp)) (some w.heap.size):=grownBy_trans (grownBy_setCell wr w.heap.size 0 _) (grownBy_setCell _ w.heap.size 1 _)
     have hm0:=heap_setCell_same wr w.heap.size 0 _ 31 (.int .i64 (wd:Int)) hP.res
     exact ⟨ap,cp,ar,cr,rfl,hP.parg.grown hg1 (fun b off e hp q=>hP.parg.pool hP.res b off e hp (Option.some.inj q)),(hP.rown.set hP.res (Nat.le_refl _) (o:=0) _).set hm0 (Nat.le_refl _) (o:=1) _,hP.n1⟩
    rw [hg0] at e0 e1 ef m1 hfin
    clear hP
    generalize (st (n + 1)).ss.length=N1 at c1 m1 hfin
    go_wp2_with fail
    exact retPT Tryz.results156 rfl rfl rfl rfl m1 hfin.out
theorem bounds_det (a:Option Addr) (xs:List Nat) (cap p:Nat) (hX:Code8 xs) (hp:p <= 70000) :
 ∃ (lo hi:ByteArray),(lo.size <= 80 /\ hi.size <= 80) /\ ∀ w,BL a xs w -> Calls prog 77 #[.slice a xs.length cap,.int .i64 (p:Int)] w fun e w'=>e=.returned (.tuple #[.string lo,.string hi,.int .i64 ((p + 1 + 1 + 1:Nat):Int)]) /\ Below w.heap.size w w':=by
 obtain ⟨x,hx,HT⟩:=take_det a xs cap p 10 hX (by omega) (by omega) (by omega)
 obtain ⟨k1,hk1,HK1⟩:=key_det a xs cap (p + 1) hX (by omega)
 obtain ⟨k2,hk2,HK2⟩:=key_det a xs cap (p + 1 + 1) hX (by omega)
 have hsum:¬ (9223372036854775807 < k1.size + (⟨#[0]⟩:ByteArray).size):=by show ¬ _ < k1.size + 1;omega
 have hsum':¬ (9223372036854775807 < k1.size + 1):=by omega
 have HL:Hid (∀ w',Calls prog 85 #[.string k2,.string k1] w' fun e w''=>e=.returned (.bool (lessB k2 k1)) /\ Below w'.heap.size w' w''):=fun w'=>(lessS_q k2 k1 w' (by omega) (by omega)).mono (by rintro e w2 ⟨rfl,m,rfl⟩;exact ⟨rfl,drewN_below _ _⟩)
 generalize xs.length=L at HT HK1 HK2 ⊢
 obtain ⟨q3,hq3⟩:∃ q,p + 1 + 1 + 1=q:=⟨_,rfl⟩
 rw [hq3] at HK2 ⊢
 obtain ⟨q2,hq2⟩:∃ q,p + 1 + 1=q:=⟨_,rfl⟩
 rw [hq2] at HK1 HK2
 obtain ⟨q1,hq1⟩:∃ q,p + 1=q:=⟨_,rfl⟩
 rw [hq1] at HK1 HT
 have hne1:q1 ≠ q2:=by omega
 clear hq1 hq2 hq3
 have HTh:Hid _:=HT
 have HK1h:Hid _:=HK1
 have HK2h:Hid _:=HK2
 clear HT HK1 HK2
 by_cases h6:x < 6
 · have z1:decide ((x:Int) < 6)=true:=by rw [decide_eq_true_eq];omega
   have z6:((x:Int) == 6)=false:=by simp;omega
   have z7:((x:Int) == 7)=false:=by simp;omega
   have z8:((x:Int) == 8)=false:=by simp;omega
   have z9:((x:Int) == 9)=false:=by simp;omega
   cases hl:lessB k2 k1 with
   | true =>
    rw [hl] at HL
    clear hl h6 hx
    refine ⟨k2,k1,⟨by omega,by omega⟩,fun w hB=>?_⟩
    have H1:=HTh.out w hB
    have H2:Hid (∀ w',Below w.heap.size w w' -> Calls prog 135 #[.slice a L cap,.int .i64 (q1:Int)] w' fun e w''=>e=.returned (.tuple #[.string k1,.int .i64 (q2:Int)]) /\ Below w'.heap.size w' w''):=fun w' hb=>HK1h.out w' (hB.below hb)
    have H3:Hid (∀ w',Below w.heap.size w w' -> Calls prog 135 #[.slice a L cap,.int .i64 (q2:Int)] w' fun e w''=>e=.returned (.tuple #[.string k2,.int .i64 (q3:Int)]) /\ Below w'.heap.size w' w''):=fun w' hb=>HK2h.out w' (hB.below hb)
    clear hB HTh HK1h HK2h
    go_enter func77,ntmps77
    go_wp2_with (first | (go_at_call 58;refine H1.mono ?_;rintro e w1 ⟨rfl,hb1⟩) | (go_at_call_of 135 (Value.int .i64 (q1:Int));refine (H2.out _ hb1).mono ?_;rintro e w2 ⟨rfl,hb2'⟩;have hb2:=hb1.trans (hb2'.mono hb1.size)) | (go_at_call_of 135 (Value.int .i64 (q2:Int));refine (H3.out _ hb2).mono ?_;rintro e w3 ⟨rfl,hb3'⟩;have hb3:=hb2.trans (hb3'.mono hb2.size)) | (go_at_call 85;refine (HL.out _).mono ?_;rintro e w4 ⟨rfl,hb4'⟩;have hb4:=hb3.trans (hb4'.mono hb3.size)))
    go_ret3
    exact ⟨rfl,hb4⟩
   | false =>
    rw [hl] at HL
    clear hl h6 hx
    refine ⟨k1,k2,⟨by omega,by omega⟩,fun w hB=>?_⟩
    have H1:=HTh.out w hB
    have H2:Hid (∀ w',Below w.heap.size w w' -> Calls prog 135 #[.slice a L cap,.int .i64 (q1:Int)] w' fun e w''=>e=.returned (.tuple #[.string k1,.int .i64 (q2:Int)]) /\ Below w'.heap.size w' w''):=fun w' hb=>HK1h.out w' (hB.below hb)
    have H3:Hid (∀ w',Below w.heap.size w w' -> Calls prog 135 #[.slice a L cap,.int .i64 (q2:Int)] w' fun e w''=>e=.returned (.tuple #[.string k2,.int .i64 (q3:Int)]) /\ Below w'.heap.size w' w''):=fun w' hb=>HK2h.out w' (hB.below hb)
    clear hB HTh HK1h HK2h
    go_enter func77,ntmps77
    go_wp2_with (first | (go_at_call 58;refine H1.mono ?_;rintro e w1 ⟨rfl,hb1⟩) | (go_at_call_of 135 (Value.int .i64 (q1:Int));refine (H2.out _ hb1).mono ?_;rintro e w2 ⟨rfl,hb2'⟩;have hb2:=hb1.trans (hb2'.mono hb1.size)) | (go_at_call_of 135 (Value.int .i64 (q2:Int));refine (H3.out _ hb2).mono ?_;rintro e w3 ⟨rfl,hb3'⟩;have hb3:=hb2.trans (hb3'.mono hb2.size)) | (go_at_call 85;refine (HL.out _).mono ?_;rintro e w4 ⟨rfl,hb4'⟩;have hb4:=hb3.trans (hb4'.mono hb3.size)))
    go_ret3
    exact ⟨rfl,hb4⟩
 · clear HL
   obtain rfl | rfl | rfl | rfl:x=6 \/ x=7 \/ x=8 \/ x=9:=by omega
   · refine ⟨⟨#[]⟩,k2,⟨Nat.zero_le _,by omega⟩,fun w hB=>?_⟩
     have H1:=HTh.out w hB
     have H2:Hid (∀ w',Below w.heap.size w w' -> Calls prog 135 #[.slice a L cap,.int .i64 (q1:Int)] w' fun e w''=>e=.returned (.tuple #[.string k1,.int .i64 (q2:Int)]) /\ Below w'.heap.size w' w''):=fun w' hb=>HK1h.out w' (hB.below hb)
     have H3:Hid (∀ w',Below w.heap.size w w' -> Calls prog 135 #[.slice a L cap,.int .i64 (q2:Int)] w' fun e w''=>e=.returned (.tuple #[.string k2,.int .i64 (q3:Int)]) /\ Below w'.heap.size w' w''):=fun w' hb=>HK2h.out w' (hB.below hb)
     clear hB HTh HK1h HK2h
     go_enter func77,ntmps77
     go_wp2_with (first | (go_at_call 58;refine H1.mono ?_;rintro e w1 ⟨rfl,hb1⟩) | (go_at_call_of 135 (Value.int .i64 (q1:Int));refine (H2.out _ hb1).mono ?_;rintro e w2 ⟨rfl,hb2'⟩;have hb2:=hb1.trans (hb2'.mono hb1.size)) | (go_at_call_of 135 (Value.int .i64 (q2:Int));refine (H3.out _ hb2).mono ?_;rintro e w3 ⟨rfl,hb3'⟩;have hb3:=hb2.trans (hb3'.mono hb2.size)) | (go_at_call 85;refine (HL.out _).mono ?_;rintro e w4 ⟨rfl,hb4'⟩;have hb4:=hb3.trans (hb4'.mono hb3.size)))
     go_ret3
     exact ⟨rfl,hb3⟩
   · refine ⟨k1,⟨#[]⟩,⟨by omega,Nat.zero_le _⟩,fun w hB=>?_⟩
     have H1:=HTh.out w hB
     have H2:Hid (∀ w',Below w.heap.size w w' -> Calls prog 135 #[.slice a L cap,.int .i64 (q1:Int)] w' fun e w''=>e=.returned (.tuple #[.string k1,.int .i64 (q2:Int)]) /\ Below w'.heap.size w' w''):=fun w' hb=>HK1h.out w' (hB.below hb)
     have H3:Hid (∀ w',Below w.heap.size w w' -> Calls prog 135 #[.slice a L cap,.int .i64 (q2:Int)] w' fun e w''=>e=.returned (.tuple #[.string k2,.int .i64 (q3:Int)]) /\ Below w'.heap.size w' w''):=fun w' hb=>HK2h.out w' (hB.below hb)
     clear hB HTh HK1h HK2h
     go_enter func77,ntmps77
     go_wp2_with (first | (go_at_call 58;refine H1.mono ?_;rintro e w1 ⟨rfl,hb1⟩) | (go_at_call_of 135 (Value.int .i64 (q1:Int));refine (H2.out _ hb1).mono ?_;rintro e w2 ⟨rfl,hb2'⟩;have hb2:=hb1.trans (hb2'.mono hb1.size)) | (go_at_call_of 135 (Value.int .i64 (q2:Int));refine (H3.out _ hb2).mono ?_;rintro e w3 ⟨rfl,hb3'⟩;have hb3:=hb2.trans (hb3'.mono hb2.size)) | (go_at_call 85;refine (HL.out _).mono ?_;rintro e w4 ⟨rfl,hb4'⟩;have hb4:=hb3.trans (hb4'.mono hb3.size)))
     go_ret3
     exact ⟨rfl,hb3⟩
   · refine ⟨k1,k1 ++ ⟨#[0]⟩,⟨by omega,by rw [ByteArray.size_append];show k1.size + 1 <= _;omega⟩,fun w hB=>?_⟩
     have H1:=HTh.out w hB
     have H2:Hid (∀ w',Below w.heap.size w w' -> Calls prog 135 #[.slice a L cap,.int .i64 (q1:Int)] w' fun e w''=>e=.returned (.tuple #[.string k1,.int .i64 (q2:Int)]) /\ Below w'.heap.size w' w''):=fun w' hb=>HK1h.out w' (hB.below hb)
     have H3:Hid (∀ w',Below w.heap.size w w' -> Calls prog 135 #[.slice a L cap,.int .i64 (q2:Int)] w' fun e w''=>e=.returned (.tuple #[.string k2,.int .i64 (q3:Int)]) /\ Below w'.heap.size w' w''):=fun w' hb=>HK2h.out w' (hB.below hb)
     clear hB HTh HK1h HK2h
     go_enter func77,ntmps77
     go_wp2_with (first | (go_at_call 58;refine H1.mono ?_;rintro e w1 ⟨rfl,hb1⟩) | (go_at_call_of 135 (Value.int .i64 (q1:Int));refine (H2.out _ hb1).mono ?_;rintro e w2 ⟨rfl,hb2'⟩;have hb2:=hb1.trans (hb2'.mono hb1.size)) | (go_at_call_of 135 (Value.int .i64 (q2:Int));refine (H3.out _ hb2).mono ?_;rintro e w3 ⟨rfl,hb3'⟩;have hb3:=hb2.trans (hb3'.mono hb2.size)) | (go_at_call 85;refine (HL.out _).mono ?_;rintro e w4 ⟨rfl,hb4'⟩;have hb4:=hb3.trans (hb4'.mono hb3.size)))
     go_ret3
     exact ⟨rfl,hb3⟩
   · refine ⟨⟨#[]⟩,⟨#[]⟩,⟨Nat.zero_le _,Nat.zero_le _⟩,fun w hB=>?_⟩
     have H1:=HTh.out w hB
     have H2:Hid (∀ w',Below w.heap.size w w' -> Calls prog 135 #[.slice a L cap,.int .i64 (q1:Int)] w' fun e w''=>e=.returned (.tuple #[.string k1,.int .i64 (q2:Int)]) /\ Below w'.heap.size w' w''):=fun w' hb=>HK1h.out w' (hB.below hb)
     have H3:Hid (∀ w',Below w.heap.size w w' -> Calls prog 135 #[.slice a L cap,.int .i64 (q2:Int)] w' fun e w''=>e=.returned (.tuple #[.string k2,.int .i64 (q3:Int)]) /\ Below w'.heap.size w' w''):=fun w' hb=>HK2h.out w' (hB.below hb)
     clear hB HTh HK1h HK2h
     go_enter func77,ntmps77
     go_wp2_with (first | (go_at_call 58;refine H1.mono ?_;rintro e w1 ⟨rfl,hb1⟩) | (go_at_call_of 135 (Value.int .i64 (q1:Int));refine (H2.out _ hb1).mono ?_;rintro e w2 ⟨rfl,hb2'⟩;have hb2:=hb1.trans (hb2'.mono hb1.size)) | (go_at_call_of 135 (Value.int .i64 (q2:Int));refine (H3.out _ hb2).mono ?_;rintro e w3 ⟨rfl,hb3'⟩;have hb3:=hb2.trans (hb3'.mono hb2.size)) | (go_at_call 85;refine (HL.out _).mono ?_;rintro e w4 ⟨rfl,hb4'⟩;have hb4:=hb3.trans (hb4'.mono hb3.size)))
     go_ret3
     exact ⟨rfl,hb3⟩
theorem take_none (a:Option Addr) (xs:List Nat) (cap:Nat) (p:Nat) (hp:p <= 100000) (w:World) :
 Calls prog 58 #[.slice a xs.length cap,.int .i64 (p:Int),.int .i64 ((0:Nat):Int)] w fun e w'=>e=.returned (.tuple #[.int .i64 ((0:Nat):Int),.int .i64 ((p + 1:Nat):Int)]) /\ Below w.heap.size w w':=by
 have y1:IntKind.i64.wrap ((p:Int) + 1)=((p + 1:Nat):Int):=by rw [wrap_i64_in _ (by omega) (by omega)];omega
 obtain ⟨n,hnn⟩:∃ n,xs.length=n:=⟨_,rfl⟩
 rw [hnn]
 go_enter func58,ntmps58
 go_wp2_with fail
 go_ret2
 exact ⟨by first | rfl | rw [y1],Below.refl _ _⟩
theorem take0_det (a:Option Addr) (xs:List Nat) (cap:Nat) (p m:Nat) (hX:Code8 xs) (hp:p <= 100000) (hm:m <= 100000) :
 ∃ x:Nat,(0 < m -> x < m) /\ (m=0 -> x=0) /\ ∀ w,BL a xs w -> Calls prog 58 #[.slice a xs.length cap,.int .i64 (p:Int),.int .i64 (m:Int)] w fun e w'=>e=.returned (.tuple #[.int .i64 (x:Int),.int .i64 ((p + 1:Nat):Int)]) /\ Below w.heap.size w w':=by
 by_cases h:m=0
 · subst h
   exact ⟨0,fun h=>absurd h (Nat.lt_irrefl _),fun _=>rfl,fun w _=>take_none a xs cap p hp w⟩
 · obtain ⟨x,hx,H⟩:=take_det a xs cap p m hX hp (by omega) hm
   exact ⟨x,fun _=>hx,fun q=>absurd q h,H⟩
def HGot (fz:Nat -> Option Obj) (ex:Option Nat) (gz wd:Nat) (ss roots:List ByteArray) (z:Nat) (w0:World) (e:Ending) (w':World):Prop:=∃ ap cp ar cr,e=.returned (.tuple #[.agg #[.int .i64 (wd:Int),.slice ap ss.length cp],.slice ar roots.length cr,.int .i64 (z:Int)]) /\ SArg ap ss w' /\ SArg ar roots w' /\ Below w0.heap.size w0 w' /\ ∀ q,q < gz -> ex ≠ some q -> w'.heap[q]?=fz q
structure HS (fz:Nat -> Option Obj) (ex:Option Nat) (w0:World) (gp g wd:Nat) (ss ys roots:List ByteArray) (ap:Option Addr) (cp:Nat) (ao:Option Addr) (co:Nat) (ar:Option Addr) (cr:Nat) (W:World):Prop where
 par:W.heap[gp]?=some (.cells #[.int .i64 (wd:Int),.slice ap ss.length cp] 31)
 res:W.heap[gp + 1]?=some (.cells #[.int .i64 0,.slice none 0 0] 31)
 out:W.heap[g]?=some (.cells #[.int .i64 (wd:Int),.slice ao ys.length co] 31)
 n0:w0.heap.size <= gp
 n1:gp + 1 < g
 oown:OwnT w0 ys ao ys.length co W
 rown:OwnT w0 roots ar roots.length cr W
 dis:∀ b,(Value.slice ar roots.length cr).ownBlock=some b -> (Value.slice ao ys.length co).ownBlock ≠ some b
 fr:∀ q,q < gp -> ex ≠ some q -> W.heap[q]?=fz q
 rb:∀ b,(Value.slice ar roots.length cr).ownBlock=some b -> b < gp -> ex=some b
 ob:∀ b,(Value.slice ao ys.length co).ownBlock=some b -> gp <= b
theorem OwnT.sarg {w W:World} {xs:List ByteArray} {a:Option Addr} {c:Nat} (h:OwnT w xs a xs.length c W) {n s:Nat} (hs:SmT xs n s) (hn:n <= 1048576) (hz:s <= 1048576):SArg a xs W :=
 own_sarg h.own (Nat.le_trans hs.len hn) (fun j=>Nat.le_trans (hs.getD j) hz)
section
variable {fz:Nat -> Option Obj} {ex:Option Nat} {w0:World} {gp g wd:Nat} {ss ys roots:List ByteArray} {ap:Option Addr} {cp:Nat} {ao:Option Addr} {co:Nat} {ar:Option Addr} {cr:Nat} {W W':World}
theorem HS.below (h:HS fz ex w0 gp g wd ss ys roots ap cp ao co ar cr W) (hb:Below W.heap.size W W'):HS fz ex w0 gp g wd ss ys roots ap cp ao co ar cr W' :=
 ⟨pblk_below hb h.par,pblk_below hb h.res,pblk_below hb h.out,h.n0,h.n1,h.oown.below hb,h.rown.below hb,h.dis,fun q hq he=>(hb.block q (by have:=(Array.getElem?_eq_some_iff.1 h.par).1;omega)).trans (h.fr q hq he),h.rb,h.ob⟩
theorem HS.fin (h:HS fz ex w0 gp g wd ss ys roots ap cp ao co ar cr W) {n s n2 s2 z gz:Nat} (hy:SmT ys n s) (hr:SmT roots n2 s2) (h1:n <= 1048576) (h2:s <= 1048576) (h3:n2 <= 1048576) (h4:s2 <= 1048576) (hgz:gz <= gp):HGot fz ex gz wd ys roots z w0 (.returned (.tuple #[.agg #[.int .i64 (wd:Int),.slice ao ys.length co],.slice ar roots.length cr,.int .i64 (z:Int)])) ((W.setCell ⟨gp + 1,0,none⟩ (.int .i64 (wd:Int))).setCell ⟨gp + 1,1,none⟩ (.slice ao ys.length co)):=by
 have hm0:=heap_setCell_same W (gp + 1) 0 _ 31 (.int .i64 (wd:Int)) h.res
 have hge:w0.heap.size <= gp + 1:=by have:=h.n0;omega
 have ho:=(h.oown.set h.res hge (o:=0) (.int .i64 (wd:Int))).set hm0 hge (o:=1) (.slice ao ys.length co)
 have hr':=(h.rown.set h.res hge (o:=0) (.int .i64 (wd:Int))).set hm0 hge (o:=1) (.slice ao ys.length co)
 exact ⟨ao,co,ar,cr,rfl,ho.sarg hy h1 h2,hr'.sarg hr h3 h4,ho.bel,fun q hq he=>(Below.heap_setCell _ _ _ _ (by show q ≠ gp + 1;omega)).trans ((Below.heap_setCell _ _ _ _ (by show q ≠ gp + 1;omega)).trans (h.fr q (by omega) he))⟩
theorem HS.m1 (h:HS fz ex w0 gp g wd ss ys roots ap cp ao co ar cr W):((W.setCell ⟨gp + 1,0,none⟩ (.int .i64 (wd:Int))).setCell ⟨gp + 1,1,none⟩ (.slice ao ys.length co)).heap[gp + 1]?=some (.cells #[.int .i64 (wd:Int),.slice ao ys.length co] 31) :=
 heap_setCell_same _ (gp + 1) 1 _ 31 (.slice ao ys.length co) (heap_setCell_same W (gp + 1) 0 _ 31 (.int .i64 (wd:Int)) h.res)
end
theorem saved_goF (D:Dec) (wd:Nat) (hD:DecEnc wd D) (h1:1 <= wd) (h2:wd <= 32) {ss ad:List ByteArray} {ps:List PairT} (hm:isMapT ps=true) (hs:svAll wd ss (encsT wd (cutTree ps))=.go ad) :
 goF (fndD D wd (ss ++ ad)) hgW ⟨#[]⟩ ⟨#[]⟩ 501 (rootT wd (cutTree ps)) ⟨#[]⟩ ⟨#[]⟩ ⟨#[]⟩ 0=(0,ps.length,ps):=by
 have hku:=ku_of_map hm
 have hok:=isMapT_ok ps hm
 have hin:=cutTree_inord ps
 have hsz:=cutTree_size ps
 have hps:ps.length <= 500:=by
  unfold isMapT at hm
  exact of_decide_eq_true ((Bool.and_eq_true _ _).mp hm).1
 have hH:=has_all D wd hD h1 h2 (ss:=ss) (ad:=ad) (cutTree ps) (by rw [hin];exact hok) (sv_has wd ss _ [] ad hs).2
 have hg:=goF_tree h1 h2 (cutTree ps) 501 ⟨#[]⟩ ⟨#[]⟩ ⟨#[]⟩ 0 (by omega) (cutTree_heap ps (ku_apart hku)) (by rw [hin];exact hku) (by
  rw [hin]
  intro p hp
  have hk:=(hok p hp).1
  refine ⟨nil_less ?_,.inl rfl,.inl rfl⟩
  unfold okKey at hk
  rw [decide_eq_true_eq] at hk
  unfold emp
  exact decide_eq_false (by omega)) (by omega) hH
 rw [hg,hin,hsz,Nat.zero_add]
end Go.Proofs.YtibjhkpgaaapaaaGreatDoor
