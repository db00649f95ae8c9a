import Derived.Test.YtibjhkpgaaapaaaGreatDoorZhan
import Derived.Test.YtibjhkpgaaapaaaGreatDoorZhac
import Derived.Deep.QuietTactic
import Derived.BigQuiet
import Derived.OwnWalk
import Derived.Test.YtibjhkpgaaapaaaGreatDoorZhah
set_option maxRecDepth 100000
set_option maxHeartbeats 2000000
namespace Go.Proofs.YtibjhkpgaaapaaaGreatDoor
open Go.RowKit Go.Proofs.Sha Tryz
def WP5 (lb sb c:Nat) (L:List UInt8) (N:Nat -> Prop) (w:World) (R:Int × Nat × List PairT) (X:List UInt8) (e:Ending) (w':World):Prop :=
 e=.returned (.bool (decide (R.1=0))) /\ Ft c N w w' /\ (R.1=0 -> LD lb sb R.2.1 0 w' /\ Bld c (L ++ X) w') /\ (R.1 ≠ 0 -> ∃ m,LD lb sb m R.1 w')
theorem Bld.ty {c:Nat} {l:List UInt8} {w:World} (h:Bld c l w):∃ cs,w.heap[c]?=some (.cells cs 165):=by
 rcases h with ⟨_,v,h2,_⟩ | ⟨_,v,h2,_⟩ <;> exact ⟨_,h2⟩
theorem walk5_none (lb sb c gb xl xa:Nat) (lo hi over under pk:ByteArray) (f:Nat) (fnd:ByteArray -> FN) (cnt:Nat) (L:List UInt8) (hash:ByteArray) (he:emp hash=true) (w:World) (hg:w.heap[gb]?=some (.cells #[.string lo,.string hi] 75)) (hL:LD lb sb cnt 0 w) (hS:Bld c L w) (hl:L.length <= 6000000) (hcl:lb ≠ c) :
 Calls prog 147 #[.pointer none,into5 gb c,atV xl xa] w (WP5 lb sb c L (NWk none lb c) w (goF fnd hgW lo hi (f + 1) hash over under pk cnt) (prL fnd lo hi (f + 1) hash over under)):=by
 rw [goF_skip (by rw [he];rfl),prL_e he]
 have HI:=into_none gb c lo hi L w hg hS (by omega)
 have HP:Hid (∀ w',Put c (L ++ [69]) w w' -> WP5 lb sb c L (NWk none lb c) w (0,cnt,[]) [69] (.returned (.bool true)) w'):=fun w' hp=>⟨rfl,Ft.of_put hp (.inr (.inr rfl)),fun _=>⟨hp.cells hL hcl (by decide),hp.1⟩,fun h=>absurd rfl h⟩
 clear hL hS hg
 go_enter func147,ntmps147
 go_wp2_with (first | (go_at_call 108;refine HI.mono ?_;rintro e w2 ⟨rfl,hb2⟩))
 go_ret
 exact HP.out _ hb2
theorem walk5_cut (lb sb c gb xl xa b:Nat) (lo hi over under pk:ByteArray) (par:Option Addr) (f:Nat) (fnd:ByteArray -> FN) (cnt:Nat) (L:List UInt8) (hash:ByteArray) (he:emp hash=false) (hc:canW over under lo hi=false) (w:World) (hg:w.heap[gb]?=some (.cells #[.string lo,.string hi] 75)) (hB:BR b hash over under par w) (hL:LD lb sb cnt 0 w) (hS:Bld c L w) (hl:L.length + hash.size <= 6000000) (hcl:lb ≠ c) :
 Calls prog 147 #[.pointer (some ⟨b,0,none⟩),into5 gb c,atV xl xa] w (WP5 lb sb c L (NWk (some ⟨b,0,none⟩) lb c) w (goF fnd hgW lo hi (f + 1) hash over under pk cnt) (prL fnd lo hi (f + 1) hash over under)):=by
 rw [goF_skip (by rw [hc];simp),prL_s he hc]
 have HI:=into_cut b gb c hash over under par lo hi L w hB hc hg hS (by omega)
 have HP:Hid (∀ w',Put c (L ++ 83 :: hash.data.toList) w w' -> WP5 lb sb c L (NWk (some ⟨b,0,none⟩) lb c) w (0,cnt,[]) (83 :: hash.data.toList) (.returned (.bool true)) w'):=fun w' hp=>⟨rfl,Ft.of_put hp (.inr (.inr rfl)),fun _=>⟨hp.cells hL hcl (by decide),hp.1⟩,fun h=>absurd rfl h⟩
 generalize L ++ 83 :: hash.data.toList=L1 at HI HP
 clear hL hS hB hc hg
 go_enter func147,ntmps147
 go_wp2_with (first | (go_at_call 108;refine HI.mono ?_;rintro e w2 ⟨rfl,hb2⟩))
 go_ret
 exact HP.out _ hb2
structure Ar5 (wg:World) (B0 base lb sb c gb xl xa:Nat) (lo hi:ByteArray) (b:Nat) (w0:World) (cnt:Nat) (L:List UInt8) (w:World):Prop where
 env:Env5 wg B0 base lb c gb xl xa lo hi w
 ld:LD lb sb cnt 0 w
 ls:Bld c L w
 fr:Ft c (NWk (some ⟨b,0,none⟩) lb c) w0 w
section
variable {wg:World} {B0 base lb sb c gb xl xa:Nat} {lo hi:ByteArray} {b:Nat} {w0 w w':World} {cnt:Nat} {L:List UInt8} {hash over under:ByteArray} {par:Option Addr} {k v l r:ByteArray} {pl pr:Option Addr} {gl gr:Nat}
theorem Ar5.below (h:Ar5 wg B0 base lb sb c gb xl xa lo hi b w0 cnt L w) (s:Stc B0 base lb c gb xl xa) (hb:Below w.heap.size w w'):Ar5 wg B0 base lb sb c gb xl xa lo hi b w0 cnt L w' :=
 ⟨h.env.below s hb,h.ld.below hb,h.ls.below hb,h.fr.trans (Ft.of_below (N:=fun _=>False) hb) (fun _ _ x=>x.elim)⟩
end
theorem walk5_any (fnd:ByteArray -> FN) (wd:Nat) (hfo:FndOk wd fnd) (hwd32:wd <= 32) (wg:World) (B0 base lb sb c gb xl xa:Nat) (lo hi:ByteArray) (s:Stc B0 base lb c gb xl xa)
 (HF:Hid (∀ (hash:ByteArray) w',hash.size=wd -> Below B0 wg w' -> Calls prog 190 #[.pointer (some ⟨sb,0,none⟩),.string hash] w' fun e w''=>e=.returned (nodeT (fnd hash)) /\ Below w'.heap.size w' w''))
 (HR:Hid (∀ (k:ByteArray) w',okKey k=true -> Below B0 wg w' -> Calls prog 166 #[Value.string k] w' fun e w''=>e=.returned (.agg (rkL k).toArray) /\ Below w'.heap.size w' w'')) :
 ∀ (f:Nat) (hash over under pk:ByteArray) (par p:Option Addr) (cnt:Nat) (L:List UInt8) (w:World),Env5 wg B0 base lb c gb xl xa lo hi w -> LinkAt hash over under par p w -> ParAt par pk w -> LD lb sb cnt 0 w -> Bld c L w -> (∀ q,p=some q -> base <= q.block) -> (hash.size=0 \/ hash.size=wd) -> 500 < cnt + f -> cnt <= 500 -> L.length <= 2400 * cnt →
 Calls prog 147 #[.pointer p,into5 gb c,atV xl xa] w (WP5 lb sb c L (NWk p lb c) w (goF fnd hgW lo hi f hash over under pk cnt) (prL fnd lo hi f hash over under))
 | 0,_,_,_,_,_,_,_,_,_,_,_,_,_,_,_,_,h1,h2,_=>by omega
 | f + 1,hash,over,under,pk,par,p,cnt,L,w,hE,hK,hP,hL,hS,hpb,hsz,h500,hcn,hln=>by
  rcases hK with ⟨he,rfl⟩ | ⟨he,b,rfl,hB⟩
  · exact walk5_none lb sb c gb xl xa lo hi over under pk f fnd cnt L hash he w hE.gx hL hS (by omega) s.n7
  cases hcan:canW over under lo hi with
  | false=>exact walk5_cut lb sb c gb xl xa b lo hi over under pk par f fnd cnt L hash he hcan w hE.gx hB hL hS (by omega) s.n7
  | true =>
  have hskip:(emp hash || !canW over under lo hi)=false:=by rw [he,hcan];rfl
  have hwd:hash.size=wd:=by
   rcases hsz with h | h
   · have h9:emp hash=true:=by unfold emp;simp [h]
     rw [he] at h9;cases h9
   · exact h
  have hbb:base <= b:=hpb _ rfl
  have HI:=into_yes b gb c hash over under par lo hi w hB hcan hE.gx
  have hsmall:(fnd hash).2=0 -> (fnd hash).1.1.size <= 256 /\ (fnd hash).1.2.1.size <= 2000:=fun hz=>by
   obtain ⟨okk,okv,_,_⟩:=hfo.node hash hz
   unfold okKey at okk
   unfold okVal at okv
   have okk:=of_decide_eq_true okk
   have okv:=of_decide_eq_true okv
   omega
  have HB:Hid (∀ w0,Below w.heap.size w w0 -> Calls prog 149 #[.pointer (some ⟨b,0,none⟩),.int .i64 0,.pointer (some ⟨xl,0,none⟩),.pointer (some ⟨xa,0,none⟩)] w0 fun e w'=>e=.returned (.bool (decide (codeF fnd hash over under pk (cnt + 1)=0))) /\ Ft c (fun q=>q=b \/ q=lb \/ q=c) w0 w' /\ LD lb sb (cnt + 1) (codeF fnd hash over under pk (cnt + 1)) w' /\ (codeF fnd hash over under pk (cnt + 1)=0 -> Kids b hash over under par (fnd hash).1.1 (fnd hash).1.2.1 (fnd hash).1.2.2.1 (fnd hash).1.2.2.2 w0 w' /\ Bld c (L ++ 70 :: (sized (fnd hash).1.1.data.toList ++ sized (fnd hash).1.2.1.data.toList)) w')):=fun w0 hb0 =>
   g1_before fnd wg B0 base lb sb c gb xl xa b hash over under pk par lo hi cnt L w0 s (hE.below s hb0) (hfo.code hash) (fun hz=>by have:=hsmall hz;omega) (hL.below hb0) ((hb0.block b (Array.getElem?_eq_some_iff.1 hB).1).trans hB) (hP.fr (Fr.of_below (base:=0) (N:=fun _=>False) hb0) (fun _ _ h=>h)) (hS.below hb0) hcn hbb (by omega) (fun w' h'=>HF.out hash w' hwd h') (fun w' h' hz=>HR.out _ w' (hfo.node hash hz).1 h')
  by_cases hC:codeF fnd hash over under pk (cnt + 1)=0
  · obtain ⟨hz,hfit,hc5⟩:=codeF_zero hC
    obtain ⟨okk,okv,okl,okr⟩:=hfo.node hash hz
    have hke:emp (fnd hash).1.1=false:=by
     have h9:1 <= (fnd hash).1.1.size:=by
      unfold okKey at okk
      simp at okk
      omega
     unfold emp
     exact decide_eq_false (by omega)
    have hfe:fnd hash=(((fnd hash).1.1,(fnd hash).1.2.1,(fnd hash).1.2.2.1,(fnd hash).1.2.2.2),0):=by rw [<- hz]
    obtain ⟨LR,hLR⟩:∃ LR,goF fnd hgW lo hi f (fnd hash).1.2.2.1 over (fnd hash).1.1 (fnd hash).1.1 (cnt + 1)=LR:=⟨_,rfl⟩
    obtain ⟨RR,hRR⟩:∃ RR,goF fnd hgW lo hi f (fnd hash).1.2.2.2 (fnd hash).1.1 under (fnd hash).1.1 LR.2.1=RR:=⟨_,rfl⟩
    obtain ⟨LX,hLX⟩:∃ LX,prL fnd lo hi f (fnd hash).1.2.2.1 over (fnd hash).1.1=LX:=⟨_,rfl⟩
    obtain ⟨RX,hRX⟩:∃ RX,prL fnd lo hi f (fnd hash).1.2.2.2 (fnd hash).1.1 under=RX:=⟨_,rfl⟩
    rw [goF_node hskip hfe hfit hc5 hLR hRR,prL_f he hcan,hLX,hRX]
    have IL:=fun par' p' L' w'=>walk5_any fnd wd hfo hwd32 wg B0 base lb sb c gb xl xa lo hi s HF HR f (fnd hash).1.2.2.1 over (fnd hash).1.1 (fnd hash).1.1 par' p' (cnt + 1) L' w'
    have IR:=fun par' p' L' w'=>walk5_any fnd wd hfo hwd32 wg B0 base lb sb c gb xl xa lo hi s HF HR f (fnd hash).1.2.2.2 (fnd hash).1.1 under (fnd hash).1.1 par' p' LR.2.1 L' w'
    have hcl:LR.1=0 -> cnt + 1 <= LR.2.1 /\ LR.2.1 <= 500:=fun h=>by rw [<- hLR] at h ⊢;exact goF_cnt f _ _ _ _ _ hc5 h
    have hll:LR.1=0 -> LX.length + 2400 * (cnt + 1) <= 2400 * LR.2.1 + 40:=fun h=>by
     rw [<- hLX]
     rw [<- hLR] at h ⊢
     exact prL_len hfo hwd32 f _ _ _ _ _ hc5 okl h
    rw [hLR,hLX] at IL
    rw [hRR,hRX] at IR
    rw [hC] at HB
    rw [decide_eq_true rfl] at HB
    obtain ⟨L1,hL1⟩:∃ L1,L ++ 70 :: (sized (fnd hash).1.1.data.toList ++ sized (fnd hash).1.2.1.data.toList)=L1:=⟨_,rfl⟩
    have hl1:L1.length <= 2400 * cnt + 2261:=by
     rw [<- hL1]
     simp only [List.length_append,List.length_cons,sized_len]
     have e1:(fnd hash).1.1.data.toList.length=(fnd hash).1.1.size:=rfl
     have e2:(fnd hash).1.2.1.data.toList.length=(fnd hash).1.2.1.size:=rfl
     have:=hsmall hz
     omega
    have hfin:L ++ ((70 :: (sized (fnd hash).1.1.data.toList ++ sized (fnd hash).1.2.1.data.toList)) ++ (LX ++ RX))=L1 ++ LX ++ RX:=by rw [<- hL1];simp
    rw [hL1] at HB
    generalize (70 :: (sized (fnd hash).1.1.data.toList ++ sized (fnd hash).1.2.1.data.toList)) ++ (LX ++ RX)=FX at hfin ⊢
    clear hL1 hLX hRX hsmall
    generalize (fnd hash).1.1=k at *
    generalize (fnd hash).1.2.1=v at *
    generalize (fnd hash).1.2.2.1=l at *
    generalize (fnd hash).1.2.2.2=r at *
    have K1:Hid (∀ w2,Below w.heap.size w w2 -> Calls prog 149 #[.pointer (some ⟨b,0,none⟩),.int .i64 0,.pointer (some ⟨xl,0,none⟩),.pointer (some ⟨xa,0,none⟩)] w2 fun e w3=>e=.returned (.bool true) /\ ∃ pl pr gl gr,Ar5 wg B0 base lb sb c gb xl xa lo hi b w (cnt + 1) L1 w3 /\ RightAt base b w hash over under par k v l r pl pr gr w3 /\ LeftAt base w over k l pl pr gl w3):=fun w2 hb2=>by
     refine (HB.out w2 hb2).mono ?_
     rintro e w3 ⟨rfl,f3,hL3,hk3⟩
     obtain ⟨⟨pl,pr,gl,gr,h1,h2,h3,h4,h5,h6,h7,h8⟩,hS3⟩:=hk3 rfl
     have hs2:=hb2.size
     have hw2:base <= w2.heap.size:=Nat.le_trans hE.hs hs2
     have e3:=(hE.below s hb2).ft s f3 (fun q hq=>by rcases hq with e | e | e;exact .inr (.inr (by omega));exact .inl e;exact .inr (.inl e))
     refine ⟨rfl,pl,pr,gl,gr,⟨e3,hL3,hS3,(Ft.of_below hb2).trans f3 (fun q _ e=>by rcases e with e | e | e;exact .inl ⟨_,rfl,e⟩;exact .inr (.inl e);exact .inr (.inr e))⟩,⟨h1,h4,h5,fun q hq=>?_⟩,⟨h2,h3,fun q hq=>?_,fun q q' hq hq'=>Nat.ne_of_lt (h8 q q' hq hq')⟩⟩
     · have:=h7 q hq;omega
     · have:=h6 q hq;omega
    have K3:Hid (∀ pl pr gl gr w4,Ar5 wg B0 base lb sb c gb xl xa lo hi b w (cnt + 1) L1 w4 -> RightAt base b w hash over under par k v l r pl pr gr w4 -> LeftAt base w over k l pl pr gl w4 -> Calls prog 147 #[.pointer pl,into5 gb c,atV xl xa] w4 fun e w5=>e=.returned (.bool (decide (LR.1=0))) /\ (LR.1=0 -> Ar5 wg B0 base lb sb c gb xl xa lo hi b w LR.2.1 (L1 ++ LX) w5 /\ RightAt base b w hash over under par k v l r pl pr gr w5) /\ (LR.1 ≠ 0 -> (∃ m,LD lb sb m LR.1 w5) /\ Ft c (NWk (some ⟨b,0,none⟩) lb c) w w5)):=fun pl pr gl gr w4 hA hR hF=>by
     refine (IL (some ⟨gl,0,none⟩) pl L1 w4 hA.env hF.lk (.inr ⟨hke,gl,rfl,hF.rk⟩) hA.ld hA.ls (fun q hq=>(hF.hp q hq).1) okl (by omega) hc5 (by omega)).mono ?_
     rintro e w5 ⟨rfl,f5,g5,n5⟩
     obtain ⟨bcs,hbt⟩:=hA.ls.ty
     have hN:∀ q,NWk pl lb c q -> q=lb \/ q=c \/ base <= q:=fun q hq=>by
      rcases hq with ⟨x,hx,e⟩ | e | e
      · have:=(hF.hp x hx).1;exact .inr (.inr (by omega))
      · exact .inl e
      · exact .inr (.inl e)
     have hfr:Ft c (NWk (some ⟨b,0,none⟩) lb c) w w5:=hA.fr.trans f5 (fun q hq e=>by
      rcases e with ⟨x,hx,e⟩ | e | e
      · have:=(hF.hp x hx).2;omega
      · exact .inr (.inl e)
      · exact .inr (.inr e))
     have l4:=s.l4
     have l5:=s.l5
     have hnb:¬ NWk pl lb c b:=fun hq=>by
      rcases hq with ⟨x,hx,e⟩ | e | e
      · have:=(hF.hp x hx).2;have:=(Array.getElem?_eq_some_iff.1 hB).1;omega
      · omega
      · omega
     have hnr:∀ q,pr=some q -> ¬ NWk pl lb c q.block:=fun q hq hx=>by
      have h1:=(hR.hp q hq).1
      rcases hx with ⟨x,hx,e⟩ | e | e
      · exact hF.ne x q hx hq e.symm
      · omega
      · omega
     have hng:¬ NWk pl lb c gr:=fun hx=>by
      rcases hx with ⟨x,hx,e⟩ | e | e
      · rcases hF.lk with ⟨_,h⟩ | ⟨_,q,h,hq⟩
        · rw [h] at hx;cases hx
        · rw [h] at hx;cases hx;exact ne_of_type hR.rk hq (by decide) e
      · exact ne_of_type hR.rk hA.ld (by decide) e
      · exact ne_of_type hR.rk hbt (by decide) e
     refine ⟨rfl,fun h0=>⟨⟨hA.env.ft s f5 hN,(g5 h0).1,(g5 h0).2,hfr⟩,⟨f5.keep hR.bf hnb (by decide),hR.lk.ft f5 hnr,f5.keep hR.rk hng (by decide),hR.hp⟩⟩,fun h0=>⟨n5 h0,hfr⟩⟩
    have K4:Hid (∀ w5 L' m,Ar5 wg B0 base lb sb c gb xl xa lo hi b w m L' w5 -> Calls prog 149 #[.pointer (some ⟨b,0,none⟩),.int .i64 1,.pointer (some ⟨xl,0,none⟩),.pointer (some ⟨xa,0,none⟩)] w5 fun e w6=>e=.returned (.bool true) /\ w6=w5):=fun w5 L' m hA=>g1_rest 1 (.inl rfl) b c xl xa w5 hA.env.ax
    have K5:Hid (∀ pl pr gr w6,LR.1=0 -> Ar5 wg B0 base lb sb c gb xl xa lo hi b w LR.2.1 (L1 ++ LX) w6 -> RightAt base b w hash over under par k v l r pl pr gr w6 -> Calls prog 147 #[.pointer pr,into5 gb c,atV xl xa] w6 fun e w7=>e=.returned (.bool (decide (RR.1=0))) /\ (RR.1=0 -> Ar5 wg B0 base lb sb c gb xl xa lo hi b w RR.2.1 (L1 ++ LX ++ RX) w7) /\ (RR.1 ≠ 0 -> (∃ m,LD lb sb m RR.1 w7) /\ Ft c (NWk (some ⟨b,0,none⟩) lb c) w w7)):=fun pl pr gr w6 h0 hA hR=>by
     have q1:=hcl h0
     have q2:=hll h0
     refine (IR (some ⟨gr,0,none⟩) pr _ w6 hA.env hR.lk (.inr ⟨hke,gr,rfl,hR.rk⟩) hA.ld hA.ls (fun q hq=>(hR.hp q hq).1) okr (by omega) q1.2 (by rw [List.length_append];omega)).mono ?_
     rintro e w7 ⟨rfl,f7,g7,n7⟩
     have hN:∀ q,NWk pr lb c q -> q=lb \/ q=c \/ base <= q:=fun q hq=>by
      rcases hq with ⟨x,hx,e⟩ | e | e
      · have:=(hR.hp x hx).1;exact .inr (.inr (by omega))
      · exact .inl e
      · exact .inr (.inl e)
     have hfr:Ft c (NWk (some ⟨b,0,none⟩) lb c) w w7:=hA.fr.trans f7 (fun q hq e=>by
      rcases e with ⟨x,hx,e⟩ | e | e
      · have:=(hR.hp x hx).2;omega
      · exact .inr (.inl e)
      · exact .inr (.inr e))
     refine ⟨rfl,fun hz=>⟨hA.env.ft s f7 hN,(g7 hz).1,(g7 hz).2,hfr⟩,fun hz=>⟨n7 hz,hfr⟩⟩
    have K6:Hid (∀ L' m w7,Ar5 wg B0 base lb sb c gb xl xa lo hi b w m L' w7 -> Calls prog 149 #[.pointer (some ⟨b,0,none⟩),.int .i64 2,.pointer (some ⟨xl,0,none⟩),.pointer (some ⟨xa,0,none⟩)] w7 fun e w8=>e=.returned (.bool true) /\ w8=w7):=fun L' m w7 hA=>g1_rest 2 (.inr rfl) b c xl xa w7 hA.env.ax
    have K2:Hid (∀ pl pr gl gr w3,Ar5 wg B0 base lb sb c gb xl xa lo hi b w (cnt + 1) L1 w3 -> RightAt base b w hash over under par k v l r pl pr gr w3 -> LeftAt base w over k l pl pr gl w3 -> Calls prog 230 #[.pointer (some ⟨b,0,none⟩)] w3 fun e w4=>e=.returned (.tuple #[.pointer pl,.pointer pr]) /\ Ar5 wg B0 base lb sb c gb xl xa lo hi b w (cnt + 1) L1 w4 /\ RightAt base b w hash over under par k v l r pl pr gr w4 /\ LeftAt base w over k l pl pr gl w4):=fun pl pr gl gr w3 hA hR hF=>by
     refine (subsB_any b hash over under par k v l r pl pr w3 hR.bf).mono ?_
     rintro e w4 ⟨rfl,hb4⟩
     exact ⟨rfl,hA.below s hb4,hR.below hb4,hF.below hb4⟩
    have hm : ∀ w' : World, (method 427 166 (.pointer (some ⟨b, 0, none⟩)) "loop.example/s03048/impl.subtrees").run prog w' = .ok (230, .pointer (some ⟨b, 0, none⟩)) w' := fun _ => by kernel_rfl
    clear IL IR HB hLR hRR hfe hE hP hL hS hB hcl hll okk okv okl okr hC hfit HF HR hfo hl1 hln
    by_cases hl0:LR.1=0
    · rw [if_neg (fun h=>h hl0)]
      rw [decide_eq_true hl0] at K3
      have K3':Hid (∀ pl pr gl gr w4,Ar5 wg B0 base lb sb c gb xl xa lo hi b w (cnt + 1) L1 w4 -> RightAt base b w hash over under par k v l r pl pr gr w4 -> LeftAt base w over k l pl pr gl w4 -> Calls prog 147 #[.pointer pl,into5 gb c,atV xl xa] w4 fun e w5=>e=.returned (.bool true) /\ Ar5 wg B0 base lb sb c gb xl xa lo hi b w LR.2.1 (L1 ++ LX) w5 /\ RightAt base b w hash over under par k v l r pl pr gr w5):=fun pl pr gl gr w4 h1 h2 h3=>by
       refine (K3.out pl pr gl gr w4 h1 h2 h3).mono ?_
       rintro e w5 ⟨he5,h5,_⟩
       exact ⟨he5,h5 hl0⟩
      by_cases hr0:RR.1=0
      · rw [if_neg (fun h=>h hr0)]
        rw [decide_eq_true hr0] at K5
        have HP:Hid (∀ X w8,Ar5 wg B0 base lb sb c gb xl xa lo hi b w RR.2.1 (L1 ++ LX ++ RX) w8 -> WP5 lb sb c L (NWk (some ⟨b,0,none⟩) lb c) w (0,RR.2.1,X) FX (.returned (.bool true)) w8):=fun X w8 hA=>⟨rfl,hA.fr,fun _=>⟨hA.ld,by rw [hfin];exact hA.ls⟩,fun h=>absurd rfl h⟩
        have K5':Hid (∀ pl pr gr w6,Ar5 wg B0 base lb sb c gb xl xa lo hi b w LR.2.1 (L1 ++ LX) w6 -> RightAt base b w hash over under par k v l r pl pr gr w6 -> Calls prog 147 #[.pointer pr,into5 gb c,atV xl xa] w6 fun e w7=>e=.returned (.bool true) /\ Ar5 wg B0 base lb sb c gb xl xa lo hi b w RR.2.1 (L1 ++ LX ++ RX) w7):=fun pl pr gr w6 h1 h2=>by
         refine (K5.out pl pr gr w6 hl0 h1 h2).mono ?_
         rintro e w7 ⟨he7,h7,_⟩
         exact ⟨he7,h7 hr0⟩
        generalize LR.2.2 ++ (if hasW lo hi k=true then [(k,v)] else []) ++ RR.2.2=PX
        clear K3 K5 hl0 hr0 hfin
        go_enter func147,ntmps147
        go_wp2_with (first | (go_at_call 108;refine HI.mono ?_;rintro e w2 ⟨rfl,hb2⟩) | (go_at_call_of 149 (Value.int .i64 0);refine (K1.out _ hb2).mono ?_;rintro e w3 ⟨rfl,pl,pr,gl,gr,hA3,hR3,hF3⟩) | (go_at_call 230;refine (K2.out _ _ _ _ _ hA3 hR3 hF3).mono ?_;rintro e w4 ⟨rfl,hA4,hR4,hF4⟩) | (go_at_call_of 147 (Value.pointer pl);refine (K3'.out _ _ _ _ _ hA4 hR4 hF4).mono ?_;rintro e w5 ⟨rfl,hA5,hR5⟩) | (go_at_call_of 149 (Value.int .i64 1);refine (K4.out _ _ _ hA5).mono ?_;rintro e w6 ⟨rfl,rfl⟩) | (go_at_call_of 147 (Value.pointer pr);refine (K5'.out _ _ _ _ hA5 hR5).mono ?_;rintro e w7 ⟨rfl,hA7⟩) | (go_at_call_of 149 (Value.int .i64 2);refine (K6.out _ _ _ hA7).mono ?_;rintro e w8 ⟨rfl,rfl⟩))
        go_ret
        exact HP.out _ _ hA7
      · rw [if_pos hr0]
        rw [decide_eq_false hr0] at K5
        have K5':Hid (∀ pl pr gr w6,Ar5 wg B0 base lb sb c gb xl xa lo hi b w LR.2.1 (L1 ++ LX) w6 -> RightAt base b w hash over under par k v l r pl pr gr w6 -> Calls prog 147 #[.pointer pr,into5 gb c,atV xl xa] w6 fun e w7=>e=.returned (.bool false) /\ WP5 lb sb c L (NWk (some ⟨b,0,none⟩) lb c) w (RR.1,0,[]) FX (.returned (.bool false)) w7):=fun pl pr gr w6 h1 h2=>by
         refine (K5.out pl pr gr w6 hl0 h1 h2).mono ?_
         rintro e w7 ⟨he7,_,h7⟩
         exact ⟨he7,by rw [decide_eq_false hr0],(h7 hr0).2,fun h=>absurd h hr0,fun _=>(h7 hr0).1⟩
        clear K3 K5 hl0 hr0 K6 hfin
        go_enter func147,ntmps147
        go_wp2_with (first | (go_at_call 108;refine HI.mono ?_;rintro e w2 ⟨rfl,hb2⟩) | (go_at_call_of 149 (Value.int .i64 0);refine (K1.out _ hb2).mono ?_;rintro e w3 ⟨rfl,pl,pr,gl,gr,hA3,hR3,hF3⟩) | (go_at_call 230;refine (K2.out _ _ _ _ _ hA3 hR3 hF3).mono ?_;rintro e w4 ⟨rfl,hA4,hR4,hF4⟩) | (go_at_call_of 147 (Value.pointer pl);refine (K3'.out _ _ _ _ _ hA4 hR4 hF4).mono ?_;rintro e w5 ⟨rfl,hA5,hR5⟩) | (go_at_call_of 149 (Value.int .i64 1);refine (K4.out _ _ _ hA5).mono ?_;rintro e w6 ⟨rfl,rfl⟩) | (go_at_call_of 147 (Value.pointer pr);refine (K5'.out _ _ _ _ hA5 hR5).mono ?_;rintro e w7 ⟨rfl,hA7⟩))
        go_ret
        exact hA7
    · rw [if_pos hl0]
      rw [decide_eq_false hl0] at K3
      have K3':Hid (∀ pl pr gl gr w4,Ar5 wg B0 base lb sb c gb xl xa lo hi b w (cnt + 1) L1 w4 -> RightAt base b w hash over under par k v l r pl pr gr w4 -> LeftAt base w over k l pl pr gl w4 -> Calls prog 147 #[.pointer pl,into5 gb c,atV xl xa] w4 fun e w5=>e=.returned (.bool false) /\ WP5 lb sb c L (NWk (some ⟨b,0,none⟩) lb c) w (LR.1,0,[]) FX (.returned (.bool false)) w5):=fun pl pr gl gr w4 h1 h2 h3=>by
       refine (K3.out pl pr gl gr w4 h1 h2 h3).mono ?_
       rintro e w5 ⟨he5,_,h5⟩
       exact ⟨he5,by rw [decide_eq_false hl0],(h5 hl0).2,fun h=>absurd h hl0,fun _=>(h5 hl0).1⟩
      clear K3 K5 K4 hl0 K6 hfin
      go_enter func147,ntmps147
      go_wp2_with (first | (go_at_call 108;refine HI.mono ?_;rintro e w2 ⟨rfl,hb2⟩) | (go_at_call_of 149 (Value.int .i64 0);refine (K1.out _ hb2).mono ?_;rintro e w3 ⟨rfl,pl,pr,gl,gr,hA3,hR3,hF3⟩) | (go_at_call 230;refine (K2.out _ _ _ _ _ hA3 hR3 hF3).mono ?_;rintro e w4 ⟨rfl,hA4,hR4,hF4⟩) | (go_at_call_of 147 (Value.pointer pl);refine (K3'.out _ _ _ _ _ hA4 hR4 hF4).mono ?_;rintro e w5 ⟨rfl,hA5⟩))
      go_ret
      exact hA5
  · rw [goF_code hskip hC]
    obtain ⟨C,hCC⟩:∃ C,codeF fnd hash over under pk (cnt + 1)=C:=⟨_,rfl⟩
    rw [hCC] at HB hC ⊢
    have HP:Hid (∀ X w0 w',Below w.heap.size w w0 -> Ft c (fun q=>q=b \/ q=lb \/ q=c) w0 w' -> LD lb sb (cnt + 1) C w' -> WP5 lb sb c L (NWk (some ⟨b,0,none⟩) lb c) w (C,0,[]) X (.returned (.bool false)) w'):=fun X w0 w' hb0 f2 hL2=>⟨by rw [decide_eq_false hC],(Ft.of_below hb0).trans f2 (fun q _ e=>by rcases e with e | e | e;exact .inl ⟨_,rfl,e⟩;exact .inr (.inl e);exact .inr (.inr e)),fun h=>absurd h hC,fun _=>⟨_,hL2⟩⟩
    rw [decide_eq_false hC] at HB
    generalize prL fnd lo hi (f + 1) hash over under=FX
    clear hCC hE hP hL hS hB HF HR
    go_enter func147,ntmps147
    go_wp2_with (first | (go_at_call 108;refine HI.mono ?_;rintro e w2 ⟨rfl,hb2⟩) | (go_at_call 149;refine (HB.out _ hb2).mono ?_;rintro e w3 ⟨rfl,f3,hL3,_⟩))
    go_ret
    exact HP.out _ _ _ hb2 f3 hL3
theorem node_put_f (f:Nat) (F:Int) (hFf:F=(f:Int)) (hf:F=0 \/ F=1 \/ F=2 \/ F=3) (b:Nat) (n:Int) (k v l r:ByteArray) (q:List UInt8) (w:World) (h:Bld b q w) (hq:q.length <= 1000) (hk:k.size <= 256) (hv:v.size <= 2000) (hl:l.size <= 32) (hr:r.size <= 32)
 (HF:Hid (∀ w',Calls prog 248 #[.agg #[.string k,.string v,.string l,.string r]] w' fun e w''=>e=.returned (.int .i64 F) /\ Below w'.heap.size w' w'')) :
 Calls prog 246 #[.agg #[.int .i64 n],.pointer (some ⟨b,0,none⟩),.agg #[.string k,.string v,.string l,.string r]] w fun e w'=>e=.returned (.tuple #[]) /\ Put b (q ++ sized k.data.toList ++ sized v.data.toList ++ [UInt8.ofNat f] ++ l.data.toList ++ r.data.toList) w w':=by
 have hlt:=h.lt
 obtain ⟨m1,hm1⟩:∃ m,q ++ sized k.data.toList=m:=⟨_,rfl⟩
 have z1:m1.length <= 2000:=by rw [<- hm1,List.length_append];show q.length + (k.size + 1 + 1) <= _;omega
 obtain ⟨m2,hm2⟩:∃ m,m1 ++ sized v.data.toList=m:=⟨_,rfl⟩
 have z2:m2.length <= 5000:=by rw [<- hm2,List.length_append];show m1.length + (v.size + 1 + 1) <= _;omega
 obtain ⟨m3,hm3⟩:∃ m,m2 ++ [UInt8.ofNat f]=m:=⟨_,rfl⟩
 have z3:m3.length <= 5001:=by rw [<- hm3,List.length_append];show m2.length + 1 <= _;omega
 obtain ⟨m4,hm4⟩:∃ m,m3 ++ l.data.toList=m:=⟨_,rfl⟩
 have z4:m4.length <= 6000:=by rw [<- hm4,List.length_append];show m3.length + l.size <= _;omega
 have HA:Hid (∀ w',Bld b q w' -> Calls prog 224 #[.pointer (some ⟨b,0,none⟩),.iface 261 (.agg #[.int .i64 2,.bool false]),.string k] w' fun e w''=>e=.returned (.tuple #[]) /\ Put b m1 w' w''):=fun w' h'=>by rw [<- hm1];exact wsized2 b k q w' h' (by omega)
 have HB:Hid (∀ w',Bld b m1 w' -> Calls prog 224 #[.pointer (some ⟨b,0,none⟩),.iface 261 (.agg #[.int .i64 2,.bool false]),.string v] w' fun e w''=>e=.returned (.tuple #[]) /\ Put b m2 w' w''):=fun w' h'=>by rw [<- hm2];exact wsized2 b v m1 w' h' (by omega)
 have HC:Hid (∀ w',Bld b m2 w' -> Calls prog 223 #[.pointer (some ⟨b,0,none⟩),.iface 208 (.agg #[.int .i64 1,.bool false]),.int .i64 F] w' fun e w''=>e=.returned (.tuple #[]) /\ Put b m3 w' w''):=fun w' h'=>by rw [<- hm3,hFf];exact wint1 b f m2 w' h' (by omega) (by omega)
 have HD:Hid (∀ p w',Bld b m3 w' -> Calls prog 224 #[.pointer (some ⟨b,0,none⟩),.iface 214 (.agg #[.int .i64 p]),.string l] w' fun e w''=>e=.returned (.tuple #[]) /\ Put b m4 w' w''):=fun p w' h'=>by rw [<- hm4];exact wplain p b l m3 w' h' (by omega)
 have HE:Hid (∀ p w',Bld b m4 w' -> Calls prog 224 #[.pointer (some ⟨b,0,none⟩),.iface 214 (.agg #[.int .i64 p]),.string r] w' fun e w''=>e=.returned (.tuple #[]) /\ Put b (m4 ++ r.data.toList) w' w''):=fun p w' h'=>wplain p b r m4 w' h' (by omega)
 rw [hm1,hm2,hm3,hm4]
 clear hm1 hm2 hm3 hm4
 have HL:Hid (∀ p w',Calls prog 245 #[.agg #[.int .i64 n],.int .i64 p] w' fun e w''=>∃ p,e=.returned (.agg #[.int .i64 p]) /\ Below w'.heap.size w' w''):=fun p w'=>link_ex n p w'
 obtain ⟨m5,hm5⟩:∃ m,m4 ++ r.data.toList=m:=⟨_,rfl⟩
 rw [hm5] at HE ⊢
 clear hm5 hk hv hl hr hq z1 z2 z3 z4 hFf
 rcases hf with rfl | rfl | rfl | rfl
 all_goals
  go_enter func246,ntmps246
  go_wp2_with (first | (go_at_call 248;refine (HF.out _).mono ?_;rintro e w1 ⟨rfl,hb1⟩))
  have hp1:Put b q w w1:=(((Put.refl h).alloc (.cells #[.int .i64 n] 285)).alloc (.cells #[.string k,.string v,.string l,.string r] 73)).below hb1
  have hf1:w1.heap[w.heap.size]?=some (.cells #[.int .i64 n] 285):=below_cells hb1 (below_cells ((Below.refl _ _).alloc (Nat.le_refl _) _) (heap_alloc_new w (.cells #[.int .i64 n] 285)))
  have hn1:w1.heap[w.heap.size + 1]?=some (.cells #[.string k,.string v,.string l,.string r] 73):=below_cells hb1 (by
   rw [show w.heap.size + 1=(w.alloc (.cells #[.int .i64 n] 285)).heap.size by simp];exact heap_alloc_new _ _)
  clear hb1
  have c0:w1.cell? ⟨w.heap.size + 1,0,none⟩=some (.string k):=ZC hn1 0
  go_wp2_with fail
  go_region_held3 (fun W=>W.cell? ⟨w.heap.size + 1,0,none⟩=some (.string k))
   (first | exact c0 | exact ZC hnA 0 | exact ZC hn2 0)
   (first | (go_at_call 170;refine (kept_any _).mono ?_;rintro e wA ⟨rfl,hbA'⟩;have hbA:Below w1.heap.size w1 wA:=(Below.refl w1.heap.size w1).drew.trans hbA';have hnA:=below_cells hbA hn1) | (go_at_call 224;refine (HA.out _ (hp1.1.below hbA)).mono ?_;rintro e w2 ⟨rfl,hpA⟩;have hn2:=hpA.cells hnA (by omega) (by decide);have hf2:=hpA.cells (below_cells hbA hf1) (by omega) (by decide)))
  have hp2:=(hp1.below hbA).trans hpA
  clear hpA hbA' hbA hnA hp1 hn1 hf1 c0
  have c1:w2.cell? ⟨w.heap.size + 1,1,none⟩=some (.string v):=ZC hn2 1
  go_wp2_with fail
  go_region_held3 (fun W=>W.cell? ⟨w.heap.size + 1,1,none⟩=some (.string v))
   (first | exact c1 | exact ZC hnB 1 | exact ZC hn3 1)
   (first | (go_at_call 170;refine (kept_any _).mono ?_;rintro e wB ⟨rfl,hbB'⟩;have hbB:Below w2.heap.size w2 wB:=(Below.refl w2.heap.size w2).drew.trans hbB';have hnB:=below_cells hbB hn2) | (go_at_call 224;refine (HB.out _ (hp2.1.below hbB)).mono ?_;rintro e w3 ⟨rfl,hpB⟩;have hn3:=hpB.cells hnB (by omega) (by decide);have hf3:=hpB.cells (below_cells hbB hf2) (by omega) (by decide)))
  have hp3:=(hp2.below hbB).trans hpB
  clear hpB hbB' hbB hnB hp2 hn2 hf2 c1
  go_wp2_with (first | (go_at_call 223;refine (HC.out _ hp3.1).mono ?_;rintro e w4 ⟨rfl,hpC⟩))
  have hn4:=hpC.cells hn3 (by omega) (by decide)
  have hf4:=hpC.cells hf3 (by omega) (by decide)
  have hp4:=hp3.trans hpC
  clear hpC hp3 hn3 hf3
  have c2:w4.cell? ⟨w.heap.size + 1,2,none⟩=some (.string l):=ZC hn4 2
  have d2:w4.cell? ⟨w.heap.size,0,none⟩=some (.int .i64 n):=ZC hf4 0
  go_region_held3 (fun W=>W.cell? ⟨w.heap.size + 1,2,none⟩=some (.string l) /\ W.cell? ⟨w.heap.size,0,none⟩=some (.int .i64 n))
   (first | exact ⟨c2,d2⟩ | exact ⟨ZC hnD 2,ZC hfD 0⟩ | exact ⟨ZC hn5 2,ZC hf5 0⟩)
   (first | (go_at_call 245;refine (HL.out _ _).mono ?_;rintro e wD ⟨p,rfl,hbD'⟩;have hbD:Below w4.heap.size w4 wD:=(Below.refl w4.heap.size w4).drew.trans hbD';have hnD:=below_cells hbD hn4;have hfD:=below_cells hbD hf4) | (go_at_call 224;refine (HD.out _ _ (hp4.1.below hbD)).mono ?_;rintro e w5 ⟨rfl,hpD⟩;have hn5:=hpD.cells hnD (by omega) (by decide);have hf5:=hpD.cells hfD (by omega) (by decide)))
  have hp5:=(hp4.below hbD).trans hpD
  clear hpD hbD' hbD hnD hp4 hn4 hf4 c2 d2 hfD
  have c3:w5.cell? ⟨w.heap.size + 1,3,none⟩=some (.string r):=ZC hn5 3
  have d3:w5.cell? ⟨w.heap.size,0,none⟩=some (.int .i64 n):=ZC hf5 0
  go_wp2_with fail
  go_region_held3 (fun W=>W.cell? ⟨w.heap.size + 1,3,none⟩=some (.string r) /\ W.cell? ⟨w.heap.size,0,none⟩=some (.int .i64 n))
   (first | exact ⟨c3,d3⟩ | exact ⟨ZC hnE 3,ZC hfE 0⟩ | exact ⟨ZC hn6 3,ZC hf6 0⟩)
   (first | (go_at_call 245;refine (HL.out _ _).mono ?_;rintro e wE ⟨p2,rfl,hbE'⟩;have hbE:Below w5.heap.size w5 wE:=(Below.refl w5.heap.size w5).drew.trans hbE';have hnE:=below_cells hbE hn5;have hfE:=below_cells hbE hf5) | (go_at_call 224;refine (HE.out _ _ (hp5.1.below hbE)).mono ?_;rintro e w6 ⟨rfl,hpE⟩;have hn6:=hpE.cells hnE (by omega) (by decide);have hf6:=hpE.cells hfE (by omega) (by decide)))
  go_wp2
  go_end0
  exact ⟨rfl,(hp5.below hbE).trans hpE⟩
def szAt (s:ByteArray) (a:Nat):Nat:=(s.data.toList.getD a 0).toNat * 256 + (s.data.toList.getD (a + 1) 0).toNat
theorem szAt_le (s:ByteArray) (a:Nat):szAt s a <= 65535:=by
 unfold szAt
 have h1:=(s.data.toList.getD a 0).toNat_lt
 have h2:=(s.data.toList.getD (a + 1) 0).toNat_lt
 omega
theorem szAt_w (s:ByteArray) (a:Nat) (h1:a < s.size) (h2:a + 1 < s.size):wrap64 (wrap64 (wrap64 (s[a].toNat:Int) * 256) + wrap64 (s[a + 1].toNat:Int))=(szAt s a:Int):=by
 rw [bget s _ h1,bget s _ h2]
 unfold szAt
 have h3:=(s.data.toList.getD a 0).toNat_lt
 have h4:=(s.data.toList.getD (a + 1) 0).toNat_lt
 unfold wrap64
 omega
def pieceOk (s:ByteArray) (a:Nat):Prop:=a + 2 <= s.size /\ a + 2 + szAt s a <= s.size
theorem piece_short (s:ByteArray) (a:Nat) (w:World) (_hs:s.size <= 1048576) (ha:a <= 2097152) (h1:s.size < a + 2) :
 Calls prog 138 #[.string s,.int .i64 (a:Int)] w fun e w'=>e=.returned (.tuple #[.string ⟨#[]⟩,.int .i64 0,.bool false]) /\ Below w.heap.size w w':=by
 have z0:¬ ((a:Int) < 0):=by omega
 have z1:IntKind.i64.wrap ((a:Int) + 2)=(a:Int) + 2:=wrap_i64_in _ (by omega) (by omega)
 have z2:decide ((s.size:Int) < (a:Int) + 2)=true:=by simp;omega
 go_enter func138,ntmps138
 go_wp2_with fail
 go_ret3
 exact ⟨rfl,Below.refl _ _⟩
theorem piece_over (s:ByteArray) (a:Nat) (w:World) (hs:s.size <= 1048576) (h1:a + 2 <= s.size) (h2:s.size < a + 2 + szAt s a) :
 Calls prog 138 #[.string s,.int .i64 (a:Int)] w fun e w'=>e=.returned (.tuple #[.string ⟨#[]⟩,.int .i64 0,.bool false]) /\ Below w.heap.size w w':=by
 have z0:¬ ((a:Int) < 0):=by omega
 have z1:IntKind.i64.wrap ((a:Int) + 2)=(a:Int) + 2:=wrap_i64_in _ (by omega) (by omega)
 have z2:decide ((s.size:Int) < (a:Int) + 2)=false:=by simp;omega
 have z3:(0:Int) <= (a:Int):=by omega
 have z4:(a:Int) < (s.size:Int):=by omega
 have z5:IntKind.i64.wrap ((a:Int) + 1)=(a:Int) + 1:=wrap_i64_in _ (by omega) (by omega)
 have z6:(0:Int) <= (a:Int) + 1:=by omega
 have z7:(a:Int) + 1 < (s.size:Int):=by omega
 go_enter func138,ntmps138
 go_wp2_with fail
 go_region
 rw [szAt_w s a (by omega) (by omega)]
 obtain ⟨m,hm⟩:∃ m,szAt s a=m:=⟨_,rfl⟩
 have hm':=szAt_le s a
 rw [hm] at h2 hm' ⊢
 have y1:IntKind.i64.wrap ((a:Int) + 2 + (m:Int))=(a:Int) + 2 + (m:Int):=wrap_i64_in _ (by omega) (by omega)
 have y2:decide ((s.size:Int) < (a:Int) + 2 + (m:Int))=true:=by simp;omega
 go_wp2_with fail
 go_ret3
 exact ⟨rfl,(Below.refl _ _).drew⟩
theorem piece_ok (s:ByteArray) (a:Nat) (w:World) (hs:s.size <= 1048576) (h2:a + 2 + szAt s a <= s.size) :
 Calls prog 138 #[.string s,.int .i64 (a:Int)] w fun e w'=>∃ t,e=.returned (.tuple #[.string t,.int .i64 ((a + 2 + szAt s a:Nat):Int),.bool true]) /\ Hid (t=s.extract (a + 2) (a + 2 + szAt s a)) /\ Below w.heap.size w w':=by
 have z0:¬ ((a:Int) < 0):=by omega
 have z1:IntKind.i64.wrap ((a:Int) + 2)=(a:Int) + 2:=wrap_i64_in _ (by omega) (by omega)
 have z2:decide ((s.size:Int) < (a:Int) + 2)=false:=by simp;omega
 have z3:(0:Int) <= (a:Int):=by omega
 have z4:(a:Int) < (s.size:Int):=by omega
 have z5:IntKind.i64.wrap ((a:Int) + 1)=(a:Int) + 1:=wrap_i64_in _ (by omega) (by omega)
 have z6:(0:Int) <= (a:Int) + 1:=by omega
 have z7:(a:Int) + 1 < (s.size:Int):=by omega
 go_enter func138,ntmps138
 go_wp2_with fail
 go_region
 rw [szAt_w s a (by omega) (by omega)]
 obtain ⟨m,hm⟩:∃ m,szAt s a=m:=⟨_,rfl⟩
 rw [hm] at h2 ⊢
 have HM:Hid (szAt s a=m):=hm
 clear hm
 have y1:IntKind.i64.wrap ((a:Int) + 2 + (m:Int))=(a:Int) + 2 + (m:Int):=wrap_i64_in _ (by omega) (by omega)
 have y2:decide ((s.size:Int) < (a:Int) + 2 + (m:Int))=false:=by simp;omega
 have y3:(0:Int) <= (a:Int) + 2:=by omega
 have y4:(a:Int) + 2 <= (a:Int) + 2 + (m:Int):=by omega
 have y5:(a:Int) + 2 + (m:Int) <= (s.size:Int):=by omega
 go_wp2_with fail
 go_ret3
 exact ⟨s.extract (a + 2) (a + 2 + m),by rw [HM.out];rfl,by show s.extract (a + 2) (a + 2 + m)=_;rw [HM.out],(Below.refl _ _).drew⟩
end Go.Proofs.YtibjhkpgaaapaaaGreatDoor
