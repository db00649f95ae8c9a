import Derived.Test.YtibjhkpgaaapaaaGreatDoorZhbf
import Derived.Test.YtibjhkpgaaapaaaGreatDoorZhad
set_option maxRecDepth 100000
set_option maxHeartbeats 4000000
namespace Go.Proofs.YtibjhkpgaaapaaaGreatDoor
open Go.RowKit Go.Proofs.Sha Tryz
theorem encsT_size (wd:Nat):∀ (t:Tr PairT),∀ e ∈ encsT wd t,e.size <= 10000
 | .nil,e,h=>by cases h
 | .node l x r,e,h=>by
  rw [encsT,List.mem_append,List.mem_append] at h
  rcases h with (h | h) | h
  · exact encsT_size wd l e h
  · exact encsT_size wd r e h
  · rw [List.mem_singleton] at h
    rw [h]
    exact (encS_size x.1 x.2 (rootT wd l) (rootT wd r) wd).1
theorem row_sarg {W:World} {base g n c:Nat} {xs:List ByteArray} (h:Row W base g n c (xs.map Value.string)) (hl:xs.length <= 1048576) (hs:∀ j,(xs.getD j ⟨#[]⟩).size <= 1048576):SArg (some ⟨g,0,none⟩) xs W:=by
 have hn:n=xs.length:=by have:=h.len;rw [List.length_map] at this;exact this.symm
 subst hn
 refine ⟨hl,hs,fun _=>⟨g,0,rfl,h.lt,fun j hj=>?_⟩⟩
 rw [Nat.zero_add,h.cell j hj,List.getElem?_map,List.getElem?_eq_getElem hj,List.getD_eq_getElem?_getD,List.getElem?_eq_getElem hj]
 rfl
theorem same_hit (wd:Nat) (X:List ByteArray) (H:ByteArray):firstI (sameB (X.map (hashT wd)) H) X.length=firstI (hitB wd X H) X.length :=
 firstI_congr fun j hj=>by
  unfold sameB hitB
  rw [<- hashT_hit]
  congr 2
  rw [List.getD_eq_getElem?_getD,List.getD_eq_getElem?_getD,List.getElem?_map,List.getElem?_eq_getElem hj]
  rfl
structure MS (w:World) (gp go ge wd:Nat) (a:Option Addr) (N c K ce:Nat) (es xs ys:List ByteArray) (gh ch:Nat) (ao:Option Addr) (co:Nat) (W:World):Prop where
 par:W.heap[gp]?=some (.cells #[.int .i64 (wd:Int),.slice a N c] 31)
 res:SB (gp + 1) 0 0 none 0 0 ⟨#[]⟩ ⟨#[]⟩ ⟨#[]⟩ W
 out:W.heap[go]?=some (.cells #[.int .i64 (wd:Int),.slice ao xs.length co] 31)
 own:OwnT w xs ao xs.length co W
 hs:Row W w.heap.size gh ys.length ch ((ys.map (hashT wd)).map Value.string)
 enc:Row W w.heap.size ge K ce (es.map Value.string)
 n1:gh ≠ gp /\ gh ≠ gp + 1 /\ gh ≠ go /\ gh ≠ ge
 n2:ge ≠ gp /\ ge ≠ gp + 1 /\ ge ≠ go
 n3:∀ g,(Value.slice ao xs.length co).ownBlock=some g -> g ≠ gh /\ g ≠ ge
 n4:go ≠ gp /\ w.heap.size <= go
section
variable {w:World} {gp go ge wd:Nat} {a:Option Addr} {N c K ce:Nat} {es xs ys:List ByteArray} {gh ch:Nat} {ao:Option Addr} {co:Nat} {W:World}
theorem MS.below (h:MS w gp go ge wd a N c K ce es xs ys gh ch ao co W) {W':World} (hb:Below W.heap.size W W'):MS w gp go ge wd a N c K ce es xs ys gh ch ao co W' :=
 ⟨pblk_below hb h.par,pblk_below hb h.res,pblk_below hb h.out,h.own.below hb,h.hs.below hb,h.enc.below hb,h.n1,h.n2,h.n3,h.n4⟩
theorem MS.notOwn (h:MS w gp go ge wd a N c K ce es xs ys gh ch ao co W) {q:Nat} {cs:Array Value} {t:TypeId} (hq:W.heap[q]?=some (.cells cs t)) (ht:t ≠ 9):some q ≠ (Value.slice ao xs.length co).ownBlock:=fun e=>by
 obtain ⟨_,_,cur,h9⟩:=ownG_cells h.own.own e.symm
 rw [hq] at h9
 simp at h9
 exact ht h9.2
theorem MS.addOut (h:MS w gp go ge wd a N c K ce es xs ys gh ch ao co W) {w4:World} {o:Obj} {g4 c4:Nat} {y:ByteArray} (hown:w4.ownsRow w.heap.size 9 1 (.slice (some ⟨g4,0,none⟩) (xs.length + 1) c4) (xs.length + 1) (xs.map Value.string ++ [.string y])) (hgrow:(W.alloc o).grownBy w4 (Value.slice ao xs.length co).ownBlock) (hat:(Value.slice ao xs.length co).ownBlock=some g4 \/ g4=W.heap.size + 1) :
 MS w gp go ge wd a N c K ce es (xs ++ [y]) ys gh ch (some ⟨g4,0,none⟩) c4 (w4.setCell ⟨go,1,none⟩ (.slice (some ⟨g4,0,none⟩) (xs.length + 1) c4)):=by
 have hlen:(xs ++ [y]).length=xs.length + 1:=by rw [List.length_append];rfl
 have hblk:∀ {q:Nat} {cs:Array Value} {t:TypeId},W.heap[q]?=some (.cells cs t) -> t ≠ 9 -> w4.heap[q]?=some (.cells cs t):=fun {q cs t} hq ht=>by
  have hl:=(Array.getElem?_eq_some_iff.1 hq).1
  exact (hgrow.block q (by simp;omega) (h.notOwn hq ht)).trans ((Below.heap_alloc W o q hl).trans hq)
 have hrow:∀ {g n' c':Nat} {vs:List Value},Row W w.heap.size g n' c' vs -> some g ≠ (Value.slice ao xs.length co).ownBlock -> g ≠ go -> Row (w4.setCell ⟨go,1,none⟩ (.slice (some ⟨g4,0,none⟩) (xs.length + 1) c4)) w.heap.size g n' c' vs:=fun {g n' c' vs} hr hn hg=>((hr.alloc o).kept hgrow hn).kept (grownBy_setCell w4 go 1 _) (fun e=>hg (Option.some.inj e))
 have hT4:OwnT w (xs ++ [y]) (some ⟨g4,0,none⟩) (xs.length + 1) c4 w4:=h.own.more hown hgrow rfl
 have ho4:=hblk h.out (by decide)
 refine ⟨(Below.heap_setCell _ _ _ _ (by show gp ≠ go;exact fun e=>h.n4.1 e.symm)).trans (hblk h.par (by decide)),?_,by rw [hlen];exact heap_setCell_same w4 go 1 _ 31 _ ho4,by rw [hlen];exact hT4.set ho4 h.n4.2 _,hrow h.hs (fun e=>(h.n3 _ e.symm).1 rfl) h.n1.2.2.1,hrow h.enc (fun e=>(h.n3 _ e.symm).2 rfl) h.n2.2.2,h.n1,h.n2,?_,h.n4⟩
 · have hne:gp + 1 ≠ go:=fun e=>by
    have h1:W.heap[gp + 1]?=_:=h.res
    rw [e,h.out] at h1
    simp at h1
   exact (Below.heap_setCell _ _ _ _ (by show gp + 1 ≠ go;exact hne)).trans (hblk h.res (by decide))
 · intro g hg
   have hg':g4=g:=Option.some.inj hg
   subst hg'
   rcases hat with q | q
   · exact h.n3 _ q
   · have l1:=h.hs.lt
     have l2:=h.enc.lt
     omega
theorem MS.addHash (h:MS w gp go ge wd a N c K ce es xs ys gh ch ao co W) {w6:World} {o:Obj} {g6 c6:Nat} {y:ByteArray} (hr:Row w6 w.heap.size g6 (ys.length + 1) c6 ((ys.map (hashT wd)).map Value.string ++ [.string (hashT wd y)])) (hgrow:(W.alloc o).grownBy w6 (some gh)) (hat:g6=gh \/ g6=W.heap.size + 1) :
 MS w gp go ge wd a N c K ce es xs (ys ++ [y]) g6 c6 ao co w6:=by
 have hlen:(ys ++ [y]).length=ys.length + 1:=by rw [List.length_append];rfl
 have hblk:∀ {q:Nat} {cs:Array Value} {t:TypeId},W.heap[q]?=some (.cells cs t) -> q ≠ gh -> w6.heap[q]?=some (.cells cs t):=fun {q cs t} hq hn=>by
  have hl:=(Array.getElem?_eq_some_iff.1 hq).1
  exact (hgrow.block q (by simp;omega) (fun e=>hn (Option.some.inj e))).trans ((Below.heap_alloc W o q hl).trans hq)
 have hz:=h.hs.ge
 have l2:=h.enc.lt
 have l3:=(Array.getElem?_eq_some_iff.1 h.par).1
 have l4:=(Array.getElem?_eq_some_iff.1 (show W.heap[gp + 1]?=_ from h.res)).1
 have l5:=(Array.getElem?_eq_some_iff.1 h.out).1
 have n1:=h.n1
 have n2:=h.n2
 refine ⟨hblk h.par (fun e=>n1.1 e.symm),hblk h.res (fun e=>n1.2.1 e.symm),hblk h.out (fun e=>n1.2.2.1 e.symm),⟨ownG_kept h.own.own (fun q hv hq=>?_),?_,h.own.len⟩,by rw [hlen,List.map_append,List.map_append];exact hr,(h.enc.alloc o).kept hgrow (fun e=>n1.2.2.2 (Option.some.inj e).symm),?_,n2,fun g hg=>⟨?_,(h.n3 g hg).2⟩,h.n4⟩
 · exact (hgrow.block q (by simp;omega) (fun e=>(h.n3 q hv).1 (Option.some.inj e))).trans (Below.heap_alloc W o q hq)
 · have hbA:Below w.heap.size w (W.alloc o):=h.own.bel.alloc h.own.bel.size o
   exact hbA.trans (below_of_grown hgrow hz hbA.size)
 · rcases hat with q | q <;> omega
 · have l6:=(ownG_cells h.own.own hg).2.1
   have:=(h.n3 g hg).1
   rcases hat with q | q <;> omega
end
theorem ltxt_any (e:ByteArray) (w:World) (he:e.size <= 1048576):Calls prog 39 #[.string e] w fun y w'=>y=.returned (.string (txt e)) /\ w'=w:=by
 have z:¬ (9223372036854775807 < (⟨#[78]⟩:ByteArray).size + e.size):=by show ¬ _ < 1 + e.size;omega
 have z':¬ (9223372036854775807 < 1 + e.size):=by omega
 unfold txt
 go_enter func39,ntmps39
 go_wp2_with fail
 go_ret
 exact ⟨rfl,rfl⟩
theorem txt_size (e:ByteArray):(txt e).size=e.size + 1:=by unfold txt;rw [ByteArray.size_append];show 1 + e.size=_;omega
theorem txt_list (e:ByteArray):(txt e).data.toList=78 :: e.data.toList:=by unfold txt;rw [ByteArray.data_append];simp
theorem svAll_stuck {wd:Nat} {ss es:List ByteArray} {j:Nat} {r:SvR} (h:svAll wd ss (es.take j)=r) (hr:r.isGo=false):svAll wd ss es=r:=by
 have e:svAll wd ss es=(es.drop j).foldl (svStep wd ss) (svAll wd ss (es.take j)):=by
  unfold svAll
  rw [<- List.foldl_append,List.take_append_drop]
 rw [e,h]
 exact sv_stuck wd ss _ r hr
def stepR (X ad:List ByteArray) (e:ByteArray):Option Nat -> SvR
 | some i=>if X.getD i ⟨#[]⟩=e then .go ad else .clash (X.getD i ⟨#[]⟩) e
 | none=>if 20000 <= X.length then .full else .go (ad ++ [e])
theorem svStep_at {wd:Nat} {ss ad X:List ByteArray} {e:ByteArray} {R:Option Nat} (hX:X=ss ++ ad) (hR:firstI (hitB wd X (hashT wd e)) X.length=R):svStep wd ss (.go ad) e=stepR X ad e R:=by
 subst hX
 subst hR
 rw [List.length_append]
 have hs:∀ R:Option Nat,(match R with
  | some i=>if (ss ++ ad).getD i ⟨#[]⟩=e then SvR.go ad else SvR.clash ((ss ++ ad).getD i ⟨#[]⟩) e
  | none=>if 20000 <= ss.length + ad.length then SvR.full else SvR.go (ad ++ [e]))=stepR (ss ++ ad) ad e R:=fun R=>by
  cases R with
  | some i=>rfl
  | none=>unfold stepR;rw [List.length_append]
 exact hs _
theorem ssave_yes (HD:Hid DigSaid) (wd:Nat) (a:Option Addr) (ss:List ByteArray) (c:Nat) (a2:Option Addr) (ps:List PairT) (c2:Nat) (w:World) (h:SArg a ss w) (hq:Hid (∀ j,(ss.getD j ⟨#[]⟩).size <= 1048575)) (h2:PArg a2 ps w) (hc2:ps.length <= c2) (h1:1 <= wd) (h3:wd <= 32) (hs1:ss.length <= 20000) (hm:isMapT ps=true) :
 Calls prog 33 #[.agg #[.int .i64 (wd:Int),.slice a ss.length c],.slice a2 ps.length c2] w (SavedIs (savO wd ss (cutTree ps)) w):=by
 have hpo:poolOk (wd:Int) ss.length=true:=decide_eq_true ⟨by omega,by omega,hs1⟩
 have HV:Hid (∀ w',Calls prog 79 #[.agg #[.int .i64 (wd:Int),.slice a ss.length c]] w' fun e w''=>e=.returned (.bool true) /\ Below w'.heap.size w' w''):=fun w'=>by
  have:=poolOk_any (wd:Int) a ss.length c w' h.le
  rw [hpo] at this
  exact this
 have HM:Hid (∀ w',Below w.heap.size w w' -> Calls prog 68 #[.slice a2 ps.length c2] w' fun e w''=>e=.returned (.bool true) /\ Below w'.heap.size w' w''):=fun w' hb=>by
  have:=mapOk_any a2 ps c2 w' (h2.below hb)
  rw [hm] at this
  exact this
 have HC:Hid (∀ w',Below w.heap.size w w' -> Calls prog 80 #[.agg #[.int .i64 (wd:Int),.slice a ss.length c]] w' fun e w''=>∃ a' c',e=.returned (.agg #[.int .i64 (wd:Int),.slice a' ss.length c']) /\ OwnT w' ss a' ss.length c' w''):=fun w' hb=>copyPool_any (wd:Int) a ss c w' (h.below hb)
 have HHs:Hid (∀ w',Below w.heap.size w w' -> Calls prog 50 #[.agg #[.int .i64 (wd:Int),.slice a ss.length c]] w' fun e w''=>∃ g c',e=.returned (.slice (some ⟨g,0,none⟩) ss.length c') /\ Row w'' (w'.heap.size + 1) g ss.length c' ((ss.map (hashT wd)).map Value.string) /\ Below w'.heap.size w' w''):=fun w' hb=>hashes_any HD wd a ss c w' (h.below hb) hq h1 h3
 have HE:Hid (∀ w',Below w.heap.size w w' -> Calls prog 69 #[.slice a2 ps.length c2,.int .i64 (wd:Int)] w' fun e w''=>∃ g c,e=.returned (.tuple #[.slice (some ⟨g,0,none⟩) ps.length c,.string (rootT wd (cutTree ps))]) /\ Row w'' w'.heap.size g ps.length c ((encsT wd (cutTree ps)).map Value.string) /\ Below w'.heap.size w' w''):=fun w' hb=>encs_any wd h1 h3 _ a2 ps c2 w' (Nat.le_refl _) hc2 (h2.below hb) (isMapT_ok ps hm)
 have hesz:=encsT_size wd (cutTree ps)
 have hesl:(encsT wd (cutTree ps)).length=ps.length:=by rw [encsT_len,cutTree_size]
 have hsv:Hid (savO wd ss (cutTree ps)=svOut wd ss (rootT wd (cutTree ps)) (svAll wd ss (encsT wd (cutTree ps)))):=rfl
 obtain ⟨es,hes⟩:∃ es,encsT wd (cutTree ps)=es:=⟨_,rfl⟩
 rw [hes] at HE hesz hesl hsv
 obtain ⟨root,hroot⟩:∃ r,rootT wd (cutTree ps)=r:=⟨_,rfl⟩
 rw [hroot] at HE hsv
 obtain ⟨O,hO⟩:∃ O,savO wd ss (cutTree ps)=O:=⟨_,rfl⟩
 rw [hO] at hsv ⊢
 obtain ⟨K,hK⟩:∃ K,ps.length=K:=⟨_,rfl⟩
 have hKb:K <= 500:=by
  unfold isMapT at hm
  rw [Bool.and_eq_true,decide_eq_true_eq] at hm
  omega
 rw [hK] at HE hesl HM ⊢
 clear hes hroot hO hK hm hc2 h2
 have hMw:Hid (∀ W,Below w.heap.size w W -> SArg a ss W):=fun W hW=>h.below hW
 have hsm0:∀ j,(ss.getD j ⟨#[]⟩).size <= 1048575:=hq.out
 obtain ⟨N,hN⟩:∃ N,ss.length=N:=⟨_,rfl⟩
 have hNl:Hid (ss.length=N):=hN
 rw [hN] at HV HC HHs hs1 ⊢
 clear hN hpo h hq
 have hbA:Below w.heap.size w ((w.alloc (.cells #[.int .i64 (wd:Int),.slice a N c] 31)).alloc (.cells #[.int .i64 0,.int .i64 0,.slice none 0 0,.string ⟨#[]⟩,.string ⟨#[]⟩,.string ⟨#[]⟩] 56)):=((Below.refl _ _).alloc (Nat.le_refl _) _).alloc (by simp) _
 have nB:=heap_alloc_new (w.alloc (.cells #[.int .i64 (wd:Int),.slice a N c] 31)) (.cells #[.int .i64 0,.int .i64 0,.slice none 0 0,.string ⟨#[]⟩,.string ⟨#[]⟩,.string ⟨#[]⟩] 56)
 have nA:=(Below.heap_alloc (w.alloc (.cells #[.int .i64 (wd:Int),.slice a N c] 31)) (.cells #[.int .i64 0,.int .i64 0,.slice none 0 0,.string ⟨#[]⟩,.string ⟨#[]⟩,.string ⟨#[]⟩] 56) w.heap.size (by simp)).trans (heap_alloc_new w _)
 rw [World.size_alloc] at nB
 obtain ⟨gp,hgp⟩:∃ g,w.heap.size=g:=⟨_,rfl⟩
 have hgl:w.heap.size <= gp:=by omega
 go_enter func33,ntmps33
 go_upto_region 1 with fail
 generalize (w.alloc (.cells #[.int .i64 (wd:Int),.slice a N c] 31)).alloc (.cells #[.int .i64 0,.int .i64 0,.slice none 0 0,.string ⟨#[]⟩,.string ⟨#[]⟩,.string ⟨#[]⟩] 56)=wA at hbA nA nB ⊢
 try rw [hgp]
 rw [hgp] at nA nB
 have p0:=ZC nA 0
 have p1:=ZC nA 1
 go_upto_region 3 with (first | (go_at_call 79;refine (HV.out _).mono ?_;rintro e w1 ⟨rfl,hb1⟩) | (go_at_call 68;refine (HM.out _ (hbA.trans (hb1.mono hbA.size))).mono ?_;rintro e w2 ⟨rfl,hb2⟩))
 have hbA2:Below wA.heap.size wA w2:=hb1.trans (hb2.mono hb1.size)
 have nA2:=pblk_below hbA2 nA
 have nB2:SB (gp + 1) 0 0 none 0 0 ⟨#[]⟩ ⟨#[]⟩ ⟨#[]⟩ w2:=pblk_below hbA2 nB
 have hbw2:=hbA.trans (hbA2.mono hbA.size)
 clear hbA hb1 hb2 hbA2 nA nB p0 p1 HV HM
 have p0:=ZC nA2 0
 have p1:=ZC nA2 1
 go_upto_region 4 with (first | (go_at_call 80;refine (HC.out _ hbw2).mono ?_;rintro e w3 ⟨ao,co,rfl,hT3⟩))
 have hbA3:Below w3.heap.size w3 (w3.alloc (.cells #[.int .i64 (wd:Int),.slice ao N co] 31)):=(Below.refl _ _).alloc (Nat.le_refl _) _
 have hO4:=hT3.below hbA3
 have nO4:=heap_alloc_new w3 (.cells #[.int .i64 (wd:Int),.slice ao N co] 31)
 have hb24:Below w2.heap.size w2 (w3.alloc (.cells #[.int .i64 (wd:Int),.slice ao N co] 31)):=hO4.bel
 have nA4:=pblk_below hb24 nA2
 have nB4:SB (gp + 1) 0 0 none 0 0 ⟨#[]⟩ ⟨#[]⟩ ⟨#[]⟩ (w3.alloc (.cells #[.int .i64 (wd:Int),.slice ao N co] 31)):=pblk_below hb24 nB2
 have hbw4:=hbw2.trans (hb24.mono hbw2.size)
 have hT4:=hO4.up hbw2
 have hz4:(w3.alloc (.cells #[.int .i64 (wd:Int),.slice ao N co] 31)).heap.size=w3.heap.size + 1:=by simp
 have hgo:gp + 1 < w3.heap.size:=Nat.lt_of_lt_of_le (Array.getElem?_eq_some_iff.1 (show w2.heap[gp + 1]?=_ from nB2)).1 hT3.bel.size
 have hol:∀ g,(Value.slice ao N co).ownBlock=some g -> g < w3.heap.size:=fun g hg=>(ownG_cells hT3.own hg).2.1
 generalize w3.alloc (.cells #[.int .i64 (wd:Int),.slice ao N co] 31)=w4 at hbA3 hO4 nO4 hb24 nA4 nB4 hbw4 hT4 hz4 ⊢
 obtain ⟨go,hgo'⟩:∃ g,w3.heap.size=g:=⟨_,rfl⟩
 rw [hgo'] at nO4 hz4 hgo hol
 try rw [hgo']
 clear hT3 hbA3 hO4 hb24 nA2 nB2 hbw2 p0 p1 hgo'
 have p0:=ZC nA4 0
 have p1:=ZC nA4 1
 go_upto_region 5 with (first | (go_at_call 50;refine (HHs.out _ hbw4).mono ?_;rintro e w5 ⟨gh,ch,rfl,hR5,hb5⟩))
 have hbw5:=hbw4.trans (hb5.mono hbw4.size)
 have nA5:=pblk_below hb5 nA4
 have nB5:SB (gp + 1) 0 0 none 0 0 ⟨#[]⟩ ⟨#[]⟩ ⟨#[]⟩ w5:=pblk_below hb5 nB4
 have nO5:=pblk_below hb5 nO4
 have hT5:=hT4.below hb5
 have hz5:=hb5.size
 have hgh:=hR5.ge
 clear hb5 nA4 nB4 nO4 hT4 hbw4 p0 p1
 have p0:=ZC nA5 0
 go_upto_region 6 with (first | (go_at_call 69;refine (HE.out _ hbw5).mono ?_;rintro e w6 ⟨ge,ce,rfl,hR6,hb6⟩))
 have hgh2:=hR5.lt
 have hge:=hR6.ge
 have hM0:MS w gp go ge wd a N c K ce es ss ss gh ch ao co w6:=⟨pblk_below hb6 nA5,pblk_below hb6 nB5,by rw [hNl.out];exact pblk_below hb6 nO5,by rw [hNl.out];exact hT5.below hb6,by rw [hNl.out];exact (hR5.mono (by omega)).below hb6,hR6.mono (by have:=hbw5.size;omega),by omega,by omega,fun g hg=>by (rw [hNl.out] at hg;have:=hol g hg;omega),by omega⟩
 clear hb6 nA5 nB5 nO5 hT5 hR5 hR6 hbw5 p0 hgh hgh2 hge hz5 hz4 hol HHs HE hgo
 obtain ⟨i0,hi0,hz0,hz1,hz2⟩:=info_parts2 info9
 go_wp2_with fail
 go_loopw [6,9] (fun t6 t9 wr=>∃ (k:Nat) (X ad:List ByteArray) (gh ch:Nat) (ao:Option Addr) (co:Nat),k <= K /\ t9=.int .i64 (k:Int) /\ t6=.slice (some ⟨gh,0,none⟩) X.length ch /\ Hid (X=ss ++ ad) /\ Hid (svAll wd ss (es.take k)=.go ad) /\ X.length <= 20000 /\ (∀ j,(X.getD j ⟨#[]⟩).size <= 1048575) /\ MS w gp go ge wd a N c K ce es X X gh ch ao co wr) (fun _ t9 _=>K - (intOf t9).toNat)
 case atStart=>exact ⟨0,ss,[],gh,ch,ao,co,Nat.zero_le _,rfl,by rw [hNl.out],(List.append_nil ss).symm,rfl,by rw [hNl.out];exact hs1,hsm0,hM0⟩
 case round =>
  clear hM0
  obtain ⟨k,X,ad,gh,ch,ao,co,hk,rfl,rfl,hX,hAll,hXl,hXs,hM⟩:=hrel
  by_cases hlt:k < K
  · have z1:decide ((k:Int) < (K:Int))=true:=by simp;omega
    have hx0:(0:Int) <= (k:Int):=Int.natCast_nonneg _
    have hx1:(k:Int) < (K:Int):=by omega
    obtain ⟨e,he⟩:∃ e,es.getD k ⟨#[]⟩=e:=⟨_,rfl⟩
    have hke:es[k]?=some e:=by
     rw [<- he,List.getD_eq_getElem?_getD,List.getElem?_eq_getElem (by omega)];rfl
    have hesz':e.size <= 10000:=hesz e (List.mem_of_getElem? hke)
    have htk:Hid (svAll wd ss (es.take (k + 1))=svStep wd ss (.go ad) e):=by
     show _=_
     rw [List.take_add_one,hke,Option.toList_some,svAll_app,hAll.out]
    have hce:Hid (∀ W,MS w gp go ge wd a N c K ce es X X gh ch ao co W -> W.cell? ⟨ge,k,none⟩=some (.string e) /\ W.cell? ⟨gp,0,none⟩=some (.int .i64 (wd:Int))):=fun W hW=>⟨by rw [hW.enc.cell k hlt,List.getElem?_map,hke];rfl,ZC hW.par 0⟩
    have HT:Hid (∀ w',Calls prog 39 #[.string e] w' fun y w''=>y=.returned (.string (txt e)) /\ w''=w'):=fun w'=>ltxt_any e w' (by omega)
    have HDg:Hid (∀ w',Calls prog 23 #[.string (txt e),.int .i64 (wd:Int)] w' fun y w''=>y=.returned (.string (hashT wd e)) /\ Below w'.heap.size w' w''):=fun w'=>by
     have:=HD.out (txt e) wd w' (by rw [txt_size];omega) h1 h3
     rw [txt_list] at this
     exact this
    have hhs:∀ s:ByteArray,(hashT wd s).size <= 1048576:=fun s=>by
     show ((sha (78 :: s.data.toList)).take wd).toArray.size <= _
     rw [List.size_toArray,List.length_take,sha_len32];omega
    have HAt:Hid (∀ W,MS w gp go ge wd a N c K ce es X X gh ch ao co W -> Calls prog 81 #[.slice (some ⟨gh,0,none⟩) X.length ch,.string (hashT wd e)] W fun y w''=>y=.returned (.int .i64 (atI (firstI (hitB wd X (hashT wd e)) X.length))) /\ Below W.heap.size W w''):=fun W hW=>by
     have hl:(X.map (hashT wd)).length=X.length:=List.length_map _
     have:=l4At_any (some ⟨gh,0,none⟩) (X.map (hashT wd)) ch (hashT wd e) W (row_sarg hW.hs (by rw [hl];omega) (fun j=>by
      rw [List.getD_eq_getElem?_getD,List.getElem?_map]
      cases X[j]? with
      | none=>exact Nat.zero_le _
      | some y=>exact hhs y))
     rw [hl,same_hit] at this
     exact this
    obtain ⟨c1,c2'⟩:=hce.out _ hM
    obtain ⟨R,hR⟩:∃ R,firstI (hitB wd X (hashT wd e)) X.length=R:=⟨_,rfl⟩
    rw [hR] at HAt
    clear he hke
    obtain ⟨He,hHe'⟩:∃ He,hashT wd e=He:=⟨_,rfl⟩
    have hHe:Hid (hashT wd e=He):=hHe'
    have hRx:Hid (firstI (hitB wd X (hashT wd e)) X.length=R):=hR
    rw [hHe'] at HDg HAt
    clear hHe' hR
    go_upto_region 9 with fail
    go_region_held3 (fun W=>W.cell? ⟨ge,k,none⟩=some (.string e) /\ W.cell? ⟨gp,0,none⟩=some (.int .i64 (wd:Int))) (first | exact ⟨c1,c2'⟩ | exact hce.out _ hM2) (first | (go_at_call 39;refine (HT.out _).mono ?_;rintro y w1 ⟨rfl,rfl⟩) | (go_at_call 23;refine (HDg.out _).mono ?_;rintro y w2 ⟨rfl,hb2⟩;have hM2:=hM.below ((Below.refl wr.heap.size wr).drew.trans hb2)))
    have hM2':=hM2
    clear hM hb2
    go_upto_region 11 with (go_at_call 81;refine (HAt.out _ hM2).mono ?_;rintro y w3 ⟨rfl,hb3⟩)
    have hM3:=hM2.below hb3
    clear hM2 hM2' hb3 HAt HDg HT c1 c2'
    obtain ⟨c1,c2'⟩:=hce.out _ hM3
    have hst:=svStep_at hX.out hRx.out
    rw [<- htk.out] at hst
    have hST:Hid _:=hst
    have hil':∀ i,R=some i -> i < X.length:=fun i hi=>firstI_lt (hRx.out.trans hi)
    clear hst htk hRx
    have co1:=ZC hM3.out 1
    cases R with
    | none =>
     have hat:Hid (atI none = -1):=rfl
     rw [hat.out]
     by_cases hfull:20000 <= X.length
     · have hO:Hid (O=codeO 1):=by
        have h5:=hST.out
        rw [show stepR X ad e none=SvR.full from if_pos hfull] at h5
        show _=_
        rw [hsv.out,svAll_stuck h5 rfl]
        rfl
       have z2:decide ((20000:Int) <= (X.length:Int))=true:=by rw [decide_eq_true_eq];omega
       have z3:((X.length:Int) ≥ 20000):=by omega
       obtain ⟨d0,d1,d2,d3,d4,d5,df⟩:=hM3.res.at
       have hB3:=hM3.res.all 1 0 none 0 0 ⟨#[]⟩ ⟨#[]⟩ ⟨#[]⟩
       have hF3:SavedIs (codeO 1) w (.returned (svV 1 0 none 0 0 ⟨#[]⟩ ⟨#[]⟩ ⟨#[]⟩)) (set6 w3 (gp + 1) 1 0 none 0 0 ⟨#[]⟩ ⟨#[]⟩ ⟨#[]⟩):=SavedIs.code hM3.own.bel hM3.res (by omega)
       clear hST
       go_wp2_with fail
       exact retS Tryz.results33 rfl rfl hB3 (by rw [hO.out];exact hF3)
     · have hA2:Hid (svAll wd ss (es.take (k + 1))=.go (ad ++ [e])):=by
        have h5:=hST.out
        rw [show stepR X ad e none=SvR.go (ad ++ [e]) from if_neg hfull] at h5
        exact h5
       have z2:decide ((20000:Int) <= (X.length:Int))=false:=by rw [decide_eq_false_iff_not];omega
       have z3:¬ ((X.length:Int) ≥ 20000):=by omega
       have hXe:Hid ((X ++ [e]).length=X.length + 1):=by show _=_;rw [List.length_append];rfl
       have hXs2:Hid (∀ j,((X ++ [e]).getD j ⟨#[]⟩).size <= 1048575):=fun j=>by
        rw [List.getD_eq_getElem?_getD,List.getElem?_append]
        split
        · have:=hXs j
          rw [List.getD_eq_getElem?_getD] at this
          exact this
        · cases hx:([e]:List ByteArray)[j - X.length]? with
          | none=>exact Nat.zero_le _
          | some y =>
           have:y ∈ [e]:=List.mem_of_getElem? hx
           rw [List.mem_singleton] at this
           subst this
           show y.size <= _
           omega
       clear hST
       go_upto_region 14 with fail
       have hMd:MS w gp go ge wd a N c K ce es X X gh ch ao co w3.drew:=hM3.below ((Below.refl w3.heap.size w3).drew)
       have ownd:=hMd.own.own
       have hbs:=hM3.own.bel.size
       have cd:=ZC hM3.out 1
       have hgl1:=(Array.getElem?_eq_some_iff.1 hM3.out).1
       have hgl2:=hM3.enc.lt
       have cdA:∀ o,(w3.alloc o).cell? ⟨go,1,none⟩=some (.slice ao X.length co):=fun o=>(World.cell?_alloc_lt _ _ _ (by show go < _;exact hgl1)).trans cd
       have ceA:∀ o,(w3.alloc o).cell? ⟨ge,k,none⟩=some (.string e):=fun o=>(World.cell?_alloc_lt _ _ _ (by show ge < _;exact hgl2)).trans c1
       clear hM3
       go_region_law (first
        | (refine step_append_lies _ (by rfl) (.tmp 61) (.tmp 66) 25 (by rfl) w.heap.size 9 i0 (.string ⟨#[]⟩) 1 16 Tryz.underlying25 hi0 hz0 hz1 hz2 (by rfl) (by decide) (.slice ao X.length co) X.length (X.map Value.string) (by rfl) (ownd.alloc _) ⟨w3.heap.size,0,none⟩ 1 1 [.string e] (by rfl) (by rfl) (World.news_of_block (heap_alloc_new w3.drew _)) (by simp [Value.oneCell']) (by decide) (by unfold maxLen;omega) (by omega) (by simp;omega) (w3.heap.size + 1) (by simp) ?_;intro g4 c4 w4 hown4 hgrow4 hat4 hlt4;have hlb4:=(hgrow4.block go (by simp;omega) (hMd.notOwn hMd.out (by decide))).trans ((Below.heap_alloc w3.drew _ go hgl1).trans hMd.out);have k1:=ZC hlb4 1;have f1:w4.frozen? ⟨go,1,none⟩=false:=by rw [World.frozen?,hlb4];rfl))
       all_goals
        have hM5:=hMd.addOut hown4 hgrow4 hat4
        generalize w4.setCell ⟨go,1,none⟩ (.slice (some ⟨g4,0,none⟩) (X.length + 1) c4)=W5 at hM5 ⊢
        have hbs5:=hM5.own.bel.size
        go_wp2_with (at_builtin;refine wpList_append_row _ rfl (.tmp 69) (.tmp 71) 25 rfl 9 i0 (.string ⟨#[]⟩) 16 Tryz.underlying25 hi0 hz0 hz1 hz2 rfl w.heap.size gh X.length ch _ rfl (hM5.hs.alloc _) ⟨W5.heap.size,0,none⟩ 1 1 [.string He] rfl rfl (World.news_of_block (heap_alloc_new W5 _)) (by simp [Value.oneCell']) (by unfold maxLen;omega) (by omega) (by simp;omega) (W5.heap.size + 1) (by simp) ?_;intro g6 c6 w6 hrow6 hgrow6 hat6 _)
        rw [<- hHe.out] at hrow6
        have hM6:=hM5.addHash hrow6 hgrow6 hat6
        go_roundw
        case rel=>exact ⟨k + 1,X ++ [e],ad ++ [e],g6,c6,some ⟨g4,0,none⟩,c4,hlt,by go_num,by rw [hXe.out],(show _=_ by rw [hX.out,List.append_assoc]),hA2.out,by rw [hXe.out];omega,hXs2.out,hM6⟩
        case measure=>simp [intOf];omega
    | some i =>
     have hil:i < X.length:=hil' i rfl
     have hat:Hid (atI (some i)=(i:Int)):=rfl
     rw [hat.out]
     have hy0:(0:Int) <= (i:Int):=Int.natCast_nonneg _
     have hy1:(i:Int) < (X.length:Int):=by omega
     have y1:decide ((i:Int) < 0)=false:=by rw [decide_eq_false_iff_not];omega
     obtain ⟨b,off,rfl,hbl,hcs⟩:=(own_sarg hM3.own.own (by omega) (fun j=>by have:=hXs j;omega)).at_ (by omega)
     have hcu:=hcs i hil
     have hus:=hXs i
     obtain ⟨u,hu⟩:∃ u,X.getD i ⟨#[]⟩=u:=⟨_,rfl⟩
     have HS:Hid (∀ W,MS w gp go ge wd a N c K ce es X X gh ch (some ⟨b,off,none⟩) co W -> W.cell? ⟨gp,0,none⟩=some (.int .i64 (wd:Int)) /\ W.cell? ⟨gp,1,none⟩=some (.slice a N c) /\ W.cell? ⟨go,1,none⟩=some (.slice (some ⟨b,off,none⟩) X.length co) /\ W.cell? ⟨b,off + i,none⟩=some (.string u) /\ W.cell? ⟨ge,k,none⟩=some (.string e)):=fun W hW=>by
      obtain ⟨q1,q2⟩:=hce.out _ hW
      obtain ⟨b',off',hbe,_,hcs'⟩:=(own_sarg hW.own.own (by omega) (fun j=>by have:=hXs j;omega)).at_ (by omega)
      simp only [Option.some.injEq,Addr.mk.injEq,and_true] at hbe
      obtain ⟨rfl,rfl⟩:=hbe
      exact ⟨q2,ZC hW.par 1,ZC hW.out 1,by rw [hcs' i hil,hu],q1⟩
     rw [hu] at hcu hus
     by_cases hue:u=e
     · have hA2:Hid (svAll wd ss (es.take (k + 1))=.go ad):=by
        have h5:=hST.out
        rw [show stepR X ad e (some i)=SvR.go ad from if_pos (hu.trans hue)] at h5
        exact h5
       have z2:(u.toList == e.toList)=true:=by rw [ba_eq,decide_eq_true hue]
       have z3:(u.toList != e.toList)=false:=by rw [bne,z2];rfl
       clear hST HS hu hue hcs
       go_wp2_with (go_region)
       go_roundw
       case rel=>exact ⟨k + 1,X,ad,gh,ch,_,co,hlt,by go_num,rfl,hX.out,hA2.out,hXl,hXs,hM3.below (Below.refl _ _).drew⟩
       case measure=>simp [intOf];omega
     · have hO:Hid (O=⟨4,(wd:Int),ss,⟨#[]⟩,txt u,txt e⟩):=by
        have h5:=hST.out
        rw [show stepR X ad e (some i)=SvR.clash u e from by show (if X.getD i ⟨#[]⟩=e then SvR.go ad else SvR.clash (X.getD i ⟨#[]⟩) e)=_;rw [hu,if_neg hue]] at h5
        show _=_
        rw [hsv.out,svAll_stuck h5 rfl]
        rfl
       have z2:(u.toList == e.toList)=false:=by rw [ba_eq,decide_eq_false hue]
       have z3:(u.toList != e.toList)=true:=by rw [bne,z2];rfl
       have HTu:Hid (∀ w',Calls prog 39 #[.string u] w' fun y w''=>y=.returned (.string (txt u)) /\ w''=w'):=fun w'=>ltxt_any u w' (by omega)
       have HTe:Hid (∀ w',Calls prog 39 #[.string e] w' fun y w''=>y=.returned (.string (txt e)) /\ w''=w'):=fun w'=>ltxt_any e w' (by omega)
       have hgne:gp ≠ gp + 1 /\ go ≠ gp + 1 /\ b ≠ gp + 1 /\ ge ≠ gp + 1:=by
        refine ⟨by omega,fun q=>?_,fun q=>?_,hM3.n2.2.1⟩
        · have h1:w3.heap[gp + 1]?=_:=hM3.res
          rw [<- q,hM3.out] at h1
          simp at h1
        · exact hM3.notOwn (show w3.heap[gp + 1]?=_ from hM3.res) (by decide) (by rw [<- q];rfl)
       have HK:Hid (∀ (W:World) (o:Nat) (v:Value),(W.cell? ⟨gp,0,none⟩=some (.int .i64 (wd:Int)) /\ W.cell? ⟨gp,1,none⟩=some (.slice a N c) /\ W.cell? ⟨go,1,none⟩=some (.slice (some ⟨b,off,none⟩) X.length co) /\ W.cell? ⟨b,off + i,none⟩=some (.string u) /\ W.cell? ⟨ge,k,none⟩=some (.string e)) -> (W.setCell ⟨gp + 1,o,none⟩ v).cell? ⟨gp,0,none⟩=some (.int .i64 (wd:Int)) /\ (W.setCell ⟨gp + 1,o,none⟩ v).cell? ⟨gp,1,none⟩=some (.slice a N c) /\ (W.setCell ⟨gp + 1,o,none⟩ v).cell? ⟨go,1,none⟩=some (.slice (some ⟨b,off,none⟩) X.length co) /\ (W.setCell ⟨gp + 1,o,none⟩ v).cell? ⟨b,off + i,none⟩=some (.string u) /\ (W.setCell ⟨gp + 1,o,none⟩ v).cell? ⟨ge,k,none⟩=some (.string e)):=fun W o v h=>by
        have hf:∀ (q j:Nat) (x:Value),q ≠ gp + 1 -> W.cell? ⟨q,j,none⟩=some x -> (W.setCell ⟨gp + 1,o,none⟩ v).cell? ⟨q,j,none⟩=some x:=fun q j x hne hx=>((grownBy_setCell W (gp + 1) o v).cell_far ⟨q,j,none⟩ (World.block_lt_of_cell? W _ hx) (by intro e;exact hne (Option.some.inj e))).trans hx
        exact ⟨hf _ _ _ hgne.1 h.1,hf _ _ _ hgne.1 h.2.1,hf _ _ _ hgne.2.1 h.2.2.1,hf _ _ _ hgne.2.2.1 h.2.2.2.1,hf _ _ _ hgne.2.2.2 h.2.2.2.2⟩
       clear hST hu hue hcs
       go_upto_region 17 with (go_region)
       have hMd:MS w gp go ge wd a N c K ce es X X gh ch (some ⟨b,off,none⟩) co w3.drew:=hM3.below ((Below.refl w3.heap.size w3).drew)
       have hMd:=hMd.below ((Below.refl w3.drew.heap.size w3.drew).drew)
       clear hM3 c1 c2' co1 hcu
       refine wp_region_held_drew (S:=fun W=>W.cell? ⟨gp,0,none⟩=some (.int .i64 (wd:Int)) /\ W.cell? ⟨gp,1,none⟩=some (.slice a N c) /\ W.cell? ⟨go,1,none⟩=some (.slice (some ⟨b,off,none⟩) X.length co) /\ W.cell? ⟨b,off + i,none⟩=some (.string u) /\ W.cell? ⟨ge,k,none⟩=some (.string e)) (by kernel_rfl) (HS.out _ hMd) (fun hHeld=>?_)
       refine tkI 0 ?_
       simp only [Act.put,zq]
       refine tkI 2 ?_
       simp only [Act.put,zq]
       refine tkI 3 ?_
       simp only [Act.put,zq]
       refine tkI 4 ?_
       simp only [Act.put,zq]
       refine tkI 5 ?_
       simp only [Act.put,zq]
       refine tkI 6 ?_
       simp only [Act.put,zq]
       refine tkI 8 ?_
       simp only [Act.put,zq]
       refine tkI 9 ?_
       simp only [Act.put,zq]
       refine tkI 10 ?_
       simp only [Act.put,zq]
       refine tkI 11 ?_
       simp only [Act.put,zq]
       refine rdH 1 (fun K hK=>?_)
       go_simp
       refine (HC.out _ hMd.own.bel).mono ?_
       rintro y w4 ⟨a4,c4,rfl,hT4⟩
       have hM4:=hMd.below hT4.bel
       have h4S:=HS.out _ hM4
       refine hK.out _ _ (h4S) (fun hHeld=>?_)
       clear hK K
       refine rdH 7 (fun K hK=>?_)
       go_simp
       refine (HTu.out _).mono ?_
       rintro y w5 ⟨rfl,rfl⟩
       refine hK.out _ _ (h4S) (fun hHeld=>?_)
       clear hK K
       refine rdH 12 (fun K hK=>?_)
       go_simp
       refine (HTe.out _).mono ?_
       rintro y w6 ⟨rfl,rfl⟩
       obtain ⟨d0,d1,d2,d3,d4,d5,df⟩:=hM4.res.at
       have h6S:=HK.out _ 5 (.string (txt e)) (HK.out _ 4 (.string (txt u)) (HK.out _ 3 (.string ⟨#[]⟩) (HK.out _ 2 (.slice a4 N c4) (HK.out _ 1 (.int .i64 (wd:Int)) (HK.out _ 0 (.int .i64 4) h4S)))))
       refine hK.out _ _ (h4S) (fun hHeld=>?_)
       clear hK K
       refine tkI 13 ?_
       simp only [Act.put,zq]
       refine rdH 14 (fun K hK=>?_)
       go_simp
       refine hK.out _ _ (h6S) (fun hHeld=>?_)
       clear hK K
       refine wpAnyH_done (by kernel_rfl) ?_ _
       have hB3:=hM4.res.all 4 (wd:Int) a4 N c4 ⟨#[]⟩ (txt u) (txt e)
       have hT7:=(hT4.up hMd.own.bel).set6 hM4.res (by omega) 4 (wd:Int) a4 N c4 ⟨#[]⟩ (txt u) (txt e)
       have hfin:Hid (∀ W,OwnT w ss a4 N c4 W -> SavedIs O w (.returned (svV 4 (wd:Int) a4 N c4 ⟨#[]⟩ (txt u) (txt e))) W):=fun W hW=>by
        rw [hO.out]
        refine ⟨a4,c4,?_,?_⟩
        · show Ending.returned _=Ending.returned _
          rw [hNl.out]
        · show OwnT w ss a4 ss.length c4 W
          rw [hNl.out]
          exact hW
       go_wp2_with fail
       exact retS Tryz.results33 rfl rfl hB3 (hfin.out _ hT7)
  · obtain rfl:k=K:=by omega
    have z1:decide ((k:Int) < (k:Int))=false:=by simp
    have hA2:svAll wd ss es=.go ad:=by
     have:=hAll.out
     rw [List.take_of_length_le (by omega)] at this
     exact this
    have hO:Hid (O=⟨0,(wd:Int),X,root,⟨#[]⟩,⟨#[]⟩⟩):=by
     show _=_
     rw [hsv.out,hA2,hX.out]
     rfl
    have co0:=ZC hM.out 0
    have co1:=ZC hM.out 1
    obtain ⟨d0,d1,d2,d3,d4,d5,df⟩:=hM.res.at
    have hB3:=hM.res.all 0 (wd:Int) ao X.length co root ⟨#[]⟩ ⟨#[]⟩
    have hT3:=hM.own.set6 hM.res (by omega) 0 (wd:Int) ao X.length co root ⟨#[]⟩ ⟨#[]⟩
    have hfin:Hid (SavedIs O w (.returned (svV 0 (wd:Int) ao X.length co root ⟨#[]⟩ ⟨#[]⟩)) (set6 wr (gp + 1) 0 (wd:Int) ao X.length co root ⟨#[]⟩ ⟨#[]⟩)):=by rw [hO.out];exact ⟨ao,co,rfl,hT3⟩
    clear hA2 hT3
    go_wp2_with fail
    exact retS Tryz.results33 rfl rfl hB3 hfin.out
end Go.Proofs.YtibjhkpgaaapaaaGreatDoor
