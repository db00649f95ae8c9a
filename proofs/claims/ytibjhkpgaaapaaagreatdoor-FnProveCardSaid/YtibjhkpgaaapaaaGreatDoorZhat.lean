import Derived.Test.YtibjhkpgaaapaaaGreatDoorZhas
import Derived.Test.YtibjhkpgaaapaaaGreatDoorZhar
import Derived.Test.YtibjhkpgaaapaaaGreatDoorZhac
import Derived.Test.YtibjhkpgaaapaaaGreatDoorZhaq
import Derived.Test.YtibjhkpgaaapaaaGreatDoorZhan
set_option maxRecDepth 100000
set_option maxHeartbeats 4000000
namespace Go.Proofs.YtibjhkpgaaapaaaGreatDoor
open Go.RowKit Go.Proofs.Sha Tryz
theorem go_all (fnd:ByteArray -> FN) (wd:Nat) (hfo:FndOk wd fnd) (a:Option Addr) (n c g c':Nat) (lo hi:ByteArray) (hlo:lo.size <= 1048576) (hhi:hi.size <= 1048576) (w0:World)
 (HF:Hid (∀ (w':World) (hash:ByteArray),Below w0.heap.size w0 w' -> Calls prog 107 #[.agg #[.int .i64 (wd:Int),.slice a n c],.slice (some ⟨g,0,none⟩) n c',.string hash] w' fun e w''=>e=.returned (nodeT (fnd hash)) /\ Below w'.heap.size w' w'')) :
 ∀ (f:Nat) (hash over under par:ByteArray) (cnt:Nat) (w:World),500 < cnt + f -> cnt <= 500 -> Below w0.heap.size w0 w -> over.size <= 1048576 -> under.size <= 1048576 -> par.size <= 1048576 →
 Calls prog 105 #[.agg #[.int .i64 (wd:Int),.slice a n c],.slice (some ⟨g,0,none⟩) n c',.string hash,.string par,.agg #[.string over,.string under],.string lo,.string hi,.int .i64 (cnt:Int)] w (GoPost (goF fnd hgW lo hi f hash over under par cnt) w)
 | 0,_,_,_,_,cnt,_,h,hc,_,_,_,_=>by omega
 | f + 1,hash,over,under,par,cnt,w,h,hc,hw,ho,hu,hp =>
  go_step fnd wd hfo a n c g c' lo hi hlo hhi w0 HF f hash over under par cnt (fun hash over under par cnt' w' h1 h2 hb ho hu hp=>go_all fnd wd hfo a n c g c' lo hi hlo hhi w0 HF f hash over under par cnt' w' (by omega) h2 hb ho hu hp) w hw hc ho hu hp
def fndD (D:Dec) (wd:Nat) (ss:List ByteArray) (hash:ByteArray):FN:=foundR D ss (firstI (hitB wd ss hash) ss.length)
def DecOk (wd:Nat) (D:Dec):Prop:=∀ s,D.ok s=true -> okKey (D.k s)=true /\ okVal (D.v s)=true /\ ((D.l s).size=0 \/ (D.l s).size=wd) /\ ((D.r s).size=0 \/ (D.r s).size=wd)
theorem fndD_ok (D:Dec) (wd:Nat) (ss:List ByteArray) (h:DecOk wd D):FndOk wd (fndD D wd ss):=by
 have key:∀ o,((foundR D ss o).2=0 \/ (foundR D ss o).2=2 \/ (foundR D ss o).2=3) /\ ((foundR D ss o).2=0 -> okKey (foundR D ss o).1.1=true /\ okVal (foundR D ss o).1.2.1=true /\ ((foundR D ss o).1.2.2.1.size=0 \/ (foundR D ss o).1.2.2.1.size=wd) /\ ((foundR D ss o).1.2.2.2.size=0 \/ (foundR D ss o).1.2.2.2.size=wd)):=by
  intro o
  cases o with
  | none =>
   rw [show foundR D ss none=((⟨#[]⟩,⟨#[]⟩,⟨#[]⟩,⟨#[]⟩),2) from rfl]
   exact ⟨.inr (.inl rfl),fun e=>absurd e (by decide)⟩
  | some i =>
   by_cases q:D.ok (ss.getD i ⟨#[]⟩)=true
   · rw [show foundR D ss (some i)=_ from if_pos q]
     exact ⟨.inl rfl,fun _=>h _ q⟩
   · rw [show foundR D ss (some i)=_ from if_neg q]
     exact ⟨.inr (.inr rfl),fun e=>absurd e (by decide)⟩
 exact ⟨fun hash=>(key _).1,fun hash=>(key _).2⟩
def rangeM (fnd:ByteArray -> FN) (n:Int) (m:Nat) (root lo hi:ByteArray):List PairT × Int :=
 if (poolOk n m && hashOk root.size n)=true then
  if (goF fnd hgW lo hi 501 root ⟨#[]⟩ ⟨#[]⟩ ⟨#[]⟩ 0).1=0 then ((goF fnd hgW lo hi 501 root ⟨#[]⟩ ⟨#[]⟩ ⟨#[]⟩ 0).2.2,0) else ([],(goF fnd hgW lo hi 501 root ⟨#[]⟩ ⟨#[]⟩ ⟨#[]⟩ 0).1)
 else ([],1)
theorem rangeM_bad {fnd:ByteArray -> FN} {n:Int} {m:Nat} {root lo hi:ByteArray} (h:(poolOk n m && hashOk root.size n)=false):rangeM fnd n m root lo hi=([],1):=by unfold rangeM;rw [if_neg (by rw [h];decide)]
theorem rangeM_ok {fnd:ByteArray -> FN} {n:Int} {m:Nat} {root lo hi:ByteArray} (h:(poolOk n m && hashOk root.size n)=true) {R:Int × Nat × List PairT} (hR:goF fnd hgW lo hi 501 root ⟨#[]⟩ ⟨#[]⟩ ⟨#[]⟩ 0=R):rangeM fnd n m root lo hi=if R.1=0 then (R.2.2,0) else ([],R.1):=by unfold rangeM;rw [if_pos h,hR]
def RangeAt (X:List PairT × Int) (w:World) (e:Ending) (w':World):Prop :=
 (∃ a c,e=.returned (.tuple #[.slice a X.1.length c,.int .i64 X.2]) /\ w'.ownsRow w.heap.size 81 2 (.slice a X.1.length c) X.1.length (flatP X.1)) /\ Below w.heap.size w w'
structure SR (w:World) (ga gz:Nat) (n:Int) (a:Option Addr) (m c:Nat) (W:World):Prop where
 sz:w.heap.size=ga
 o1:ga < gz
 bl:Below w.heap.size w W
 na:W.heap[ga]?=some (.cells #[.int .i64 n,.slice a m c] 31)
 nz:W.heap[gz]?=some (.cells #[] 81)
section
variable {w:World} {ga gz:Nat} {n:Int} {a:Option Addr} {m c:Nat} {W W':World}
theorem SR.mk0 (w:World) (n:Int) (a:Option Addr) (m c:Nat):SR w w.heap.size (w.heap.size + 1) n a m c ((w.alloc (.cells #[.int .i64 n,.slice a m c] 31)).alloc (.cells #[] 81)):=by
 have e2:=heap_alloc_new (w.alloc (.cells #[.int .i64 n,.slice a m c] 31)) (.cells #[] 81)
 rw [World.size_alloc] at e2
 exact ⟨rfl,Nat.lt_succ_self _,((Below.refl _ _).alloc (Nat.le_refl _) _).alloc (by simp) _,by rw [Below.heap_alloc _ _ _ (by simp)];exact heap_alloc_new w _,e2⟩
theorem SR.lt (h:SR w ga gz n a m c W):gz < W.heap.size:=(Array.getElem?_eq_some_iff.1 h.nz).1
theorem SR.below (h:SR w ga gz n a m c W) (hb:Below W.heap.size W W'):SR w ga gz n a m c W' :=
 ⟨h.sz,h.o1,h.bl.trans (hb.mono h.bl.size),(hb.block _ (Nat.lt_trans h.o1 h.lt)).trans h.na,(hb.block _ h.lt).trans h.nz⟩
theorem SR.nil (h:SR w ga gz n a m c W) (i:Int):RangeAt ([],i) w (.returned (.tuple #[.slice (some ⟨gz,0,none⟩) 0 0,.int .i64 i])) W:=by
 have h1:=h.sz
 have h2:=h.o1
 exact ⟨⟨some ⟨gz,0,none⟩,0,rfl,own2_nil (by omega) h.nz⟩,h.bl⟩
theorem SR.set3 (h:SR w ga gz n a m c W) {gw:Nat} (hg:gz < gw) (x y z:Value):SR w ga gz n a m c (((W.setCell ⟨gw,0,none⟩ x).setCell ⟨gw,1,none⟩ y).setCell ⟨gw,2,none⟩ z):=by
 have h1:=h.sz
 have h2:=h.o1
 have hb:w.heap.size <= gw:=by omega
 refine ⟨h.sz,h.o1,((h.bl.setCell hb _).setCell hb _).setCell hb _,?_,?_⟩
 · rw [Below.heap_setCell _ _ _ _ (by show ga ≠ gw;omega),Below.heap_setCell _ _ _ _ (by show ga ≠ gw;omega),Below.heap_setCell _ _ _ _ (by show ga ≠ gw;omega)];exact h.na
 · rw [Below.heap_setCell _ _ _ _ (by show gz ≠ gw;omega),Below.heap_setCell _ _ _ _ (by show gz ≠ gw;omega),Below.heap_setCell _ _ _ _ (by show gz ≠ gw;omega)];exact h.nz
def WB (gw:Nat) (x y z:Value) (W:World):Prop:=W.heap[gw]?=some (.cells #[x,y,z] 158)
theorem WB.below {gw:Nat} {x y z:Value} (h:WB gw x y z W) (hb:Below W.heap.size W W'):WB gw x y z W':=(hb.block _ (Array.getElem?_eq_some_iff.1 h).1).trans h
theorem WB.set3 {gw:Nat} {x y z:Value} (h:WB gw x y z W) (x' y' z':Value):WB gw x' y' z' (((W.setCell ⟨gw,0,none⟩ x').setCell ⟨gw,1,none⟩ y').setCell ⟨gw,2,none⟩ z'):=heap_setCell_same _ gw 2 _ 158 _ (heap_setCell_same _ gw 1 _ 158 _ (heap_setCell_same _ gw 0 _ 158 _ h))
theorem WB.at {gw:Nat} {x y z:Value} (h:WB gw x y z W):W.cell? ⟨gw,0,none⟩=some x /\ W.cell? ⟨gw,1,none⟩=some y /\ W.cell? ⟨gw,2,none⟩=some z /\ W.frozen? ⟨gw,0,none⟩=false /\ W.frozen? ⟨gw,1,none⟩=false /\ W.frozen? ⟨gw,2,none⟩=false :=
 ⟨ZC h 0,ZC h 1,ZC h 2,by rw [World.frozen?,h];rfl,by rw [World.frozen?,h];rfl,by rw [World.frozen?,h];rfl⟩
end
theorem srange_bad (n:Int) (a:Option Addr) (m c:Nat) (root lo hi:ByteArray) (w:World) (hm:m <= 1048576) (hr:root.size <= 1048576) (h:(poolOk n m && hashOk root.size n)=false) :
 Calls prog 48 #[.agg #[.int .i64 n,.slice a m c],.string root,.string lo,.string hi] w (RangeAt ([],1) w):=by
 have HP:=fun w'=>poolOk_any n a m c w' hm
 have HH:=fun w'=>hashOk_any root n w' hr
 have hS:=SR.mk0 w n a m c
 cases h1:poolOk n m with
 | false =>
  rw [h1] at HP
  clear h h1
  go_enter func48,ntmps48
  go_upto_region 2 with fail
  generalize (w.alloc (.cells #[.int .i64 n,.slice a m c] 31)).alloc (.cells #[] 81)=W at hS ⊢
  obtain ⟨gz,hgz⟩:∃ x,w.heap.size + 1=x:=⟨_,rfl⟩
  rw [hgz] at hS ⊢
  obtain ⟨ga,hga⟩:∃ x,w.heap.size=x:=⟨_,rfl⟩
  rw [show SR w w.heap.size=SR w ga by rw [hga]] at hS
  rw [hga]
  clear hga hgz
  have k0:=ZC hS.na 0
  have k1:=ZC hS.na 1
  go_wp2_with (first | (go_at_call 79;refine (HP _).mono ?_;rintro e w1 ⟨rfl,hb1⟩;have hS1:=hS.below hb1;have k0:=ZC hS1.na 0;have k1:=ZC hS1.na 1) | (go_at_call 82;refine (HH _).mono ?_;rintro e w2 ⟨rfl,rfl⟩))
  go_ret2
  exact hS1.nil 1
 | true =>
  have h2:hashOk root.size n=false:=by rw [h1] at h;exact h
  rw [h1] at HP
  rw [h2] at HH
  clear h h1 h2
  go_enter func48,ntmps48
  go_upto_region 2 with fail
  generalize (w.alloc (.cells #[.int .i64 n,.slice a m c] 31)).alloc (.cells #[] 81)=W at hS ⊢
  obtain ⟨gz,hgz⟩:∃ x,w.heap.size + 1=x:=⟨_,rfl⟩
  rw [hgz] at hS ⊢
  obtain ⟨ga,hga⟩:∃ x,w.heap.size=x:=⟨_,rfl⟩
  rw [show SR w w.heap.size=SR w ga by rw [hga]] at hS
  rw [hga]
  clear hga hgz
  have k0:=ZC hS.na 0
  have k1:=ZC hS.na 1
  go_wp2_with (first | (go_at_call 79;refine (HP _).mono ?_;rintro e w1 ⟨rfl,hb1⟩;have hS1:=hS.below hb1;have k0:=ZC hS1.na 0;have k1:=ZC hS1.na 1) | (go_at_call 82;refine (HH _).mono ?_;rintro e w2 ⟨rfl,rfl⟩))
  go_ret2
  exact hS1.nil 1
abbrev KT (w:World):Prop:=∀ j,j < 64 -> w.cell? ⟨0,j,none⟩=some (.int .u32 ((kTab.getD j 0).toNat:Int))
theorem KT.below {w w':World} (h:KT w) (hb:Below w.heap.size w w'):KT w':=fun j hj=>by
 have hl0:0 < w.heap.size:=World.block_lt_of_cell? w _ (h 0 (by omega))
 exact (hb.cell (by exact hl0)).trans (h j hj)
def proveM (fnd:ByteArray -> FN) (n:Int) (m:Nat) (root lo hi:ByteArray):ByteArray × Int :=
 if poolOk n m=true then proveX fnd n.toNat root lo hi else (⟨#[]⟩,1)
theorem iprove_any (HH:Hid (HashSaid KT)) (D:Dec) (n:Int) (HD:Hid (∀ wd:Nat,(wd:Int)=n -> 1 <= wd -> wd <= 32 -> DecSaid 198 wd D)) (hdo:∀ wd:Nat,(wd:Int)=n -> DecOk wd D) (a:Option Addr) (ss:List ByteArray) (c:Nat) (root lo hi:ByteArray) (w:World) (h:SArg a ss w) (hK:KT w) (hr:root.size <= 1048576) :
 Calls prog 14 #[.agg #[.int .i64 n,.slice a ss.length c],.string root,.string lo,.string hi] w fun e w'=>e=.returned (.tuple #[.string (proveM (fndD D n.toNat ss) n ss.length root lo hi).1,.int .i64 (proveM (fndD D n.toNat ss) n ss.length root lo hi).2]) /\ Below w.heap.size w w':=by
 have HV:=fun w'=>validPool_any n a ss.length c w' h.le
 have hA:∀ m:Int,Below w.heap.size w (w.alloc (.cells #[.int .i64 m,.slice a ss.length c] 31)):=fun m=>(Below.refl _ _).alloc (Nat.le_refl _) _
 cases hp:poolOk n ss.length with
 | false =>
  have hX:proveM (fndD D n.toNat ss) n ss.length root lo hi=(⟨#[]⟩,1):=by unfold proveM;rw [if_neg (by rw [hp];decide)]
  rw [hX]
  rw [hp] at HV
  have hA:=hA n
  clear HH HD h hK hX
  go_enter func14,ntmps14
  go_wp2_with (first | (go_at_call 52;refine (HV _).mono ?_;rintro e w1 ⟨rfl,hb1⟩))
  go_ret2
  exact ⟨rfl,hA.trans (hb1.mono hA.size)⟩
 | true =>
  rw [hp] at HV
  have hp':1 <= n /\ n <= 32 /\ ss.length <= 20000:=of_decide_eq_true hp
  obtain ⟨wd,rfl⟩:∃ wd:Nat,n=(wd:Int):=⟨n.toNat,by omega⟩
  have hX:proveM (fndD D (wd:Int).toNat ss) (wd:Int) ss.length root lo hi=proveX (fndD D wd ss) wd root lo hi:=by unfold proveM;rw [if_pos hp,Int.toNat_natCast]
  rw [hX]
  have HS:Hid (∀ w',Below w.heap.size w w' -> Calls prog 54 #[.agg #[.int .i64 (wd:Int),.slice a ss.length c]] w' fun e w''=>∃ sb r a' c',e=.returned (.pointer (some ⟨sb,0,none⟩)) /\ StockAt sb r (sb + 1) wd ss a' c' w'' /\ Below w'.heap.size w' w''):=fun w' hb=>stockOf_any HH (fun w1 w2 h1 hb=>KT.below h1 hb) wd a ss c w' (h.below hb) (hK.below hb) (by omega)
  have HW:Hid (∀ w1 sb r a' c',Below w.heap.size w w1 -> StockAt sb r (sb + 1) wd ss a' c' w1 -> Calls prog 53 #[.pointer (some ⟨sb,0,none⟩),.string root,.agg #[.string lo,.string hi]] w1 fun e w'=>e=.returned (.tuple #[.string (proveX (fndD D wd ss) wd root lo hi).1,.int .i64 (proveX (fndD D wd ss) wd root lo hi).2]) /\ Below w.heap.size w w'):=fun w1 sb r a' c' hb1 hs=>by
   refine (prove_any (fndD D wd ss) wd (fndD_ok D wd ss (hdo wd rfl)) (by omega) sb lo hi root _ _ w1 hs.blk hr (fun hash w' hh hb'=>stockFind_any D sb r (sb + 1) wd (HD.out wd rfl (by omega) (by omega)) ss a' c' hash w' (hs.below hb') h.sz (by have:=h.le;omega) (by omega) hh) (fun k w' hk hb'=>rank_any k w' (by unfold okKey at hk;have:=of_decide_eq_true hk;omega) ((hK.below hb1).below hb'))).mono ?_
   rintro e w' ⟨he,hb'⟩
   exact ⟨he,hb1.trans (hb'.mono hb1.size)⟩
  generalize proveX (fndD D wd ss) wd root lo hi=X at HW ⊢
  have hA:=hA (wd:Int)
  have nA:=heap_alloc_new w (.cells #[.int .i64 (wd:Int),.slice a ss.length c] 31)
  clear HH HD h hK hX hp hp'
  go_enter func14,ntmps14
  go_wp2_with (first | (go_at_call 52;refine (HV _).mono ?_;rintro e w1 ⟨rfl,hb1⟩;have nA1:=(hb1.block w.heap.size (by simp)).trans nA;have d0:=ZC nA1 0;have d1:=ZC nA1 1;clear nA1;replace hb1:=hA.trans (hb1.mono hA.size)) | (go_at_call 54;refine (HS.out _ hb1).mono ?_;rintro e w2 ⟨sb,r,a2,c2,rfl,hs2,hb2⟩;replace hb2:=hb1.trans (hb2.mono hb1.size)) | (go_at_call 53;refine (HW.out _ _ _ _ _ hb2 hs2).mono ?_;rintro e w3 ⟨rfl,hb3⟩))
  go_ret2
  exact ⟨rfl,hb3⟩
structure P5 (w:World) (ga gb:Nat) (wd:Nat) (a:Option Addr) (n c:Nat) (over under:ByteArray) (W:World):Prop where
 sz:w.heap.size=ga
 o1:ga < gb
 bl:Below w.heap.size w W
 na:W.heap[ga]?=some (.cells #[.int .i64 (wd:Int),.slice a n c] 31)
 nb:W.heap[gb]?=some (.cells #[.string over,.string under] 94)
section
variable {w:World} {ga gb:Nat} {wd:Nat} {a:Option Addr} {n c:Nat} {over under:ByteArray} {W W':World}
theorem P5.lt (h:P5 w ga gb wd a n c over under W):gb < W.heap.size:=(Array.getElem?_eq_some_iff.1 h.nb).1
theorem P5.below (h:P5 w ga gb wd a n c over under W) (hb:Below W.heap.size W W'):P5 w ga gb wd a n c over under W':=by
 have l:=h.lt
 have h1:=h.o1
 exact ⟨h.sz,h1,h.bl.trans (hb.mono h.bl.size),(hb.block _ (by omega)).trans h.na,(hb.block _ (by omega)).trans h.nb⟩
theorem P5.mk0 (w:World) (wd:Nat) (a:Option Addr) (n c:Nat) (over under:ByteArray):P5 w w.heap.size (w.heap.size + 1) wd a n c over under ((w.alloc (.cells #[.int .i64 (wd:Int),.slice a n c] 31)).alloc (.cells #[.string over,.string under] 94)):=by
 have e2:=heap_alloc_new (w.alloc (.cells #[.int .i64 (wd:Int),.slice a n c] 31)) (.cells #[.string over,.string under] 94)
 rw [World.size_alloc] at e2
 exact ⟨rfl,by omega,((Below.refl _ _).alloc (Nat.le_refl _) _).alloc (by simp) _,by rw [Below.heap_alloc _ _ _ (by simp)];exact heap_alloc_new w _,e2⟩
end
def LpAt (X:List UInt8) (w:World) (e:Ending) (w':World):Prop:=(∃ t:ByteArray,e=.returned (.string t) /\ t.size <= 1300000 /\ Hid (t.data.toList=X)) /\ Below w.heap.size w w'
theorem lp_step (fnd:ByteArray -> FN) (wd:Nat) (hfo:FndOk wd fnd) (hwd32:wd <= 32) (a:Option Addr) (n c g c':Nat) (lo hi:ByteArray) (hlo:lo.size <= 1048576) (hhi:hi.size <= 1048576) (w0:World)
 (HF:Hid (∀ (w':World) (hash:ByteArray),Below w0.heap.size w0 w' -> Calls prog 107 #[.agg #[.int .i64 (wd:Int),.slice a n c],.slice (some ⟨g,0,none⟩) n c',.string hash] w' fun e w''=>e=.returned (nodeT (fnd hash)) /\ Below w'.heap.size w' w''))
 (f:Nat) (hash over under par:ByteArray) (cnt:Nat)
 (HI:Hid (∀ (hash over under par:ByteArray) (cnt':Nat) (w':World),cnt' <= 500 -> (hash.size=0 \/ hash.size=wd) -> (goF fnd hgW lo hi f hash over under par cnt').1=0 -> Below w0.heap.size w0 w' -> over.size <= 1048576 -> under.size <= 1048576 →
  Calls prog 49 #[.agg #[.int .i64 (wd:Int),.slice a n c],.slice (some ⟨g,0,none⟩) n c',.string hash,.agg #[.string over,.string under],.string lo,.string hi] w' (LpAt (prL fnd lo hi f hash over under) w')))
 (w:World) (hw0:Below w0.heap.size w0 w) (hc:cnt <= 500) (hsz:hash.size=0 \/ hash.size=wd) (h0:(goF fnd hgW lo hi (f + 1) hash over under par cnt).1=0) (ho:over.size <= 1048576) (hu:under.size <= 1048576) :
 Calls prog 49 #[.agg #[.int .i64 (wd:Int),.slice a n c],.slice (some ⟨g,0,none⟩) n c',.string hash,.agg #[.string over,.string under],.string lo,.string hi] w (LpAt (prL fnd lo hi (f + 1) hash over under) w):=by
 have HW:Hid (∀ w',Calls prog 106 #[.agg #[.string over,.string under],.string lo,.string hi] w' fun e w''=>e=.returned (.bool (canW over under lo hi)) /\ Below w'.heap.size w' w''):=fun w'=>wants_any over under lo hi w' ho hu hlo hhi
 have hP:=P5.mk0 w wd a n c over under
 cases h1:emp hash with
 | true =>
  have hb1:=emp_beq h1
  have hs1:=(emp_size h1).1 rfl
  rw [prL_e h1]
  clear h0 HI HF HW
  go_enter func49,ntmps49
  go_wp2_with fail
  go_ret
  exact ⟨⟨_,rfl,(by decide),rfl⟩,hP.bl⟩
 | false =>
  have hb1:=emp_beq h1
  have hs1:=(emp_size h1).2 rfl
  have hne1:=emp_ne h1
  cases h2:canW over under lo hi with
  | false =>
   rw [h2] at HW
   rw [prL_s h1 h2]
   have z:¬ (9223372036854775807 < (⟨#[83]⟩:ByteArray).size + hash.size):=by show ¬ _ < 1 + hash.size;omega
   have z':¬ (9223372036854775807 < 1 + hash.size):=by omega
   have HR:Hid (∀ w',Below w.heap.size w w' -> LpAt (83 :: hash.data.toList) w (.returned (.string (⟨#[83]⟩ ++ hash))) w'):=fun w' hb=>⟨⟨_,rfl,(by rw [ByteArray.size_append];show 1 + hash.size <= _;omega),(by show (_:List UInt8)=_;rw [ByteArray.data_append];simp)⟩,hb⟩
   clear h0 HI HF
   go_enter func49,ntmps49
   go_wp2_with (go_at_call 106;refine (HW.out _).mono ?_;rintro e W1 ⟨rfl,hb2⟩)
   go_ret
   exact HR.out _ (((P5.mk0 w wd a n c over under).below hb2).bl)
  | true =>
   rw [h2] at HW
   have hsk:(emp hash || !canW over under lo hi)=false:=by rw [h1,h2];rfl
   have hwd:hash.size=wd:=by
    rcases hsz with h | h
    · have h9:emp hash=true:=by unfold emp;simp [h]
      rw [h1] at h9;cases h9
    · exact h
   have hlen:=prL_len hfo hwd32 (f + 1) hash over under par cnt hc hsz h0
   have hcnt:=goF_cnt (f + 1) hash over under par cnt hc h0
   have hC:codeF fnd hash over under par (cnt + 1)=0:=by
    by_cases hC:codeF fnd hash over under par (cnt + 1)=0
    · exact hC
    · rw [goF_code hsk hC] at h0;exact absurd h0 hC
   obtain ⟨hz,hfit,hc5⟩:=codeF_zero hC
   obtain ⟨okk,okv,okl,okr⟩:=hfo.node hash hz
   have hfe:fnd hash=(((fnd hash).1.1,(fnd hash).1.2.1,(fnd hash).1.2.2.1,(fnd hash).1.2.2.2),0):=by rw [<- hz]
   obtain ⟨LR,hLR⟩:∃ LR,goF fnd hgW lo hi f (fnd hash).1.2.2.1 over (fnd hash).1.1 (fnd hash).1.1 (cnt + 1)=LR:=⟨_,rfl⟩
   obtain ⟨RR,hRR⟩:∃ RR,goF fnd hgW lo hi f (fnd hash).1.2.2.2 (fnd hash).1.1 under (fnd hash).1.1 LR.2.1=RR:=⟨_,rfl⟩
   rw [goF_node hsk hfe hfit hc5 hLR hRR] at h0
   have hl0:LR.1=0:=by
    by_cases hl0:LR.1=0
    · exact hl0
    · rw [if_pos hl0] at h0;exact absurd h0 hl0
   rw [if_neg (fun h=>h hl0)] at h0
   have hr0:RR.1=0:=by
    by_cases hr0:RR.1=0
    · exact hr0
    · rw [if_pos hr0] at h0;exact absurd h0 hr0
   have hcl:LR.2.1 <= 500:=by
    have:=goF_cnt f (fnd hash).1.2.2.1 over (fnd hash).1.1 (fnd hash).1.1 (cnt + 1) hc5 (by rw [hLR];exact hl0)
    rw [hLR] at this
    exact this.2
   have hks:(fnd hash).1.1.size <= 256:=by unfold okKey at okk;have:=of_decide_eq_true okk;omega
   have hvs:(fnd hash).1.2.1.size <= 2000:=by unfold okVal at okv;exact of_decide_eq_true okv
   have HL:Hid (∀ w',Below w0.heap.size w0 w' -> Calls prog 49 #[.agg #[.int .i64 (wd:Int),.slice a n c],.slice (some ⟨g,0,none⟩) n c',.string (fnd hash).1.2.2.1,.agg #[.string over,.string (fnd hash).1.1],.string lo,.string hi] w' (LpAt (prL fnd lo hi f (fnd hash).1.2.2.1 over (fnd hash).1.1) w')):=fun w' hb=>HI.out _ _ _ (fnd hash).1.1 (cnt + 1) w' hc5 okl (by rw [hLR];exact hl0) hb ho (by omega)
   have HRt:Hid (∀ w',Below w0.heap.size w0 w' -> Calls prog 49 #[.agg #[.int .i64 (wd:Int),.slice a n c],.slice (some ⟨g,0,none⟩) n c',.string (fnd hash).1.2.2.2,.agg #[.string (fnd hash).1.1,.string under],.string lo,.string hi] w' (LpAt (prL fnd lo hi f (fnd hash).1.2.2.2 (fnd hash).1.1 under) w')):=fun w' hb=>HI.out _ _ _ (fnd hash).1.1 LR.2.1 w' hcl okr (by rw [hRR];exact hr0) hb (by omega) hu
   have HFn:Hid (∀ w',Below w0.heap.size w0 w' -> Calls prog 107 #[.agg #[.int .i64 (wd:Int),.slice a n c],.slice (some ⟨g,0,none⟩) n c',.string hash] w' fun e w''=>e=.returned (nodeT (((fnd hash).1.1,(fnd hash).1.2.1,(fnd hash).1.2.2.1,(fnd hash).1.2.2.2),0)) /\ Below w'.heap.size w' w''):=fun w' hb=>by rw [<- hfe];exact HF.out w' hash hb
   rw [prL_f h1 h2] at hlen ⊢
   clear hLR hRR HI HF hfe hC hfit okk okv okl okr h0 hz
   generalize (fnd hash).1.1=k at *
   generalize (fnd hash).1.2.1=v at *
   generalize (fnd hash).1.2.2.1=l at *
   generalize (fnd hash).1.2.2.2=r at *
   generalize prL fnd lo hi f l over k=LX at *
   generalize prL fnd lo hi f r k under=RX at *
   unfold nodeT at HFn
   have HK:Hid (∀ w',Calls prog 90 #[.string k] w' fun e w''=>∃ t:ByteArray,e=.returned (.string t) /\ t.size <= k.size + 2 /\ Hid (t=T (sized k.data.toList)) /\ Below w'.heap.size w' w''):=fun w'=>sized_b k (by omega) (by omega) w'
   have HV:Hid (∀ w',Calls prog 90 #[.string v] w' fun e w''=>∃ t:ByteArray,e=.returned (.string t) /\ t.size <= v.size + 2 /\ Hid (t=T (sized v.data.toList)) /\ Below w'.heap.size w' w''):=fun w'=>sized_b v (by omega) (by omega) w'
   obtain ⟨X,hX⟩:∃ X,(70 :: (sized k.data.toList ++ sized v.data.toList)) ++ (LX ++ RX)=X:=⟨_,rfl⟩
   rw [hX] at hlen ⊢
   have hX:Hid _:=hX
   go_enter func49,ntmps49
   go_upto_region 2 with fail
   generalize ((w.alloc (.cells #[.int .i64 (wd:Int),.slice a n c] 31)).alloc (.cells #[.string over,.string under] 94))=W at hP ⊢
   obtain ⟨gb,hgb⟩:∃ x,w.heap.size + 1=x:=⟨_,rfl⟩
   rw [hgb] at hP ⊢
   obtain ⟨ga,hga⟩:∃ x,w.heap.size=x:=⟨_,rfl⟩
   rw [show P5 w w.heap.size=P5 w ga by rw [hga]] at hP
   rw [hga]
   clear hgb hga
   have a0:=ZC hP.na 0
   have a1:=ZC hP.na 1
   have b0:=ZC hP.nb 0
   have b1:=ZC hP.nb 1
   go_upto_region 5 with (go_at_call 106;refine (HW.out _).mono ?_;rintro e W1 ⟨rfl,hb2⟩;have hP1:=hP.below hb2;clear hb2 a0 a1 b0 b1)
   have hb01:Below w0.heap.size w0 W1:=hw0.trans (hP1.bl.mono hw0.size)
   have a0:=ZC hP1.na 0
   have a1:=ZC hP1.na 1
   go_upto_region 6 with (go_at_call 107;refine (HFn.out _ hb01).mono ?_;rintro e W2 ⟨rfl,hb2⟩;have hP2:=hP1.below hb2;clear hb2 a0 a1)
   have hP3:=hP2.below ((Below.refl W2.heap.size W2).alloc (Nat.le_refl _) (.cells #[.string k,.string v,.string l,.string r] 73))
   have hN:=heap_alloc_new W2 (.cells #[.string k,.string v,.string l,.string r] 73)
   generalize W2.alloc (.cells #[.string k,.string v,.string l,.string r] 73)=W3 at hP3 hN ⊢
   obtain ⟨gn,hgn⟩:∃ x,W2.heap.size=x:=⟨_,rfl⟩
   rw [hgn] at hN ⊢
   clear hgn hP2 hP1 hP hb01
   have n0:=ZC hN 0
   have n1:=ZC hN 1
   go_region_held3 (fun W=>W.cell? ⟨gn,0,none⟩=some (.string k) /\ W.cell? ⟨gn,1,none⟩=some (.string v)) (first | exact ⟨n0,n1⟩ | exact ⟨ZC hN4 0,ZC hN4 1⟩ | exact ⟨ZC hN5 0,ZC hN5 1⟩) (first | (go_at_call_of 90 (Value.string k);refine (HK.out _).mono ?_;rintro e W4 ⟨tk,rfl,hk2,HT4,hb4⟩;have hb4':Below W3.heap.size W3 W4:=(Below.refl W3.heap.size W3).drew.trans hb4;have hN4:=below_cells hb4' hN;have z1:¬ (9223372036854775807 < (⟨#[70]⟩:ByteArray).size + tk.size):=(by show ¬ _ < 1 + tk.size;omega);have z2:¬ (9223372036854775807 < 1 + tk.size):=(by omega)) | (go_at_call_of 90 (Value.string v);refine (HV.out _).mono ?_;rintro e W5 ⟨tv,rfl,hv2,HT5,hb5⟩;have hN5:=below_cells hb5 hN4;have z3:¬ (9223372036854775807 < ((⟨#[70]⟩:ByteArray) ++ tk).size + tv.size):=(by rw [ByteArray.size_append];show ¬ _ < 1 + tk.size + tv.size;omega);have z4:¬ (9223372036854775807 < 1 + tk.size + tv.size):=(by omega)))
   have hb35:Below W3.heap.size W3 W5:=hb4'.trans (hb5.mono hb4'.size)
   have hP5:=hP3.below hb35
   obtain ⟨s1,hs1⟩:∃ s1,(⟨#[70]⟩:ByteArray) ++ tk ++ tv=s1:=⟨_,rfl⟩
   rw [hs1]
   have hs1s:s1.size <= 3000:=by rw [<- hs1,ByteArray.size_append,ByteArray.size_append];show 1 + tk.size + tv.size <= _;omega
   have hs1L:Hid (s1.data.toList=70 :: (sized k.data.toList ++ sized v.data.toList)):=by
    show _=_
    rw [<- hs1,HT4.out,HT5.out,ByteArray.data_append,ByteArray.data_append]
    simp [T]
   clear hb4 hb4' hb5 hN4 hb35 hP3 hN n0 n1 z1 z2 z3 z4 HT4 HT5 hs1 hk2 hv2 HFn HW HK HV
   have hb05:Below w0.heap.size w0 W5:=hw0.trans (hP5.bl.mono hw0.size)
   have a0:=ZC hP5.na 0
   have a1:=ZC hP5.na 1
   have b0:=ZC hP5.nb 0
   have n2:=ZC hN5 2
   have n0:=ZC hN5 0
   go_upto_region 8 with (go_at_call 49;refine (HL.out _ hb05).mono ?_;rintro e W6 ⟨⟨tl,rfl,htl,HTl⟩,hb6⟩;have hP6:=hP5.below hb6;have hN6:=below_cells hb6 hN5;have hb06:=hb05.trans (hb6.mono hb05.size);clear a0 a1 b0 n2 n0 hb6;have z1:¬ (9223372036854775807 < s1.size + tl.size):=(by omega))
   obtain ⟨s2,hs2⟩:∃ s2,s1 ++ tl=s2:=⟨_,rfl⟩
   rw [hs2]
   have hs2s:s2.size <= 1303000:=by rw [<- hs2,ByteArray.size_append];omega
   have hs2L:Hid (s2.data.toList=(70 :: (sized k.data.toList ++ sized v.data.toList)) ++ LX):=by
    show _=_
    rw [<- hs2,ByteArray.data_append,Array.toList_append,hs1L.out,HTl.out]
   clear z1 hs1L HTl hs2 htl hs1s
   have a0:=ZC hP6.na 0
   have a1:=ZC hP6.na 1
   have b1:=ZC hP6.nb 1
   have n3:=ZC hN6 3
   have n0:=ZC hN6 0
   go_wp2_with (go_at_call 49;refine (HRt.out _ hb06).mono ?_;rintro e W7 ⟨⟨tr,rfl,htr,HTr⟩,hb7⟩;have hP7:=hP6.below hb7;have z1:¬ (9223372036854775807 < s2.size + tr.size):=(by omega))
   go_ret
   have hXL:(s2 ++ tr).data.toList=X:=by
    rw [ByteArray.data_append,Array.toList_append,hs2L.out,HTr.out,<- hX.out]
    simp
   refine ⟨⟨_,rfl,?_,hXL⟩,hP7.bl⟩
   have hl:(s2 ++ tr).size=X.length:=by rw [<- hXL];rfl
   omega
theorem lp_all (fnd:ByteArray -> FN) (wd:Nat) (hfo:FndOk wd fnd) (hwd32:wd <= 32) (a:Option Addr) (n c g c':Nat) (lo hi:ByteArray) (hlo:lo.size <= 1048576) (hhi:hi.size <= 1048576) (w0:World)
 (HF:Hid (∀ (w':World) (hash:ByteArray),Below w0.heap.size w0 w' -> Calls prog 107 #[.agg #[.int .i64 (wd:Int),.slice a n c],.slice (some ⟨g,0,none⟩) n c',.string hash] w' fun e w''=>e=.returned (nodeT (fnd hash)) /\ Below w'.heap.size w' w'')) :
 ∀ (f:Nat) (hash over under par:ByteArray) (cnt:Nat) (w:World),cnt <= 500 -> (hash.size=0 \/ hash.size=wd) -> (goF fnd hgW lo hi f hash over under par cnt).1=0 -> Below w0.heap.size w0 w -> over.size <= 1048576 -> under.size <= 1048576 →
 Calls prog 49 #[.agg #[.int .i64 (wd:Int),.slice a n c],.slice (some ⟨g,0,none⟩) n c',.string hash,.agg #[.string over,.string under],.string lo,.string hi] w (LpAt (prL fnd lo hi f hash over under) w)
 | 0,_,_,_,_,_,_,_,_,h,_,_,_=>by rw [goF] at h;exact absurd h (by decide)
 | f + 1,hash,over,under,par,cnt,w,hc,hs,h0,hw,ho,hu =>
  lp_step fnd wd hfo hwd32 a n c g c' lo hi hlo hhi w0 HF f hash over under par cnt (fun hash over under par cnt' w' h1 h2 h3 hb ho hu=>lp_all fnd wd hfo hwd32 a n c g c' lo hi hlo hhi w0 HF f hash over under par cnt' w' h1 h2 h3 hb ho hu) w hw hc hs h0 ho hu
end Go.Proofs.YtibjhkpgaaapaaaGreatDoor
