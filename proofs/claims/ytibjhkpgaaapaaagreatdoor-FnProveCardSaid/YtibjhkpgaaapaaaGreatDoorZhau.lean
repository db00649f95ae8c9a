import Derived.Test.YtibjhkpgaaapaaaGreatDoorZhat
import Derived.Test.YtibjhkpgaaapaaaGreatDoorZhar
import Derived.Laws.MakeOwn
import Derived.Laws.OwnMore
import Derived.Test.YtibjhkpgaaapaaaGreatDoorZhaf
import Derived.Test.YtibjhkpgaaapaaaGreatDoorZhah
import Derived.Test.YtibjhkpgaaapaaaGreatDoorZhap
import Derived.Test.YtibjhkpgaaapaaaGreatDoorZhab
import Derived.WalkSpells
import Derived.WalkLawsBesides
import Derived.Deep.RegionHeld3
set_option maxRecDepth 100000
set_option maxHeartbeats 4000000
namespace Go.Proofs.YtibjhkpgaaapaaaGreatDoor
open Go.RowKit Go.Proofs.Sha Tryz
theorem srange_err (HD:Hid DigSaid) (D:Dec) (wd:Nat) (HDd:Hid (DecSaid 146 wd D)) (hdo:DecOk wd D) (a:Option Addr) (ss:List ByteArray) (c:Nat) (root lo hi:ByteArray) (w:World) (h:SArg a ss w) (hq:Hid (∀ j,(ss.getD j ⟨#[]⟩).size <= 1048575)) (h1:1 <= wd) (h2:wd <= 32)
 (hr:root.size <= 1048576) (hlo:lo.size <= 1048576) (hhi:hi.size <= 1048576) (hp:poolOk (wd:Int) ss.length=true) (hk:hashOk root.size (wd:Int)=true) (hR0:(goF (fndD D wd ss) hgW lo hi 501 root ⟨#[]⟩ ⟨#[]⟩ ⟨#[]⟩ 0).1 ≠ 0) :
 Calls prog 48 #[.agg #[.int .i64 (wd:Int),.slice a ss.length c],.string root,.string lo,.string hi] w (RangeAt (rangeM (fndD D wd ss) (wd:Int) ss.length root lo hi) w):=by
 have HP:=fun w'=>poolOk_any (wd:Int) a ss.length c w' h.le
 have HH:=fun w'=>hashOk_any root (wd:Int) w' hr
 rw [hp] at HP
 rw [hk] at HH
 have hS:=SR.mk0 w (wd:Int) a ss.length c
 obtain ⟨R,hR⟩:∃ R,goF (fndD D wd ss) hgW lo hi 501 root ⟨#[]⟩ ⟨#[]⟩ ⟨#[]⟩ 0=R:=⟨_,rfl⟩
 rw [hR] at hR0
 have hRM:=rangeM_ok (lo:=lo) (hi:=hi) (by rw [hp,hk];rfl:(poolOk (wd:Int) ss.length && hashOk root.size (wd:Int))=true) hR
 obtain ⟨Z,hZ⟩:∃ Z,rangeM (fndD D wd ss) (wd:Int) ss.length root lo hi=Z:=⟨_,rfl⟩
 rw [hZ] at hRM ⊢
 obtain ⟨N,hN⟩:∃ N,ss.length=N:=⟨_,rfl⟩
 have HHS:Hid (∀ w',Below w.heap.size w w' -> Calls prog 50 #[.agg #[.int .i64 (wd:Int),.slice a N c]] w' fun e w''=>∃ g c',e=.returned (.slice (some ⟨g,0,none⟩) N c') /\ (∀ W,Below w''.heap.size w'' W -> Calls prog 105 #[.agg #[.int .i64 (wd:Int),.slice a N c],.slice (some ⟨g,0,none⟩) N c',.string root,.string ⟨#[]⟩,.agg #[.string ⟨#[]⟩,.string ⟨#[]⟩],.string lo,.string hi,.int .i64 0] W (GoPost R W)) /\ Below w'.heap.size w' w''):=by
  intro w' hb
  have hA:=h.below hb
  rw [<- hN]
  refine (hashes_any HD wd a ss c w' hA hq h1 h2).mono ?_
  rintro e w'' ⟨g,c',rfl,hrow,hb2⟩
  refine ⟨g,c',rfl,fun W hW=>?_,hb2⟩
  have hA2:=hA.below hb2
  rw [<- hR]
  refine go_all (fndD D wd ss) wd (fndD_ok D wd ss hdo) a ss.length c g c' lo hi hlo hhi w'' (fun w3 hash hb3=>?_) 501 root ⟨#[]⟩ ⟨#[]⟩ ⟨#[]⟩ 0 W (by omega) (by omega) hW (by decide) (by decide) (by decide)
  have:=lfind_any D wd HDd a ss c g c' (ss.map (hashT wd)) hash w3 (hA2.below hb3) (by rw [List.length_map]) (Nat.lt_of_lt_of_le hrow.lt hb3.size) (fun j hj=>by
   have e:=(hrow.below hb3).cell j hj
   rw [e,List.getElem?_map,List.getD_eq_getElem?_getD,List.getElem?_eq_getElem (by rw [List.length_map];exact hj)]
   rfl)
  rw [first_hash] at this
  exact this
 have hRMH:Hid (Z=if R.1=0 then (R.2.2,0) else ([],R.1)):=hRM
 rw [hN] at HP hS ⊢
 clear h hq hN hR hRM hZ hp hk
 go_enter func48,ntmps48
 go_upto_region 2 with fail
 generalize (w.alloc (.cells #[.int .i64 (wd:Int),.slice a N c] 31)).alloc (.cells #[] 81)=W at hS ⊢
 obtain ⟨gz,hgz⟩:∃ x,w.heap.size + 1=x:=⟨_,rfl⟩
 rw [hgz] at hS ⊢
 obtain ⟨ga,hga⟩:∃ x,w.heap.size=x:=⟨_,rfl⟩
 rw [show SR w w.heap.size=SR w ga by rw [hga]] at hS
 rw [hga]
 clear hga hgz
 have k0:=ZC hS.na 0
 have k1:=ZC hS.na 1
 go_upto_region 4 with (first | (go_at_call 79;refine (HP _).mono ?_;rintro e w1 ⟨rfl,hb1⟩;have hS1:=hS.below hb1;clear k0 k1;have k0:=ZC hS1.na 0;have k1:=ZC hS1.na 1) | (go_at_call 82;refine (HH _).mono ?_;rintro e w2 ⟨rfl,rfl⟩))
 clear HP HH hb1 hS k0 k1
 have k0:w1.cell? ⟨ga,0,none⟩=some (.int .i64 (wd:Int)):=ZC hS1.na 0
 have k1:w1.cell? ⟨ga,1,none⟩=some (.slice a N c):=ZC hS1.na 1
 have hbd:Below w1.heap.size w1 w1.drew:=(Below.refl _ _).drew
 have HC:Hid (∀ W:World,W.heap[ga]?=some (.cells #[.int .i64 (wd:Int),.slice a N c] 31) -> W.cell? ⟨ga,0,none⟩=some (.int .i64 (wd:Int)) /\ W.cell? ⟨ga,1,none⟩=some (.slice a N c)):=fun W hW=>⟨ZC hW 0,ZC hW 1⟩
 have hna:=hS1.na
 have hbw:=hS1.bl
 obtain ⟨i,hie⟩:∃ i,R.1=i:=⟨_,rfl⟩
 have hZ:Hid (Z=([],i)):=by show _=_;rw [hRMH.out,if_neg hR0,hie]
 have HG:Hid (∀ g c' W,Calls prog 105 #[.agg #[.int .i64 (wd:Int),.slice a N c],.slice (some ⟨g,0,none⟩) N c',.string root,.string ⟨#[]⟩,.agg #[.string ⟨#[]⟩,.string ⟨#[]⟩],.string lo,.string hi,.int .i64 0] W (GoPost R W) -> Calls prog 105 #[.agg #[.int .i64 (wd:Int),.slice a N c],.slice (some ⟨g,0,none⟩) N c',.string root,.string ⟨#[]⟩,.agg #[.string ⟨#[]⟩,.string ⟨#[]⟩],.string lo,.string hi,.int .i64 0] W fun e w'=>e=.returned (.agg #[.slice none 0 0,.int .i64 0,.int .i64 i]) /\ Below W.heap.size W w'):=fun g c' W hc=>hc.mono fun e w' h=>⟨by rw [<- hie];exact h.2.1 hR0,h.2.2⟩
 rw [hie] at hR0
 have hbi:(i == 0)=false:=beq_eq_false_iff_ne.2 hR0
 clear hie hRMH
 have hlt1:=hS1.lt
 go_region_held3 (fun W=>W.cell? ⟨ga,0,none⟩=some (.int .i64 (wd:Int)) /\ W.cell? ⟨ga,1,none⟩=some (.slice a N c)) (first | exact HC.out _ hna | exact HC.out _ (hS1.below ((Below.refl _ w1).drew.alloc (Nat.le_refl _) _)).na | exact HC.out _ hS2.na | exact HC.out _ (hS2.below ((Below.refl _ _).alloc (Nat.le_refl _) _)).na | exact HC.out _ hS3.na | exact HC.out _ (hS3.below ((Below.refl _ _).alloc (Nat.le_refl _) _)).na | exact HC.out _ (hS3.set3 hlt1 _ _ _).na | exact HC.out _ (hS3.set3 hlt2 _ _ _).na)
  (first
   | (go_at_call 50;refine (HHS.out (w1.drew.alloc (.cells #[.slice none 0 0,.int .i64 0,.int .i64 0] 158)) (hbw.drew.alloc hbw.size _)).mono ?_;rintro e w2 ⟨g,c',rfl,HGG,hb2⟩;have hS2:=(hS1.below ((Below.refl _ w1).drew.alloc (Nat.le_refl _) (.cells #[.slice none 0 0,.int .i64 0,.int .i64 0] 158))).below hb2;have hlt2:=hS2.lt;have n2:WB w1.heap.size (.slice none 0 0) (.int .i64 0) (.int .i64 0) w2:=WB.below (show WB w1.heap.size (.slice none 0 0) (.int .i64 0) (.int .i64 0) (w1.drew.alloc (.cells #[.slice none 0 0,.int .i64 0,.int .i64 0] 158)) from heap_alloc_new w1.drew _) hb2;clear hb2)
   | (go_at_call 50;refine (HHS.out w1.drew hbw.drew).mono ?_;rintro e w2 ⟨g,c',rfl,HGG,hb2⟩;have hS2:=hS1.below ((Below.refl w1.heap.size w1).drew.trans hb2);have hlt2:=hS2.lt;clear hb2)
   | (go_at_call 105;refine (HG.out g c' (w2.alloc (.cells #[.slice none 0 0,.int .i64 0,.int .i64 0] 158)) (HGG _ ((Below.refl _ w2).alloc (Nat.le_refl _) _))).mono ?_;rintro e w3 ⟨rfl,hb3⟩;have hS3:=(hS2.below ((Below.refl _ w2).alloc (Nat.le_refl _) (.cells #[.slice none 0 0,.int .i64 0,.int .i64 0] 158))).below hb3;have n3:WB w2.heap.size (.slice none 0 0) (.int .i64 0) (.int .i64 0) w3:=WB.below (show WB w2.heap.size (.slice none 0 0) (.int .i64 0) (.int .i64 0) (w2.alloc (.cells #[.slice none 0 0,.int .i64 0,.int .i64 0] 158)) from heap_alloc_new w2 _) hb3;clear hb3;obtain ⟨x0,x1,x2,y0,y1,y2⟩:=n3.at)
   | (go_at_call 105;refine (HG.out g c' w2 (HGG _ (Below.refl _ w2))).mono ?_;rintro e w3 ⟨rfl,hb3⟩;have hS3:=hS2.below hb3;have n3:=n2.below hb3;clear hb3;obtain ⟨x0,x1,x2,y0,y1,y2⟩:=n3.at)
   | (go_at_call 105;refine (HG.out g c' w2 (HGG _ (Below.refl _ w2))).mono ?_;rintro e w3 ⟨rfl,hb3⟩;have hS3:=hS2.below hb3;clear hb3))
 · have hS4:=hS3.below ((Below.refl w3.heap.size w3).alloc (Nat.le_refl _) (.cells #[.slice none 0 0,.int .i64 0,.int .i64 i] 158))
   have n4:WB w3.heap.size (.slice none 0 0) (.int .i64 0) (.int .i64 i) (w3.alloc (.cells #[.slice none 0 0,.int .i64 0,.int .i64 i] 158)):=heap_alloc_new w3 _
   generalize w3.alloc (.cells #[.slice none 0 0,.int .i64 0,.int .i64 i] 158)=W4 at hS4 n4 ⊢
   generalize w3.heap.size=gw at n4 ⊢
   obtain ⟨u0,u1,u2,_,_,_⟩:=n4.at
   have hS5:=hS4.below (Below.refl W4.heap.size W4).drew
   have hfin:=hS5.nil i
   rw [<- hZ.out] at hfin
   clear k0 k1 hna hbd HGG hZ hS3 n4
   go_wp2_with fail
   go_region
   go_wp2_with fail
   go_ret2
   exact hfin
 · have hS4:=hS3.set3 hlt2 (.slice none 0 0) (.int .i64 0) (.int .i64 i)
   have n4:=n3.set3 (.slice none 0 0) (.int .i64 0) (.int .i64 i)
   generalize ((w3.setCell ⟨w2.heap.size,0,none⟩ (.slice none 0 0)).setCell ⟨w2.heap.size,1,none⟩ (.int .i64 0)).setCell ⟨w2.heap.size,2,none⟩ (.int .i64 i)=W4 at hS4 n4 ⊢
   clear n3 x0 x1 x2 y0 y1 y2
   generalize w2.heap.size=gw at n4 ⊢
   obtain ⟨u0,u1,u2,_,_,_⟩:=n4.at
   have hS5:=hS4.below (Below.refl W4.heap.size W4).drew
   have hfin:=hS5.nil i
   rw [<- hZ.out] at hfin
   clear k0 k1 hna hbd HGG hZ hS3 n4
   go_wp2_with fail
   go_region
   go_wp2_with fail
   go_ret2
   exact hfin
 · have hS4:=hS3.set3 hlt1 (.slice none 0 0) (.int .i64 0) (.int .i64 i)
   have n4:=n3.set3 (.slice none 0 0) (.int .i64 0) (.int .i64 i)
   generalize ((w3.setCell ⟨w1.heap.size,0,none⟩ (.slice none 0 0)).setCell ⟨w1.heap.size,1,none⟩ (.int .i64 0)).setCell ⟨w1.heap.size,2,none⟩ (.int .i64 i)=W4 at hS4 n4 ⊢
   clear n2 n3 x0 x1 x2 y0 y1 y2
   generalize w1.heap.size=gw at n4 ⊢
   obtain ⟨u0,u1,u2,_,_,_⟩:=n4.at
   have hS5:=hS4.below (Below.refl W4.heap.size W4).drew
   have hfin:=hS5.nil i
   rw [<- hZ.out] at hfin
   clear k0 k1 hna hbd HGG hZ hS3 n4
   go_wp2_with fail
   go_region
   go_wp2_with fail
   go_ret2
   exact hfin
theorem own2_set3 {w:World} {base gw n:Nat} {v:Value} {xs:List Value} (h:w.ownsRow base 81 2 v n xs) (hg:gw < base) (x y z:Value):(((w.setCell ⟨gw,0,none⟩ x).setCell ⟨gw,1,none⟩ y).setCell ⟨gw,2,none⟩ z).ownsRow base 81 2 v n xs :=
 own2_kept h (fun q hv _=>by
  have:=(own2_cells h hv).1
  rw [Below.heap_setCell _ _ _ _ (by show q ≠ gw;omega),Below.heap_setCell _ _ _ _ (by show q ≠ gw;omega),Below.heap_setCell _ _ _ _ (by show q ≠ gw;omega)])
theorem srange_yes (HD:Hid DigSaid) (D:Dec) (wd:Nat) (HDd:Hid (DecSaid 146 wd D)) (hdo:DecOk wd D) (a:Option Addr) (ss:List ByteArray) (c:Nat) (root lo hi:ByteArray) (w:World) (h:SArg a ss w) (hq:Hid (∀ j,(ss.getD j ⟨#[]⟩).size <= 1048575)) (h1:1 <= wd) (h2:wd <= 32)
 (hr:root.size <= 1048576) (hlo:lo.size <= 1048576) (hhi:hi.size <= 1048576) (hp:poolOk (wd:Int) ss.length=true) (hk:hashOk root.size (wd:Int)=true) (hR0:(goF (fndD D wd ss) hgW lo hi 501 root ⟨#[]⟩ ⟨#[]⟩ ⟨#[]⟩ 0).1=0) :
 Calls prog 48 #[.agg #[.int .i64 (wd:Int),.slice a ss.length c],.string root,.string lo,.string hi] w (RangeAt (rangeM (fndD D wd ss) (wd:Int) ss.length root lo hi) w):=by
 have HP:=fun w'=>poolOk_any (wd:Int) a ss.length c w' h.le
 have HH:=fun w'=>hashOk_any root (wd:Int) w' hr
 rw [hp] at HP
 rw [hk] at HH
 have hS:=SR.mk0 w (wd:Int) a ss.length c
 obtain ⟨R,hR⟩:∃ R,goF (fndD D wd ss) hgW lo hi 501 root ⟨#[]⟩ ⟨#[]⟩ ⟨#[]⟩ 0=R:=⟨_,rfl⟩
 rw [hR] at hR0
 have hRM:=rangeM_ok (lo:=lo) (hi:=hi) (by rw [hp,hk];rfl:(poolOk (wd:Int) ss.length && hashOk root.size (wd:Int))=true) hR
 obtain ⟨Z,hZ⟩:∃ Z,rangeM (fndD D wd ss) (wd:Int) ss.length root lo hi=Z:=⟨_,rfl⟩
 rw [hZ] at hRM ⊢
 obtain ⟨N,hN⟩:∃ N,ss.length=N:=⟨_,rfl⟩
 have HHS:Hid (∀ w',Below w.heap.size w w' -> Calls prog 50 #[.agg #[.int .i64 (wd:Int),.slice a N c]] w' fun e w''=>∃ g c',e=.returned (.slice (some ⟨g,0,none⟩) N c') /\ (∀ W,Below w''.heap.size w'' W -> Calls prog 105 #[.agg #[.int .i64 (wd:Int),.slice a N c],.slice (some ⟨g,0,none⟩) N c',.string root,.string ⟨#[]⟩,.agg #[.string ⟨#[]⟩,.string ⟨#[]⟩],.string lo,.string hi,.int .i64 0] W (GoPost R W)) /\ Below w'.heap.size w' w''):=by
  intro w' hb
  have hA:=h.below hb
  rw [<- hN]
  refine (hashes_any HD wd a ss c w' hA hq h1 h2).mono ?_
  rintro e w'' ⟨g,c',rfl,hrow,hb2⟩
  refine ⟨g,c',rfl,fun W hW=>?_,hb2⟩
  have hA2:=hA.below hb2
  rw [<- hR]
  refine go_all (fndD D wd ss) wd (fndD_ok D wd ss hdo) a ss.length c g c' lo hi hlo hhi w'' (fun w3 hash hb3=>?_) 501 root ⟨#[]⟩ ⟨#[]⟩ ⟨#[]⟩ 0 W (by omega) (by omega) hW (by decide) (by decide) (by decide)
  have:=lfind_any D wd HDd a ss c g c' (ss.map (hashT wd)) hash w3 (hA2.below hb3) (by rw [List.length_map]) (Nat.lt_of_lt_of_le hrow.lt hb3.size) (fun j hj=>by
   have e:=(hrow.below hb3).cell j hj
   rw [e,List.getElem?_map,List.getD_eq_getElem?_getD,List.getElem?_eq_getElem (by rw [List.length_map];exact hj)]
   rfl)
  rw [first_hash] at this
  exact this
 have hRMH:Hid (Z=if R.1=0 then (R.2.2,0) else ([],R.1)):=hRM
 rw [hN] at HP hS ⊢
 clear h hq hN hR hRM hZ hp hk
 go_enter func48,ntmps48
 go_upto_region 2 with fail
 generalize (w.alloc (.cells #[.int .i64 (wd:Int),.slice a N c] 31)).alloc (.cells #[] 81)=W at hS ⊢
 obtain ⟨gz,hgz⟩:∃ x,w.heap.size + 1=x:=⟨_,rfl⟩
 rw [hgz] at hS ⊢
 obtain ⟨ga,hga⟩:∃ x,w.heap.size=x:=⟨_,rfl⟩
 rw [show SR w w.heap.size=SR w ga by rw [hga]] at hS
 rw [hga]
 clear hga hgz
 have k0:=ZC hS.na 0
 have k1:=ZC hS.na 1
 go_upto_region 4 with (first | (go_at_call 79;refine (HP _).mono ?_;rintro e w1 ⟨rfl,hb1⟩;have hS1:=hS.below hb1;clear k0 k1;have k0:=ZC hS1.na 0;have k1:=ZC hS1.na 1) | (go_at_call 82;refine (HH _).mono ?_;rintro e w2 ⟨rfl,rfl⟩))
 clear HP HH hb1 hS k0 k1
 have k0:w1.cell? ⟨ga,0,none⟩=some (.int .i64 (wd:Int)):=ZC hS1.na 0
 have k1:w1.cell? ⟨ga,1,none⟩=some (.slice a N c):=ZC hS1.na 1
 have hbd:Below w1.heap.size w1 w1.drew:=(Below.refl _ _).drew
 have HC:Hid (∀ W:World,W.heap[ga]?=some (.cells #[.int .i64 (wd:Int),.slice a N c] 31) -> W.cell? ⟨ga,0,none⟩=some (.int .i64 (wd:Int)) /\ W.cell? ⟨ga,1,none⟩=some (.slice a N c)):=fun W hW=>⟨ZC hW 0,ZC hW 1⟩
 have hna:=hS1.na
 have hbw:=hS1.bl
 obtain ⟨Rc,Rn,Rp⟩:=R
 obtain rfl:Rc=0:=hR0
 obtain ⟨m1,hm1⟩:∃ m1,Rp.length=m1:=⟨_,rfl⟩
 have hZ:Hid (Z=(Rp,0)):=by show _=_;rw [hRMH.out,if_pos rfl]
 have hm1h:Hid (Rp.length=m1):=hm1
 have HG:Hid (∀ g c' W,Calls prog 105 #[.agg #[.int .i64 (wd:Int),.slice a N c],.slice (some ⟨g,0,none⟩) N c',.string root,.string ⟨#[]⟩,.agg #[.string ⟨#[]⟩,.string ⟨#[]⟩],.string lo,.string hi,.int .i64 0] W (GoPost (0,Rn,Rp) W) -> Calls prog 105 #[.agg #[.int .i64 (wd:Int),.slice a N c],.slice (some ⟨g,0,none⟩) N c',.string root,.string ⟨#[]⟩,.agg #[.string ⟨#[]⟩,.string ⟨#[]⟩],.string lo,.string hi,.int .i64 0] W fun e w'=>(∃ a1 d1,e=.returned (.agg #[.slice a1 m1 d1,.int .i64 (Rn:Int),.int .i64 0]) /\ w'.ownsRow W.heap.size 81 2 (.slice a1 m1 d1) m1 (flatP Rp)) /\ Below W.heap.size W w'):=fun g c' W hc=>hc.mono fun e w' h=>⟨by rw [<- hm1];exact h.1 rfl,h.2.2⟩
 clear hm1 hRMH
 have hlt1:=hS1.lt
 go_region_held3 (fun W=>W.cell? ⟨ga,0,none⟩=some (.int .i64 (wd:Int)) /\ W.cell? ⟨ga,1,none⟩=some (.slice a N c)) (first | exact HC.out _ hna | exact HC.out _ (hS1.below ((Below.refl _ w1).drew.alloc (Nat.le_refl _) _)).na | exact HC.out _ hS2.na | exact HC.out _ (hS2.below ((Below.refl _ _).alloc (Nat.le_refl _) _)).na | exact HC.out _ hS3.na | exact HC.out _ (hS3.below ((Below.refl _ _).alloc (Nat.le_refl _) _)).na | exact HC.out _ (hS3.set3 hlt1 _ _ _).na | exact HC.out _ (hS3.set3 hlt2 _ _ _).na)
  (first
   | (go_at_call 50;refine (HHS.out (w1.drew.alloc (.cells #[.slice none 0 0,.int .i64 0,.int .i64 0] 158)) (hbw.drew.alloc hbw.size _)).mono ?_;rintro e w2 ⟨g,c',rfl,HGG,hb2⟩;have hS2:=(hS1.below ((Below.refl _ w1).drew.alloc (Nat.le_refl _) (.cells #[.slice none 0 0,.int .i64 0,.int .i64 0] 158))).below hb2;have hlt2:=hS2.lt;have n2:WB w1.heap.size (.slice none 0 0) (.int .i64 0) (.int .i64 0) w2:=WB.below (show WB w1.heap.size (.slice none 0 0) (.int .i64 0) (.int .i64 0) (w1.drew.alloc (.cells #[.slice none 0 0,.int .i64 0,.int .i64 0] 158)) from heap_alloc_new w1.drew _) hb2;clear hb2)
   | (go_at_call 50;refine (HHS.out w1.drew hbw.drew).mono ?_;rintro e w2 ⟨g,c',rfl,HGG,hb2⟩;have hS2:=hS1.below ((Below.refl w1.heap.size w1).drew.trans hb2);have hlt2:=hS2.lt;clear hb2)
   | (go_at_call 105;refine (HG.out g c' (w2.alloc (.cells #[.slice none 0 0,.int .i64 0,.int .i64 0] 158)) (HGG _ ((Below.refl _ w2).alloc (Nat.le_refl _) _))).mono ?_;rintro e w3 ⟨⟨a1,d1,rfl,ho3⟩,hb3⟩;have hS3:=(hS2.below ((Below.refl _ w2).alloc (Nat.le_refl _) (.cells #[.slice none 0 0,.int .i64 0,.int .i64 0] 158))).below hb3;have n3:WB w2.heap.size (.slice none 0 0) (.int .i64 0) (.int .i64 0) w3:=WB.below (show WB w2.heap.size (.slice none 0 0) (.int .i64 0) (.int .i64 0) (w2.alloc (.cells #[.slice none 0 0,.int .i64 0,.int .i64 0] 158)) from heap_alloc_new w2 _) hb3;clear hb3;obtain ⟨x0,x1,x2,y0,y1,y2⟩:=n3.at)
   | (go_at_call 105;refine (HG.out g c' w2 (HGG _ (Below.refl _ w2))).mono ?_;rintro e w3 ⟨⟨a1,d1,rfl,ho3⟩,hb3⟩;have hS3:=hS2.below hb3;have n3:=n2.below hb3;clear hb3;obtain ⟨x0,x1,x2,y0,y1,y2⟩:=n3.at)
   | (go_at_call 105;refine (HG.out g c' w2 (HGG _ (Below.refl _ w2))).mono ?_;rintro e w3 ⟨⟨a1,d1,rfl,ho3⟩,hb3⟩;have hS3:=hS2.below hb3;clear hb3))
 · have hS4:=hS3.below ((Below.refl w3.heap.size w3).alloc (Nat.le_refl _) (.cells #[.slice a1 m1 d1,.int .i64 (Rn:Int),.int .i64 0] 158))
   have n4:WB w3.heap.size (.slice a1 m1 d1) (.int .i64 (Rn:Int)) (.int .i64 0) (w3.alloc (.cells #[.slice a1 m1 d1,.int .i64 (Rn:Int),.int .i64 0] 158)):=heap_alloc_new w3 _
   have ho4:=own2_mono (ho3.alloc (.cells #[.slice a1 m1 d1,.int .i64 (Rn:Int),.int .i64 0] 158)) hS2.bl.size
   generalize w3.alloc (.cells #[.slice a1 m1 d1,.int .i64 (Rn:Int),.int .i64 0] 158)=W4 at hS4 n4 ho4 ⊢
   generalize w3.heap.size=gw at n4 ⊢
   obtain ⟨u0,u1,u2,_,_,_⟩:=n4.at
   have hbl:=hS4.bl
   have hfin:RangeAt (Rp,0) w (.returned (.tuple #[.slice a1 m1 d1,.int .i64 0])) W4:=⟨⟨a1,d1,by rw [hm1h.out],by rw [hm1h.out];exact ho4⟩,hbl⟩
   rw [<- hZ.out] at hfin
   clear k0 k1 hna hbd HGG hZ hS3 n4 ho4 hS4
   go_wp2_with fail
   go_ret2
   exact hfin
 · have hS4:=hS3.set3 hlt2 (.slice a1 m1 d1) (.int .i64 (Rn:Int)) (.int .i64 0)
   have n4:=n3.set3 (.slice a1 m1 d1) (.int .i64 (Rn:Int)) (.int .i64 0)
   have ho4:=own2_mono (own2_set3 ho3 (gw:=w2.heap.size) (by simp) (.slice a1 m1 d1) (.int .i64 (Rn:Int)) (.int .i64 0)) (base':=w.heap.size) (by have:=hS2.bl.size;simp;omega)
   generalize ((w3.setCell ⟨w2.heap.size,0,none⟩ (.slice a1 m1 d1)).setCell ⟨w2.heap.size,1,none⟩ (.int .i64 (Rn:Int))).setCell ⟨w2.heap.size,2,none⟩ (.int .i64 0)=W4 at hS4 n4 ho4 ⊢
   clear n3 x0 x1 x2 y0 y1 y2 ho3
   generalize w2.heap.size=gw at n4 ⊢
   obtain ⟨u0,u1,u2,_,_,_⟩:=n4.at
   have hbl:=hS4.bl
   have hfin:RangeAt (Rp,0) w (.returned (.tuple #[.slice a1 m1 d1,.int .i64 0])) W4:=⟨⟨a1,d1,by rw [hm1h.out],by rw [hm1h.out];exact ho4⟩,hbl⟩
   rw [<- hZ.out] at hfin
   clear k0 k1 hna hbd HGG hZ hS3 n4 ho4 hS4
   go_wp2_with fail
   go_ret2
   exact hfin
 · have hS4:=hS3.set3 hlt1 (.slice a1 m1 d1) (.int .i64 (Rn:Int)) (.int .i64 0)
   have n4:=n3.set3 (.slice a1 m1 d1) (.int .i64 (Rn:Int)) (.int .i64 0)
   have ho4:=own2_mono (own2_set3 ho3 (gw:=w1.heap.size) (Array.getElem?_eq_some_iff.1 n2).1 (.slice a1 m1 d1) (.int .i64 (Rn:Int)) (.int .i64 0)) (base':=w.heap.size) hS2.bl.size
   generalize ((w3.setCell ⟨w1.heap.size,0,none⟩ (.slice a1 m1 d1)).setCell ⟨w1.heap.size,1,none⟩ (.int .i64 (Rn:Int))).setCell ⟨w1.heap.size,2,none⟩ (.int .i64 0)=W4 at hS4 n4 ho4 ⊢
   clear n2 n3 x0 x1 x2 y0 y1 y2 ho3
   generalize w1.heap.size=gw at n4 ⊢
   obtain ⟨u0,u1,u2,_,_,_⟩:=n4.at
   have hbl:=hS4.bl
   have hfin:RangeAt (Rp,0) w (.returned (.tuple #[.slice a1 m1 d1,.int .i64 0])) W4:=⟨⟨a1,d1,by rw [hm1h.out],by rw [hm1h.out];exact ho4⟩,hbl⟩
   rw [<- hZ.out] at hfin
   clear k0 k1 hna hbd HGG hZ hS3 n4 ho4 hS4
   go_wp2_with fail
   go_ret2
   exact hfin
theorem srange_good (HD:Hid DigSaid) (D:Dec) (wd:Nat) (HDd:Hid (DecSaid 146 wd D)) (hdo:DecOk wd D) (a:Option Addr) (ss:List ByteArray) (c:Nat) (root lo hi:ByteArray) (w:World) (h:SArg a ss w) (hq:Hid (∀ j,(ss.getD j ⟨#[]⟩).size <= 1048575)) (h1:1 <= wd) (h2:wd <= 32)
 (hr:root.size <= 1048576) (hlo:lo.size <= 1048576) (hhi:hi.size <= 1048576) (hp:poolOk (wd:Int) ss.length=true) (hk:hashOk root.size (wd:Int)=true) :
 Calls prog 48 #[.agg #[.int .i64 (wd:Int),.slice a ss.length c],.string root,.string lo,.string hi] w (RangeAt (rangeM (fndD D wd ss) (wd:Int) ss.length root lo hi) w):=by
 by_cases hR0:(goF (fndD D wd ss) hgW lo hi 501 root ⟨#[]⟩ ⟨#[]⟩ ⟨#[]⟩ 0).1=0
 · exact srange_yes HD D wd HDd hdo a ss c root lo hi w h hq h1 h2 hr hlo hhi hp hk hR0
 · exact srange_err HD D wd HDd hdo a ss c root lo hi w h hq h1 h2 hr hlo hhi hp hk hR0
theorem pblk_below {g:Nat} {o:Obj} {w w':World} (hb:Below w.heap.size w w') (h:w.heap[g]?=some o):w'.heap[g]?=some o:=(hb.block g (Array.getElem?_eq_some_iff.1 h).1).trans h
theorem retP {fn:Func} {R:Ending -> World -> Prop} {A:Act} {p:Tmp} {gb:Nat} {n:Int} {a:Option Addr} {m c:Nat} {W:World} (hres:fn.results=#[.cell p 31]) (hp:A.tmps.getD p undef=.pointer (some ⟨gb,0,none⟩)) (hd:A.defers=[]) (hn:W.heap[gb]?=some (.cells #[.int .i64 n,.slice a m c] 31))
 (h:R (.returned (.agg #[.int .i64 n,.slice a m c])) W):bodyPost prog fn R Exit.ret A W:=by
 have c0:=ZC hn 0
 have c1:=ZC hn 1
 have hp':A.tmps[p]?.getD undef=.pointer (some ⟨gb,0,none⟩):=by simpa using hp
 refine bodyPost_ret (v:=.agg #[.int .i64 n,.slice a m c]) ?_ hd h
 simp [results,hres,go_sem,asAddr,hp',c0,c1]
theorem sha_len (l:List UInt8):(sha l).length=32:=by unfold sha;rw [outTo_length]
theorem extract_take (M:List UInt8) (n:Nat):(⟨M.toArray⟩:ByteArray).extract 0 n=⟨(M.take n).toArray⟩:=by
 apply ByteArray.ext
 rw [ByteArray.data_extract]
 apply Array.ext'
 rw [Array.toList_extract,List.extract_eq_take_drop]
 simp
theorem sdig_yes (s:ByteArray) (k:Nat) (w:World) (hs:s.size <= 1048576) (h1:1 <= k) (h2:k <= 32) :
 Calls prog 23 #[.string s,.int .i64 (k:Int)] w fun e w'=>e=.returned (.string ⟨((sha s.data.toList).take k).toArray⟩) /\ Below w.heap.size w w':=by
 have hl:=sha_len s.data.toList
 have hx:=extract_take (sha s.data.toList) k
 have hsp:=spec_any s w hs
 obtain ⟨X,hX⟩:∃ X:ByteArray,X=⟨(sha s.data.toList).toArray⟩:=⟨_,rfl⟩
 have hXs:X.size=32:=by rw [hX];exact hl
 rw [<- hX] at hx hsp
 have HX:Hid (X.extract 0 k=⟨((sha s.data.toList).take k).toArray⟩):=hx
 clear hX hx hl
 have q1:(1:Int) <= (k:Int):=by omega
 have q2:(k:Int) <= 32:=by omega
 go_enter func23,ntmps23
 go_wp2_with (first | (go_at_call 64;refine hsp.mono ?_;rintro e w' ⟨rfl,hb⟩) | go_in)
 go_ret
 rw [<- HX.out]
 exact ⟨rfl,hb⟩
def hashS (k v l r:ByteArray) (n:Int):ByteArray:=if (encS k v l r n).size=0 then ⟨#[]⟩ else ⟨((sha (78 :: (encS k v l r n).data.toList)).take n.toNat).toArray⟩
theorem encS_size (k v l r:ByteArray) (n:Int):(encS k v l r n).size <= 10000 /\ (¬ (encS k v l r n).size=0 -> 1 <= n /\ n <= 32):=by
 unfold encS
 split
 · rename_i h
   have ho:=nodeOk_out h
   rw [T_size]
   unfold encL
   simp only [List.length_append,sized_length,List.length_cons,List.length_nil]
   have e1:k.data.toList.length=k.size:=rfl
   have e2:v.data.toList.length=v.size:=rfl
   have e3:l.data.toList.length=l.size:=rfl
   have e4:r.data.toList.length=r.size:=rfl
   omega
 · exact ⟨Nat.zero_le _,fun h=>absurd rfl h⟩
theorem text_any (e:ByteArray) (w:World) (he:e.size <= 10000) :
 Calls prog 39 #[.string e] w fun x w'=>∃ t:ByteArray,x=.returned (.string t) /\ t.size <= 10001 /\ Hid (t.data.toList=78 :: e.data.toList) /\ w=w':=by
 have z:¬ (9223372036854775807 < (⟨#[78]⟩:ByteArray).size + e.size):=by show ¬ _ < 1 + e.size;omega
 have z':¬ (9223372036854775807 < 1 + e.size):=by omega
 go_enter func39,ntmps39
 go_wp2
 go_ret
 refine ⟨_,rfl,?_,?_,rfl⟩
 · rw [ByteArray.size_append];show 1 + e.size <= _;omega
 · show (_:List UInt8)=_
   rw [ByteArray.data_append]
   simp
theorem row_take {w:World} {base g n cap:Nat} {xs:List Value} (h:Row w base g n cap xs) (k:Nat) (hk:k <= n):Row w base g k cap (xs.take k) :=
 ⟨h.ge,h.lt,by rw [List.length_take,h.len];exact Nat.min_eq_left hk,Nat.le_trans hk h.le,fun j hj=>by rw [h.cell j (by omega),List.getElem?_take,if_pos hj],h.room,h.free⟩
theorem ehash_any (s:ByteArray) (w:World) (hs:s.size <= 1048576)
 (hK:∀ j,j < 64 -> w.cell? ⟨0,j,none⟩=some (.int .u32 ((kTab.getD j 0).toNat:Int))) :
 Calls prog 175 #[.string s] w fun e w'=>e=.returned (.agg ((sha (78 :: s.data.toList)).map B).toArray) /\ Below w.heap.size w w':=by
 have hl0:0 < w.heap.size:=World.block_lt_of_cell? w _ (hK 0 (by omega))
 have HK:Hid (∀ w':World,Below w.heap.size w w' -> ∀ j,j < 64 -> w'.cell? ⟨0,j,none⟩=some (.int .u32 ((kTab.getD j 0).toNat:Int))):=fun w' hb j hj=>(hb.cell (by exact hl0)).trans (hK j hj)
 clear hK
 have hsl:(78 :: s.data.toList).length=1 + s.size:=by rw [List.length_cons];show s.size + 1=_;omega
 go_enter func175,ntmps175
 go_wp2_with (refine wpList_alloc_row _ rfl (some 2) rfl 247 247 rfl (zeros8.map B) alloc32 ?_;intro g2 w2 hr2 hb2)
 have hr2':Row w2 w.heap.size g2 32 32 (zeros8.map B):=hr2
 have hge:=hr2.ge
 have hlt:=hr2.lt
 have hs2:=hb2.size
 clear hr2
 refine (new_any w2).mono ?_
 rintro e w3 ⟨rfl,hw3⟩
 have F3:Fed w3 w2.heap.size [] (List.replicate 64 0) 0:=by rw [hw3];exact fed_new w2
 have hb3:Below w2.heap.size w2 w3:=by rw [hw3];exact (Below.refl _ _).alloc (Nat.le_refl _) _
 clear hw3
 obtain ⟨b,hb⟩:∃ b,w2.heap.size=b:=⟨_,rfl⟩
 rw [hb] at F3
 rw [hb]
 have hs3:=hb3.size
 have hbw3:Below w.heap.size w w3:=hb2.trans (hb3.mono hs2)
 have hR3:Row w3 w.heap.size g2 32 32 (zeros8.map B):=hr2'.below hb3
 have hb0:b ≠ 0:=by omega
 have hgb:g2 < b:=by omega
 have hwb:w.heap.size <= b:=by omega
 clear hr2' hb3 hb2
 go_wp2_with fail
 refine (feed_any b [] (List.replicate 64 0) ⟨#[78]⟩ w3 F3 (by simp;show 1 <= _;omega) hb0 (HK.out w3 hbw3)).mono ?_
 rintro e w3' ⟨rfl,⟨k3,F3'⟩,hg3⟩
 have hs3':=hg3.size
 have hbw3':Below w.heap.size w w3':=hbw3.trans (below_of_grown hg3 hwb (by omega))
 have hR3':Row w3' w.heap.size g2 32 32 (zeros8.map B):=hR3.kept hg3 (by simp;omega)
 have F3n:Fed w3' b [78] k3 [78].length:=F3'
 clear F3 F3' hg3 hR3 hbw3
 go_wp2_with fail
 refine (feed_any b [78] k3 s w3' F3n (by simp;omega) hb0 (HK.out w3' hbw3')).mono ?_
 rintro e w4 ⟨rfl,⟨k4,F4⟩,hg4⟩
 have hs4:=hg4.size
 have hbw4:Below w.heap.size w w4:=hbw3'.trans (below_of_grown hg4 hwb (by omega))
 have hR4:Row w4 w.heap.size g2 32 32 (zeros8.map B):=hR3'.kept hg4 (by simp;omega)
 have F4n:Fed w4 b (78 :: s.data.toList) k4 (1 + s.size):=F4
 clear F3n F4 hg4 hR3' hbw3'
 have hfs:=fin_sha (78 :: s.data.toList) k4 F4n.H.kl F4n.tk
 have H4:=F4n.H
 rw [hsl] at H4 hfs
 clear F4n
 go_wp2_with fail
 refine (finish_any b _ k4 _ (1 + s.size) w4 H4 (by omega) (by omega) hb0 (HK.out w4 hbw4)).mono ?_
 rintro e w5 ⟨rfl,hg5⟩
 rw [hfs]
 clear hfs H4
 have hbw5:Below w.heap.size w w5:=hbw4.trans (below_of_grown hg5 hwb (by omega))
 have hR5:Row w5 w.heap.size g2 32 32 (zeros8.map B):=hR4.kept hg5 (by simp;omega)
 have hln:((sha (78 :: s.data.toList)).map B).length=32:=by rw [List.length_map];unfold sha;rw [outTo_length]
 have h1c:∀ v ∈ (sha (78 :: s.data.toList)).map B,v.oneCell'=true:=by
  intro v hv
  obtain ⟨x,_,rfl⟩:=List.mem_map.1 hv
  rfl
 obtain ⟨L,hL⟩:∃ L,(sha (78 :: s.data.toList)).map B=L:=⟨_,rfl⟩
 rw [hL] at hln h1c
 rw [hL]
 have HL:Hid ((sha (78 :: s.data.toList)).map B=L):=hL
 clear hL
 go_wp2_with (refine wpList_store_whole _ rfl rfl 247 (.tmp 2) (.tmp 11) rfl w.heap.size g2 32 (zeros8.map B) L rfl rfl hR5 hln size32 h1c ?_;intro w8 hR8 hg8)
 refine ret_row _ (p:=2) (ty:=247) rfl w.heap.size g2 32 32 L 5 rfl hR8 Tryz.underlying247 size32 rfl ?_
 refine ⟨?_,?_⟩
 · rw [HL.out]
 · exact hbw5.trans (below_of_grown hg8 hge (by have:=hbw5.size;omega))
def Rd (r:Nat) (s:ByteArray) (a:Nat) (f:Bool) (w:World):Prop:=w.heap[r]?=some (.cells #[.string s,.int .i64 (a:Int),.bool f] 138)
structure Mv (r:Nat) (w w':World):Prop where
 os:w'.os=w.os
 tape:w'.tape=w.tape
 output:w'.output=w.output
 size:w.heap.size <= w'.heap.size
 block:∀ k,k < w.heap.size -> k ≠ r -> w'.heap[k]?=w.heap[k]?
theorem Mv.refl (r:Nat) (w:World):Mv r w w:=⟨rfl,rfl,rfl,Nat.le_refl _,fun _ _ _=>rfl⟩
theorem Mv.trans {r:Nat} {a b c:World} (h:Mv r a b) (k:Mv r b c):Mv r a c :=
 ⟨k.os.trans h.os,k.tape.trans h.tape,k.output.trans h.output,Nat.le_trans h.size k.size,fun i hi hr=>(k.block i (Nat.lt_of_lt_of_le hi h.size) hr).trans (h.block i hi hr)⟩
theorem Mv.of_below {w w':World} (r:Nat) (h:Below w.heap.size w w'):Mv r w w':=⟨h.os,h.tape,h.output,h.size,fun k hk _=>h.block k hk⟩
theorem Mv.to_below {r B:Nat} {w w':World} (h:Mv r w w') (hB:B <= w.heap.size) (hr:B <= r):Below B w w':=⟨h.os,h.tape,h.output,h.size,fun k hk=>h.block k (Nat.lt_of_lt_of_le hk hB) (by omega)⟩
theorem Mv.alloc {r:Nat} {a w:World} (h:Mv r a w) (o:Obj):Mv r a (w.alloc o):=h.trans (Mv.of_below r ((Below.refl _ _).alloc (Nat.le_refl _) _))
theorem Mv.drew {r:Nat} {a w:World} (h:Mv r a w):Mv r a w.drew:=⟨h.os,h.tape,h.output,h.size,h.block⟩
theorem Mv.setCell {r:Nat} {a w:World} (h:Mv r a w) (i:Nat) (v:Value):Mv r a (w.setCell ⟨r,i,none⟩ v) :=
 ⟨h.os,h.tape,h.output,by rw [show (w.setCell ⟨r,i,none⟩ v).heap.size=w.heap.size by simp [World.setCell]];exact h.size,fun k hk hr=>(heap_setCell_other w ⟨r,i,none⟩ k v hr).trans (h.block k hk hr)⟩
theorem Mv.cells {r k:Nat} {w w':World} {o:Obj} (h:Mv r w w') (hk:w.heap[k]?=some o) (hr:k ≠ r):w'.heap[k]?=some o :=
 (h.block k (Array.getElem?_eq_some_iff.1 hk).1 hr).trans hk
theorem Rd.lt {r:Nat} {s:ByteArray} {a:Nat} {f:Bool} {w:World} (h:Rd r s a f w):r < w.heap.size:=(Array.getElem?_eq_some_iff.1 h).1
theorem Rd.below {r:Nat} {s:ByteArray} {a:Nat} {f:Bool} {w w':World} (h:Rd r s a f w) (hb:Below w.heap.size w w'):Rd r s a f w':=below_cells hb h
theorem Rd.alloc {r:Nat} {s:ByteArray} {a:Nat} {f:Bool} {w:World} (h:Rd r s a f w) (o:Obj):Rd r s a f (w.alloc o):=h.below ((Below.refl _ _).alloc (Nat.le_refl _) _)
theorem Rd.drew {r:Nat} {s:ByteArray} {a:Nat} {f:Bool} {w:World} (h:Rd r s a f w):Rd r s a f w.drew:=h
theorem Rd.setF {r:Nat} {s:ByteArray} {a:Nat} {f:Bool} {w:World} (h:Rd r s a f w) (g:Bool):Rd r s a g (w.setCell ⟨r,2,none⟩ (.bool g)):=heap_setCell_same w r 2 _ 138 _ h
theorem Rd.setA {r:Nat} {s:ByteArray} {a:Nat} {f:Bool} {w:World} (h:Rd r s a f w) (b:Nat):Rd r s b f (w.setCell ⟨r,1,none⟩ (.int .i64 (b:Int))):=heap_setCell_same w r 1 _ 138 _ h
theorem frozen_of_heap {w:World} {k j:Nat} {cs:Array Value} {t:TypeId} (h:w.heap[k]?=some (.cells cs t)):w.frozen? ⟨k,j,none⟩=false:=by rw [World.frozen?,h];rfl
theorem fail_any (r:Nat) (s:ByteArray) (a:Nat) (f:Bool) (w:World) (h:Rd r s a f w) :
 Calls prog 228 #[.pointer (some ⟨r,0,none⟩)] w fun e w'=>e=.returned (.tuple #[]) /\ Rd r s a true w' /\ Mv r w w':=by
 have c2:w.cell? ⟨r,2,none⟩=some (.bool f):=ZC h 2
 have f2:w.frozen? ⟨r,2,none⟩=false:=frozen_of_heap h
 go_enter func228,ntmps228
 go_wp2
 go_end0
 exact ⟨rfl,h.setF true,(Mv.refl r w).setCell 2 _⟩
def NX (s:ByteArray) (a:Nat) (f:Bool) (n:Nat) (t:ByteArray) (a':Nat) (f':Bool):Prop :=
 (f=false /\ a + n <= s.size /\ t=s.extract a (a + n) /\ a'=a + n /\ f'=false) \/ ((f=true \/ ¬ a + n <= s.size) /\ t=⟨#[]⟩ /\ a'=a /\ f'=true)
end Go.Proofs.YtibjhkpgaaapaaaGreatDoor
