import Derived.Test.YtibjhkpgaaapaaaGreatDoorZham
import Derived.Test.YtibjhkpgaaapaaaGreatDoorZhar
set_option maxRecDepth 100000
set_option maxHeartbeats 8000000
namespace Go.Proofs.YtibjhkpgaaapaaaGreatDoor
open Go.RowKit Go.Proofs.Sha Tryz
theorem go_step (fnd:ByteArray -> FN) (wd:Nat) (hfo:FndOk wd fnd) (a:Option Addr) (n c g c':Nat) (lo hi:ByteArray) (hlo:lo.size <= 1048576) (hhi:hi.size <= 1048576) (w0:World)
 (HF:Hid (∀ (w':World) (hash:ByteArray),Below w0.heap.size w0 w' -> Calls prog 107 #[.agg #[.int .i64 (wd:Int),.slice a n c],.slice (some ⟨g,0,none⟩) n c',.string hash] w' fun e w''=>e=.returned (nodeT (fnd hash)) /\ Below w'.heap.size w' w''))
 (f:Nat) (hash over under par:ByteArray) (cnt:Nat)
 (HI:Hid (∀ (hash over under par:ByteArray) (cnt':Nat) (w':World),cnt + 1 <= cnt' -> cnt' <= 500 -> Below w0.heap.size w0 w' -> over.size <= 1048576 -> under.size <= 1048576 -> par.size <= 1048576 →
  Calls prog 105 #[.agg #[.int .i64 (wd:Int),.slice a n c],.slice (some ⟨g,0,none⟩) n c',.string hash,.string par,.agg #[.string over,.string under],.string lo,.string hi,.int .i64 (cnt':Int)] w' (GoPost (goF fnd hgW lo hi f hash over under par cnt') w')))
 (w:World) (hw0:Below w0.heap.size w0 w) (hc:cnt <= 500) (ho:over.size <= 1048576) (hu:under.size <= 1048576) (hp:par.size <= 1048576) :
 Calls prog 105 #[.agg #[.int .i64 (wd:Int),.slice a n c],.slice (some ⟨g,0,none⟩) n c',.string hash,.string par,.agg #[.string over,.string under],.string lo,.string hi,.int .i64 (cnt:Int)] w (GoPost (goF fnd hgW lo hi (f + 1) hash over under par cnt) w):=by
 have HW:Hid (∀ w',Calls prog 106 #[.agg #[.string over,.string under],.string lo,.string hi] w' fun e w''=>e=.returned (.bool (canW over under lo hi)) /\ Below w'.heap.size w' w''):=fun w'=>wants_any over under lo hi w' ho hu hlo hhi
 have hGS:=GS.mk0 w wd a n c over under cnt
 obtain ⟨R,hR⟩:∃ R,goF fnd hgW lo hi (f + 1) hash over under par cnt=R:=⟨_,rfl⟩
 rw [hR]
 go_enter func105,ntmps105
 go_upto_region 2 with fail
 generalize (((((w.alloc (.cells #[.int .i64 (wd:Int),.slice a n c] 31)).alloc (.cells #[.string over,.string under] 94)).alloc (.cells #[.slice none 0 0,.int .i64 0,.int .i64 0] 158)).alloc (.cells #[] 81)).alloc (.cells #[.slice (some ⟨w.heap.size + 1 + 1 + 1,0,none⟩) 0 0,.int .i64 (cnt:Int),.int .i64 0] 158))=W at hGS ⊢
 obtain ⟨g17,h17⟩:∃ x,w.heap.size + 1 + 1 + 1 + 1=x:=⟨_,rfl⟩
 rw [h17] at hGS ⊢
 obtain ⟨gz,hgz⟩:∃ x,w.heap.size + 1 + 1 + 1=x:=⟨_,rfl⟩
 rw [hgz] at hGS ⊢
 obtain ⟨g16,h16⟩:∃ x,w.heap.size + 1 + 1=x:=⟨_,rfl⟩
 rw [h16] at hGS ⊢
 obtain ⟨g12,h12⟩:∃ x,w.heap.size + 1=x:=⟨_,rfl⟩
 rw [h12] at hGS ⊢
 obtain ⟨g8,h8⟩:∃ x,w.heap.size=x:=⟨_,rfl⟩
 rw [show GS w w.heap.size=GS w g8 by rw [h8]] at hGS
 rw [h8]
 clear h17 hgz h16 h12 h8
 have k8a:=ZC hGS.n8 0
 have k8b:=ZC hGS.n8 1
 have k12a:=ZC hGS.n12 0
 have k12b:=ZC hGS.n12 1
 cases h1:emp hash with
 | true =>
  have hb1:=emp_beq h1
  have hs1:=(emp_size h1).1 rfl
  have hRv:Hid (R=(0,cnt,[])):=by show _=_;rw [<- hR];exact goF_skip (by rw [h1];rfl)
  have k17a:=ZC hGS.n17 0
  have k17b:=ZC hGS.n17 1
  have k17c:=ZC hGS.n17 2
  have k16a:=ZC hGS.n16 0
  have k16b:=ZC hGS.n16 1
  have k16c:=ZC hGS.n16 2
  have f16:∀ j,W.frozen? ⟨g16,j,none⟩=false:=fun j=>by rw [World.frozen?,hGS.n16];rfl
  clear hR
  go_wp2_with fail
  exact hGS.skip hRv.out rfl rfl
 | false =>
  have hb1:=emp_beq h1
  have hs1:=(emp_size h1).2 rfl
  have hne1:=emp_ne h1
  cases h2:canW over under lo hi with
  | false =>
   rw [h2] at HW
   have hRv:Hid (R=(0,cnt,[])):=by show _=_;rw [<- hR];exact goF_skip (by rw [h1,h2];rfl)
   clear hR
   go_wp2_with (go_at_call 106;refine (HW.out _).mono ?_;rintro e W1 ⟨rfl,hb2⟩;have hG1:=hGS.below hb2;clear hb2 k8a k8b k12a k12b;have k17a:=ZC hG1.n17 0;have k17b:=ZC hG1.n17 1;have k17c:=ZC hG1.n17 2;have k16a:=ZC hG1.n16 0;have k16b:=ZC hG1.n16 1;have k16c:=ZC hG1.n16 2;have f16:∀ j,W1.frozen? ⟨g16,j,none⟩=false:=(fun j=>by rw [World.frozen?,hG1.n16];rfl))
   exact hG1.skip hRv.out rfl rfl
  | true =>
   rw [h2] at HW
   go_upto_region 4 with (go_at_call 106;refine (HW.out _).mono ?_;rintro e W1 ⟨rfl,hb2⟩;have hG1:=hGS.below hb2;clear hb2 k8a k8b k12a k12b)
   have hb01:Below w0.heap.size w0 W1:=hw0.trans (hG1.bl.mono hw0.size)
   have HF1:Hid (Calls prog 107 #[.agg #[.int .i64 (wd:Int),.slice a n c],.slice (some ⟨g,0,none⟩) n c',.string hash] W1 fun e w''=>e=.returned (nodeT (fnd hash)) /\ Below W1.heap.size W1 w''):=HF.out W1 hash hb01
   have hcode:=hfo.code hash
   have hnode:=hfo.node hash
   obtain ⟨⟨⟨k,v,l,r⟩,cd⟩,hF⟩:∃ F,fnd hash=F:=⟨_,rfl⟩
   rw [hF] at HF1 hcode hnode
   unfold nodeT at HF1
   have h12:(emp hash || !canW over under lo hi)=false:=by rw [h1,h2];rfl
   clear HW hGS h1 hb1 hs1 hne1 h2 W
   have k8a:=ZC hG1.n8 0
   have k8b:=ZC hG1.n8 1
   go_upto_region 5 with (go_at_call 107;refine HF1.out.mono ?_;rintro e W2 ⟨rfl,hb2⟩;have hG2:=hG1.below hb2;clear hb2 k8a k8b)
   have hG3:=hG2.below ((Below.refl W2.heap.size W2).alloc (Nat.le_refl _) (.cells #[.string k,.string v,.string l,.string r] 73))
   have hN:=heap_alloc_new W2 (.cells #[.string k,.string v,.string l,.string r] 73)
   have hgn:=hG2.lt
   generalize W2.alloc (.cells #[.string k,.string v,.string l,.string r] 73)=W3 at hG3 hN ⊢
   obtain ⟨gn,hgn'⟩:∃ x,W2.heap.size=x:=⟨_,rfl⟩
   rw [hgn'] at hgn hN ⊢
   clear hgn' hG2 hG1 HF1 hb01
   have n0:=ZC hN 0
   have n1:=ZC hN 1
   have n2:=ZC hN 2
   have n3:=ZC hN 3
   rcases hcode with rfl | rfl | rfl
   · obtain ⟨okk,okv,hl,hr⟩:=hnode rfl
     have hks:0 < k.size /\ k.size <= 256:=by unfold okKey at okk;exact of_decide_eq_true okk
     have hek:emp k=false:=by unfold emp;exact decide_eq_false (by omega)
     have HI4:Hid (∀ w',Calls prog 139 #[.string k,.agg #[.string over,.string under]] w' fun e w''=>e=.returned (.bool (insW over under k)) /\ Below w'.heap.size w' w''):=fun w'=>inside_any over under k w' hek ho hu (by omega)
     have k12a:=ZC hG3.n12 0
     have k12b:=ZC hG3.n12 1
     cases h3:insW over under k with
     | false =>
      rw [h3] at HI4
      have hRv:Hid (R.1=3):=by show _=_;rw [<- hR,goF_place h12 (by rw [hF]) (by rw [hF];simp [h3])]
      clear hR hF hnode
      go_wp2_with (go_at_call 139;refine (HI4.out _).mono ?_;rintro e W4 ⟨rfl,hb4⟩;have hG4:=hG3.below hb4;clear hb4 n0 n1 n2 n3 k12a k12b;have k16a:=ZC hG4.n16 0;have k16b:=ZC hG4.n16 1;have k16c:=ZC hG4.n16 2;have f16:∀ j,W4.frozen? ⟨g16,j,none⟩=false:=(fun j=>by rw [World.frozen?,hG4.n16];rfl))
      exact hG4.bad 3 hRv.out (by decide) rfl rfl
     | true =>
      rw [h3] at HI4
      have HH:Hid (∀ w',Calls prog 67 #[.string par,.string k] w' fun e w''=>e=.returned (.bool (hgW par k)) /\ Below w'.heap.size w' w''):=fun w'=>shigher_any par k w' hp (by omega)
      obtain ⟨b,hb⟩:∃ b,parW hgW par k=b:=⟨_,rfl⟩
      cases b with
      | false =>
       have hRv:Hid (R.1=3):=by show _=_;rw [<- hR,goF_place h12 (by rw [hF]) (by rw [hF];simp [hb])]
       have hb':emp par=false /\ hgW par k=false:=by simpa [parW] using hb
       have hbb:=emp_beq hb'.1
       have hbs:=(emp_size hb'.1).2 rfl
       have hbn:=emp_ne hb'.1
       rw [hb'.2] at HH
       clear hR hF hnode hb hb'
       go_wp2_with (first | (go_at_call 139;refine (HI4.out _).mono ?_;rintro e W4 ⟨rfl,hb4⟩;have hG4:=hG3.below hb4;have hN4:=(hb4.block gn (Array.getElem?_eq_some_iff.1 hN).1).trans hN;clear hb4 n0 n1 n2 n3 k12a k12b;have n0:=ZC hN4 0) | (go_at_call 67;refine (HH.out _).mono ?_;rintro e W5 ⟨rfl,hb5⟩;have hG5:=hG4.below hb5;clear hb5 n0;have k16a:=ZC hG5.n16 0;have k16b:=ZC hG5.n16 1;have k16c:=ZC hG5.n16 2;have f16:∀ j,W5.frozen? ⟨g16,j,none⟩=false:=(fun j=>by rw [World.frozen?,hG5.n16];rfl)))
       exact hG5.bad 3 hRv.out (by decide) rfl rfl
      | true =>
       have h34:(insW over under k && parW hgW par k)=true:=by rw [h3,hb];rfl
       have hpar:emp par=true \/ (emp par=false /\ hgW par k=true):=by
        unfold parW at hb
        cases he:emp par with
        | true=>exact .inl rfl
        | false=>rw [he] at hb;exact .inr ⟨rfl,hb⟩
       clear hb h3 hnode
       rcases hpar with he | ⟨he,hh⟩
       case' inl =>
        have hbb:=emp_beq he
        have hbs:=(emp_size he).1 rfl
        go_upto_region 9 with (go_at_call 139;refine (HI4.out _).mono ?_;rintro e W5 ⟨rfl,hb4⟩;have hG5:=hG3.below hb4;have hN5:=(hb4.block gn (Array.getElem?_eq_some_iff.1 hN).1).trans hN;clear hb4 n0 n1 n2 n3 k12a k12b)
        clear hbb hbs he
       case' inr =>
        rw [hh] at HH
        have hbb:=emp_beq he
        have hbs:=(emp_size he).2 rfl
        have hbn:=emp_ne he
        go_upto_region 9 with (first | (go_at_call 139;refine (HI4.out _).mono ?_;rintro e W4 ⟨rfl,hb4⟩;have hG4:=hG3.below hb4;have hN4:=(hb4.block gn (Array.getElem?_eq_some_iff.1 hN).1).trans hN;clear hb4 n0 n1 n2 n3 k12a k12b;have n0:=ZC hN4 0) | (go_at_call 67;refine (HH.out _).mono ?_;rintro e W5 ⟨rfl,hb5⟩;have hG5:=hG4.below hb5;have hN5:=(hb5.block gn (Array.getElem?_eq_some_iff.1 hN4).1).trans hN4;clear hb5 n0 hG4 hN4))
        clear hbb hbs hbn he hh
       all_goals
        clear HI4 HH hN hG3
        by_cases hm:500 < cnt + 1
        · have hRv:Hid (R.1=6):=by show _=_;rw [<- hR,goF_many h12 (by rw [hF]) (by rw [hF];exact h34) hm]
          obtain rfl:cnt=500:=by omega
          have k16a:=ZC hG5.n16 0
          have k16b:=ZC hG5.n16 1
          have k16c:=ZC hG5.n16 2
          have f16:∀ j,W5.frozen? ⟨g16,j,none⟩=false:=fun j=>by rw [World.frozen?,hG5.n16];rfl
          clear hR hF hm hc
          go_wp2_with fail
          exact hG5.bad 6 hRv.out (by decide) rfl rfl
        · obtain ⟨c1,hc1⟩:∃ c1,cnt + 1=c1:=⟨_,rfl⟩
          have hc1':c1 <= 500:=by omega
          have hwr2:(cnt:Int) + 1=(c1:Int):=by omega
          have hb05:Below w0.heap.size w0 W5:=hw0.trans (hG5.bl.mono hw0.size)
          obtain ⟨L,hL⟩:∃ L,goF fnd hgW lo hi f l over k k c1=L:=⟨_,rfl⟩
          have HL:Hid (Calls prog 105 #[.agg #[.int .i64 (wd:Int),.slice a n c],.slice (some ⟨g,0,none⟩) n c',.string l,.string k,.agg #[.string over,.string k],.string lo,.string hi,.int .i64 ((cnt:Int) + 1)] W5 (GoPost L W5)):=by show Calls _ _ _ _ _;rw [<- hL,hwr2];exact HI.out l over k k c1 W5 (by omega) hc1' hb05 ho (by omega) (by omega)
          have hdc:decide (500 < cnt + 1)=false:=decide_eq_false hm
          have n0:=ZC hN5 0
          have n2:=ZC hN5 2
          have k8a:=ZC hG5.n8 0
          have k8b:=ZC hG5.n8 1
          have k12a:=ZC hG5.n12 0
          have hwr:wrap64 ((cnt:Int) + 1)=((cnt + 1:Nat):Int):=by rw [wr_in _ (by omega)];rfl
          have hc1h:Hid (cnt + 1=c1 /\ c1 <= 500):=⟨hc1,hc1'⟩
          have hLh:Hid (goF fnd hgW lo hi f l over k k c1=L):=hL
          have hRh:Hid (goF fnd hgW lo hi (f + 1) hash over under par cnt=R):=hR
          have hFh:Hid (fnd hash=((k,v,l,r),0)):=hF
          have hkh:Hid (0 < k.size /\ k.size <= 256):=hks
          clear hwr2 hc1 hL hR hF hb05 hc1' hks hl hr
          go_upto_region 11 with fail
          clear hm hdc
          by_cases hL0:L.1=0
          · obtain ⟨Lc,Ln,Lp⟩:=L
            obtain rfl:Lc=0:=hL0
            obtain ⟨ln,hln⟩:∃ ln,Lp.length=ln:=⟨_,rfl⟩
            have HL1:Hid (Calls prog 105 #[.agg #[.int .i64 (wd:Int),.slice a n c],.slice (some ⟨g,0,none⟩) n c',.string l,.string k,.agg #[.string over,.string k],.string lo,.string hi,.int .i64 ((cnt:Int) + 1)] W5 fun e w'=>(∃ a1 d1,e=.returned (.agg #[.slice a1 ln d1,.int .i64 (Ln:Int),.int .i64 0]) /\ w'.ownsRow W5.heap.size 81 2 (.slice a1 ln d1) ln (flatP Lp)) /\ Below W5.heap.size W5 w'):=HL.out.mono fun e w' h=>⟨by rw [<- hln];exact h.1 rfl,h.2.2⟩
            clear HL
            have hlnh:Hid (Lp.length=ln):=hln
            clear hln
            go_upto_region 12 with (go_at_call 105;refine HL1.out.mono ?_;rintro e W6 ⟨⟨a1,d1,rfl,hown6⟩,hb6⟩;have hG6:=hG5.below hb6;have hN6:=(hb6.block gn (Array.getElem?_eq_some_iff.1 hN5).1).trans hN5;clear n0 n2 k8a k8b k12a)
            have hLc:=goF_cnt f l over k k c1 hc1h.out.2 (by rw [hLh.out])
            rw [hLh.out] at hLc
            have hLc:Hid (c1 <= Ln /\ Ln <= 500):=hLc
            have hG7:=hG6.below ((Below.refl W6.heap.size W6).alloc (Nat.le_refl _) (.cells #[.slice a1 ln d1,.int .i64 (Ln:Int),.int .i64 0] 158))
            have hL7:=heap_alloc_new W6 (.cells #[.slice a1 ln d1,.int .i64 (Ln:Int),.int .i64 0] 158)
            have hN7:=(Below.heap_alloc W6 (.cells #[.slice a1 ln d1,.int .i64 (Ln:Int),.int .i64 0] 158) gn (Array.getElem?_eq_some_iff.1 hN6).1).trans hN6
            have own7:(W6.alloc (.cells #[.slice a1 ln d1,.int .i64 (Ln:Int),.int .i64 0] 158)).ownsRow w.heap.size 81 2 (.slice a1 ln d1) ln (flatP Lp):=own2_mono (hown6.alloc _) hG5.bl.size
            have hrow7:∀ q,(Value.slice a1 ln d1).ownBlock=some q -> g17 < q /\ gn < q /\ q < W6.heap.size:=fun q hq=>by have q1:=own2_cells hown6 hq;have q2:=hG5.lt;have q3:=(Array.getElem?_eq_some_iff.1 hN5).1;exact ⟨by omega,by omega,q1.2.1⟩
            generalize W6.alloc (.cells #[.slice a1 ln d1,.int .i64 (Ln:Int),.int .i64 0] 158)=W7 at hG7 hL7 hN7 own7 ⊢
            obtain ⟨gl,hgl⟩:∃ x,W6.heap.size=x:=⟨_,rfl⟩
            rw [hgl] at hL7 hrow7 ⊢
            have hglh:Hid (∀ q,(Value.slice a1 ln d1).ownBlock=some q -> g17 < q /\ gn < q /\ q < gl):=hrow7
            clear hgl hrow7 hown6 hN6 hG6
            have hb07:Below w0.heap.size w0 W7:=hw0.trans (hG7.bl.mono hw0.size)
            obtain ⟨Q,hQ⟩:∃ Q,goF fnd hgW lo hi f r k under k Ln=Q:=⟨_,rfl⟩
            have HQ:Hid (Calls prog 105 #[.agg #[.int .i64 (wd:Int),.slice a n c],.slice (some ⟨g,0,none⟩) n c',.string r,.string k,.agg #[.string k,.string under],.string lo,.string hi,.int .i64 (Ln:Int)] W7 (GoPost Q W7)):=by show Calls _ _ _ _ _;rw [<- hQ];exact HI.out r k under k Ln W7 (by have:=hc1h.out;have:=hLc.out;omega) hLc.out.2 hb07 (by have:=hkh.out;omega) hu (by have:=hkh.out;omega)
            have hQh:Hid (goF fnd hgW lo hi f r k under k Ln=Q):=hQ
            have hRn:=goF_node (L:=(0,Ln,Lp)) (par:=par) (cnt:=cnt) h12 hFh.out h34 (by have:=hc1h.out;omega) (by rw [hc1h.out.1];exact hLh.out) hQ
            rw [hRh.out,if_neg (by simp)] at hRn
            have hRH:Hid (R=if Q.1 ≠ 0 then (Q.1,0,[]) else (0,Q.2.1,Lp ++ (if hasW lo hi k=true then [(k,v)] else []) ++ Q.2.2)):=hRn
            clear hb07 hQ hRn
            have n0:=ZC hN7 0
            have n3:=ZC hN7 3
            have k8a:=ZC hG7.n8 0
            have k8b:=ZC hG7.n8 1
            have k12b:=ZC hG7.n12 1
            have l0:=ZC hL7 0
            have l1:=ZC hL7 1
            have l2:=ZC hL7 2
            by_cases hQ0:Q.1=0
            · obtain ⟨Qc,Qn,Qp⟩:=Q
              obtain rfl:Qc=0:=hQ0
              obtain ⟨rn,hrn⟩:∃ rn,Qp.length=rn:=⟨_,rfl⟩
              have HQ1:Hid (Calls prog 105 #[.agg #[.int .i64 (wd:Int),.slice a n c],.slice (some ⟨g,0,none⟩) n c',.string r,.string k,.agg #[.string k,.string under],.string lo,.string hi,.int .i64 (Ln:Int)] W7 fun e w'=>(∃ a2 d2,e=.returned (.agg #[.slice a2 rn d2,.int .i64 (Qn:Int),.int .i64 0]) /\ w'.ownsRow W7.heap.size 81 2 (.slice a2 rn d2) rn (flatP Qp)) /\ Below W7.heap.size W7 w'):=HQ.out.mono fun e w' h=>⟨by rw [<- hrn];exact h.1 rfl,h.2.2⟩
              clear HQ
              have hrnh:Hid (Qp.length=rn):=hrn
              clear hrn
              go_upto_region 15 with (go_at_call 105;refine HQ1.out.mono ?_;rintro e W8 ⟨⟨a2,d2,rfl,hown8⟩,hb8⟩;have hG8:=hG7.below hb8;have hN8:=(hb8.block gn (Array.getElem?_eq_some_iff.1 hN7).1).trans hN7;have hL8:=(hb8.block gl (Array.getElem?_eq_some_iff.1 hL7).1).trans hL7;clear n0 n3 k8a k8b k12b l0 l1 l2)
              have hl7:=(Array.getElem?_eq_some_iff.1 hL7).1
              have hgr8:∀ q,(Value.slice a2 rn d2).ownBlock=some q -> gl < q:=fun q hq=>by have q1:=own2_cells hown8 hq;omega
              have hl8:gl < W8.heap.size:=Nat.lt_of_lt_of_le hl7 hb8.size
              have hO0:∀ gr,W8.heap.size=gr -> OutAt w g8 g12 g16 gz g17 wd a n c over under cnt gn gr k v l r a2 rn d2 Qn Qp (.slice a1 ln d1) ln Lp (W8.alloc (.cells #[.slice a2 rn d2,.int .i64 (Qn:Int),.int .i64 0] 158)):=fun gr hgr=>by
               have hba:=(Below.refl W8.heap.size W8).alloc (Nat.le_refl _) (.cells #[.slice a2 rn d2,.int .i64 (Qn:Int),.int .i64 0] 158)
               refine ⟨⟨hG8.below hba,(hba.block _ (Array.getElem?_eq_some_iff.1 hN8).1).trans hN8,by rw [<- hgr];exact heap_alloc_new W8 _,hgn,by rw [<- hgr];exact hG8.lt,own2_mono (hown8.alloc _) hG7.bl.size⟩,(own2_kept own7 (fun q _ hq=>hb8.block q hq)).alloc _,fun q hq=>?_,hlnh.out⟩
               have q1:=hglh.out q hq
               refine ⟨q1.1,by omega,by omega,fun e=>?_⟩
               have:=hgr8 q e
               omega
              have hL9:=(Below.heap_alloc W8 (.cells #[.slice a2 rn d2,.int .i64 (Qn:Int),.int .i64 0] 158) gl hl8).trans hL8
              obtain ⟨gr,hgr⟩:∃ x,W8.heap.size=x:=⟨_,rfl⟩
              have hO9:=hO0 gr hgr
              rw [hgr]
              generalize W8.alloc (.cells #[.slice a2 rn d2,.int .i64 (Qn:Int),.int .i64 0] 158)=W9 at hO9 hL9 ⊢
              clear hO0 hgr hgr8 hl8 hl7 hown8 hb8 hG8 hN8 hL8 own7 hL7 hN7 hG7 HQ1
              have l0:=ZC hL9 0
              have r0:=ZC hO9.os.rr 0
              have r1:=ZC hO9.os.rr 1
              have r2:=ZC hO9.os.rr 2
              obtain ⟨i0,hi0,hz0,hz1,hz2⟩:=info_parts2 info37
              have hcnts:Hid (ln <= 500 /\ rn <= 500):=by
               have e1:=goF_len f l over k k c1 (by rw [hLh.out])
               have e2:=goF_len f r k under k Ln (by rw [hQh.out])
               have e3:=goF_cnt f r k under k Ln hLc.out.2 (by rw [hQh.out])
               rw [hLh.out] at e1
               rw [hQh.out] at e2 e3
               have e4:=hLc.out
               have e5:=hlnh.out
               have e6:=hrnh.out
               simp only at e1 e2 e3
               show _ /\ _
               omega
              obtain ⟨X,hX⟩:∃ X,Lp ++ (if hasW lo hi k=true then [(k,v)] else [])=X:=⟨_,rfl⟩
              have hRX:Hid (R=(0,Qn,X ++ Qp)):=by show _=_;rw [hRH.out,if_neg (by simp),hX]
              have HA:Hid (∀ w',Calls prog 85 #[.string k,.string lo] w' fun e w''=>e=.returned (.bool (lessB k lo)) /\ Below w'.heap.size w' w''):=fun w'=>(lessS_q k lo w' (by have:=hkh.out;omega) hlo).mono fun e w'' h=>⟨h.1,by obtain ⟨m,rfl⟩:=h.2;exact draws_below m (Below.refl _ _)⟩
              have HB:Hid (∀ w',Calls prog 85 #[.string k,.string hi] w' fun e w''=>e=.returned (.bool (lessB k hi)) /\ Below w'.heap.size w' w''):=fun w'=>(lessS_q k hi w' (by have:=hkh.out;omega) hhi).mono fun e w'' h=>⟨h.1,by obtain ⟨m,rfl⟩:=h.2;exact draws_below m (Below.refl _ _)⟩
              have hleaf:lessB k lo=true \/ (lessB k lo=false /\ emp hi=true) \/ (lessB k lo=false /\ emp hi=false /\ lessB k hi=true) \/ (lessB k lo=false /\ emp hi=false /\ lessB k hi=false):=by cases lessB k lo <;> cases emp hi <;> cases lessB k hi <;> simp
              have hln5:ln <= 500:=hcnts.out.1
              have hwsz:w.heap.size <= W9.heap.size:=hO9.os.gs.bl.size
              clear hRH hRh hLh hQh hFh HL1 HI HF hfo hL9 hglh hLc hc1h hG5 hN5 h12 h34
              go_upto_region 18 with fail
              clear l0 r0 r1 r2
              have n0:=ZC hO9.os.nn 0
              rcases hleaf with e1 | ⟨e1,e2⟩ | ⟨e1,e2,e3⟩ | ⟨e1,e2,e3⟩
              case' inl =>
               rw [e1] at HA
               have hst0:X=Lp:=by rw [<- hX,if_neg (by unfold hasW;rw [e1];simp),List.append_nil]
               clear e1
               go_upto_region 20 with (go_at_call_of 85 (Value.string lo);refine (HA.out _).mono ?_;rintro e W10 ⟨rfl,hb10⟩;have hO10:=hO9.below hb10;clear n0)
               have hst:=hO10
               rw [<- hst0] at hst
               clear hst0 hO10 hb10
              case' inr.inl =>
               rw [e1] at HA
               have hst0:X=Lp ++ [(k,v)]:=by rw [<- hX,if_pos (by unfold hasW;rw [e1,e2];rfl)]
               have hbb:=emp_beq e2
               have hbs:=(emp_size e2).1 rfl
               clear e1 e2
               go_upto_region 19 with (go_at_call_of 85 (Value.string lo);refine (HA.out _).mono ?_;rintro e W10 ⟨rfl,hb10⟩;have hO10:=hO9.below hb10;clear n0)
               have hsz10:=hb10.size
               have n0:=ZC hO10.os.nn 0
               have n1:=ZC hO10.os.nn 1
               go_upto_region 20 with (at_builtin;refine wpList_append_lies _ rfl (.tmp 132) (.tmp 138) 35 rfl w.heap.size 81 i0 (.agg #[.string ⟨#[]⟩,.string ⟨#[]⟩]) 2 32 Tryz.underlying35 hi0 hz0 hz1 hz2 rfl (by decide) (.slice a1 ln d1) ln (flatP Lp) rfl (hO10.own.alloc _) ⟨W10.heap.size,0,none⟩ 1 1 [.string k,.string v] rfl rfl (World.news_of_block (heap_alloc_new W10 _)) (by simp [Value.oneCell']) (by decide) (by unfold maxLen;omega) (by omega) (by simp;omega) (W10.heap.size + 1) (by simp) ?_;intro g5 c5 W12 hown5 hgrow5 hat5 hlt5)
               have hst:=hO10.more (y:=(k,v)) hown5 hgrow5 hat5 rfl
               rw [<- hst0] at hst
               clear hst0 hO10 hb10 n0 n1 hown5 hgrow5 hat5 hlt5 hsz10
              case' inr.inr.inl =>
               rw [e1] at HA
               rw [e3] at HB
               have hst0:X=Lp ++ [(k,v)]:=by rw [<- hX,if_pos (by unfold hasW;rw [e1,e2,e3];rfl)]
               have hbb:=emp_beq e2
               have hbs:=(emp_size e2).2 rfl
               have hbn:=emp_ne e2
               clear e1 e2 e3
               go_upto_region 19 with (first | (go_at_call_of 85 (Value.string lo);refine (HA.out _).mono ?_;rintro e W11 ⟨rfl,hb11⟩;have hO11:=hO9.below hb11;clear n0;have n0:=ZC hO11.os.nn 0) | (go_at_call_of 85 (Value.string hi);refine (HB.out _).mono ?_;rintro e W10 ⟨rfl,hb10⟩;have hO10:=hO11.below hb10;have hb10:=(hb11.trans (hb10.mono hb11.size));clear n0 hO11))
               have hsz10:=hb10.size
               have n0:=ZC hO10.os.nn 0
               have n1:=ZC hO10.os.nn 1
               go_upto_region 20 with (at_builtin;refine wpList_append_lies _ rfl (.tmp 132) (.tmp 138) 35 rfl w.heap.size 81 i0 (.agg #[.string ⟨#[]⟩,.string ⟨#[]⟩]) 2 32 Tryz.underlying35 hi0 hz0 hz1 hz2 rfl (by decide) (.slice a1 ln d1) ln (flatP Lp) rfl (hO10.own.alloc _) ⟨W10.heap.size,0,none⟩ 1 1 [.string k,.string v] rfl rfl (World.news_of_block (heap_alloc_new W10 _)) (by simp [Value.oneCell']) (by decide) (by unfold maxLen;omega) (by omega) (by simp;omega) (W10.heap.size + 1) (by simp) ?_;intro g5 c5 W12 hown5 hgrow5 hat5 hlt5)
               have hst:=hO10.more (y:=(k,v)) hown5 hgrow5 hat5 rfl
               rw [<- hst0] at hst
               clear hst0 hO10 hb10 n0 n1 hown5 hgrow5 hat5 hlt5 hsz10
              case' inr.inr.inr =>
               rw [e1] at HA
               rw [e3] at HB
               have hst0:X=Lp:=by rw [<- hX,if_neg (by unfold hasW;rw [e1,e2,e3];simp),List.append_nil]
               have hbb:=emp_beq e2
               have hbs:=(emp_size e2).2 rfl
               have hbn:=emp_ne e2
               clear e1 e2 e3
               go_upto_region 20 with (first | (go_at_call_of 85 (Value.string lo);refine (HA.out _).mono ?_;rintro e W11 ⟨rfl,hb11⟩;have hO11:=hO9.below hb11;clear n0;have n0:=ZC hO11.os.nn 0) | (go_at_call_of 85 (Value.string hi);refine (HB.out _).mono ?_;rintro e W10 ⟨rfl,hb10⟩;have hO10:=hO11.below hb10;clear n0 hO11))
               have hst:=hO10
               rw [<- hst0] at hst
               clear hst0 hO10 hb10
              all_goals
               clear HA HB hX hO9 hwsz
               have hxl:=hst.len
               have hxl5:X.length <= 501:=by omega
               obtain ⟨xl,hxe⟩:∃ xl,X.length=xl:=⟨_,rfl⟩
               have hxeh:Hid (X.length=xl):=hxe
               have hst0:=hst
               have hxlh:Hid _:=hxl
               rw [hxe] at hxl5
               have hrn5:rn <= 500:=hcnts.out.2
               clear hcnts hln5 hxe hxl hst0
               have hstH:Hid _:=hst
               have r0:=ZC hst.os.rr 0
               clear hst
               go_wp2_with fail
               go_loopw [22,23] (fun t22 t23 wr=>∃ i:Nat,i <= rn /\ t23=.int .i64 (i:Int) /\ ∃ (a':Option Addr) (d':Nat),t22=.slice a' (xl + i) d' /\ OutAt w g8 g12 g16 gz g17 wd a n c over under cnt gn gr k v l r a2 rn d2 Qn Qp (.slice a' (xl + i) d') (xl + i) (X ++ Qp.take i) wr) (fun _ t23 _=>rn - (intOf t23).toNat)
               case atStart =>
                have e:=hxlh.out
                have e2:=hxeh.out
                rw [e2] at e
                refine ⟨0,Nat.zero_le _,rfl,_,_,by rw [Nat.add_zero,e],?_⟩
                rw [Nat.add_zero,e,List.take_zero,List.append_nil]
                exact hstH.out
               case round =>
                clear hstH hxlh r0
                obtain ⟨i,hik,rfl,a',d',rfl,hO⟩:=hrel
                have r0:=ZC hO.os.rr 0
                have r1:=ZC hO.os.rr 1
                have hwsz:=hO.os.gs.bl.size
                by_cases hlt:i < rn
                · have y1:decide ((i:Int) < (rn:Int))=true:=by simp;omega
                  have hx0:(0:Int) <= (i:Int):=Int.natCast_nonneg _
                  have hx1:(i:Int) < (rn:Int):=by omega
                  obtain ⟨b,hae,e0,e1⟩:=hO.os.pair hrnh.out i hlt
                  obtain ⟨⟨y0,y2⟩,hy⟩:∃ y,Qp.getD i noPair=y:=⟨_,rfl⟩
                  rw [hy] at e0 e1
                  have hstep:Hid (X ++ Qp.take (i + 1)=X ++ Qp.take i ++ [(y0,y2)]):=by
                   have hil:i < Qp.length:=by rw [hrnh.out];exact hlt
                   show _=_
                   rw [List.take_succ_eq_append_getElem hil,<- List.append_assoc,<- hy,List.getD_eq_getElem?_getD,List.getElem?_eq_getElem hil]
                   rfl
                  rw [hae] at r0
                  clear hy
                  have hOH:Hid _:=hO
                  have hown:=hO.own
                  clear hO
                  go_wp2_with (at_builtin;refine wpList_append_lies _ rfl (.tmp 147) (.tmp 153) 35 rfl w.heap.size 81 i0 (.agg #[.string ⟨#[]⟩,.string ⟨#[]⟩]) 2 32 Tryz.underlying35 hi0 hz0 hz1 hz2 rfl (by decide) (.slice a' (xl + i) d') (xl + i) _ rfl (hown.alloc _) ⟨wr.heap.size,0,none⟩ 1 1 [.string y0,.string y2] rfl rfl (World.news_of_block (heap_alloc_new wr _)) (by simp [Value.oneCell']) (by decide) (by unfold maxLen;omega) (by omega) (by simp;omega) (wr.heap.size + 1) (by simp) ?_;intro g5 c5 w5 hown5 hgrow5 hat5 hlt5)
                  have hO5:=hOH.out.more (y:=(y0,y2)) hown5 hgrow5 hat5 rfl
                  rw [<- hstep.out] at hO5
                  rw [hae] at hO5
                  go_roundw
                  case rel=>exact ⟨i + 1,hlt,by go_num,some ⟨g5,0,none⟩,c5,⟨rfl,rfl,rfl⟩,hO5⟩
                  case measure=>simp [intOf];omega
                · obtain rfl:i=rn:=by omega
                  have y1:decide ((i:Int) < (i:Int))=false:=by simp
                  have htk:Qp.take i=Qp:=List.take_of_length_le (by rw [hrnh.out];exact Nat.le_refl _)
                  rw [htk] at hO
                  have k16a:=ZC hO.os.gs.n16 0
                  have k16b:=ZC hO.os.gs.n16 1
                  have k16c:=ZC hO.os.gs.n16 2
                  have f16:∀ j,wr.frozen? ⟨g16,j,none⟩=false:=fun j=>by rw [World.frozen?,hO.os.gs.n16];rfl
                  go_wp2_with fail
                  exact hO.fin hRX.out rfl rfl
            · have hRv:Hid (R.1=Q.1):=by show _=_;rw [hRH.out,if_pos hQ0]
              obtain ⟨i,hie⟩:∃ i,Q.1=i:=⟨_,rfl⟩
              have HQ1:Hid (Calls prog 105 #[.agg #[.int .i64 (wd:Int),.slice a n c],.slice (some ⟨g,0,none⟩) n c',.string r,.string k,.agg #[.string k,.string under],.string lo,.string hi,.int .i64 (Ln:Int)] W7 fun e w'=>e=.returned (.agg #[.slice none 0 0,.int .i64 0,.int .i64 i]) /\ Below W7.heap.size W7 w'):=HQ.out.mono fun e w' h=>⟨by rw [<- hie];exact h.2.1 hQ0,h.2.2⟩
              rw [hie] at hRv hQ0
              have hbi:(i == 0)=false:=beq_eq_false_iff_ne.2 hQ0
              clear HQ hie
              go_upto_region 15 with (go_at_call 105;refine HQ1.out.mono ?_;rintro e W8 ⟨rfl,hb8⟩;have hG8:=hG7.below hb8;clear n0 n3 k8a k8b k12b l0 l1 l2)
              have hG9:=hG8.below ((Below.refl W8.heap.size W8).alloc (Nat.le_refl _) (.cells #[.slice none 0 0,.int .i64 0,.int .i64 i] 158))
              have hL9:=heap_alloc_new W8 (.cells #[.slice none 0 0,.int .i64 0,.int .i64 i] 158)
              generalize W8.alloc (.cells #[.slice none 0 0,.int .i64 0,.int .i64 i] 158)=W9 at hG9 hL9 ⊢
              obtain ⟨gr,hgr⟩:∃ x,W8.heap.size=x:=⟨_,rfl⟩
              rw [hgr] at hL9 ⊢
              have l0:=ZC hL9 0
              have l1:=ZC hL9 1
              have l2:=ZC hL9 2
              have k16a:=ZC hG9.n16 0
              have k16b:=ZC hG9.n16 1
              have k16c:=ZC hG9.n16 2
              have f16:∀ j,W9.frozen? ⟨g16,j,none⟩=false:=fun j=>by rw [World.frozen?,hG9.n16];rfl
              clear hgr
              go_wp2_with fail
              exact hG9.bad i hRv.out hQ0 rfl rfl
          · have hRv:Hid (R.1=L.1):=by show _=_;rw [<- hRh.out,goF_node (L:=L) h12 hFh.out h34 (by have:=hc1h.out;omega) (by rw [hc1h.out.1];exact hLh.out) rfl,if_pos hL0]
            obtain ⟨i,hie⟩:∃ i,L.1=i:=⟨_,rfl⟩
            have HL1:Hid (Calls prog 105 #[.agg #[.int .i64 (wd:Int),.slice a n c],.slice (some ⟨g,0,none⟩) n c',.string l,.string k,.agg #[.string over,.string k],.string lo,.string hi,.int .i64 ((cnt:Int) + 1)] W5 fun e w'=>e=.returned (.agg #[.slice none 0 0,.int .i64 0,.int .i64 i]) /\ Below W5.heap.size W5 w'):=HL.out.mono fun e w' h=>⟨by rw [<- hie];exact h.2.1 hL0,h.2.2⟩
            rw [hie] at hRv hL0
            have hbi:(i == 0)=false:=beq_eq_false_iff_ne.2 hL0
            clear HL hie
            go_upto_region 12 with (go_at_call 105;refine HL1.out.mono ?_;rintro e W6 ⟨rfl,hb6⟩;have hG6:=hG5.below hb6;clear n0 n2 k8a k8b k12a)
            have hG7:=hG6.below ((Below.refl W6.heap.size W6).alloc (Nat.le_refl _) (.cells #[.slice none 0 0,.int .i64 0,.int .i64 i] 158))
            have hL7:=heap_alloc_new W6 (.cells #[.slice none 0 0,.int .i64 0,.int .i64 i] 158)
            generalize W6.alloc (.cells #[.slice none 0 0,.int .i64 0,.int .i64 i] 158)=W7 at hG7 hL7 ⊢
            obtain ⟨gl,hgl⟩:∃ x,W6.heap.size=x:=⟨_,rfl⟩
            rw [hgl] at hL7 ⊢
            have l0:=ZC hL7 0
            have l1:=ZC hL7 1
            have l2:=ZC hL7 2
            have k16a:=ZC hG7.n16 0
            have k16b:=ZC hG7.n16 1
            have k16c:=ZC hG7.n16 2
            have f16:∀ j,W7.frozen? ⟨g16,j,none⟩=false:=fun j=>by rw [World.frozen?,hG7.n16];rfl
            clear hgl
            go_wp2_with fail
            exact hG7.bad i hRv.out hL0 rfl rfl
   · have hRv:Hid (R.1=2):=by show _=_;rw [<- hR,goF_missing h12 (by rw [hF])]
     have k16a:=ZC hG3.n16 0
     have k16b:=ZC hG3.n16 1
     have k16c:=ZC hG3.n16 2
     have f16:∀ j,W3.frozen? ⟨g16,j,none⟩=false:=fun j=>by rw [World.frozen?,hG3.n16];rfl
     clear hR hF hnode
     go_wp2_with fail
     exact hG3.bad 2 hRv.out (by decide) rfl rfl
   · have hRv:Hid (R.1=3):=by show _=_;rw [<- hR,goF_corrupt h12 (by rw [hF])]
     have k16a:=ZC hG3.n16 0
     have k16b:=ZC hG3.n16 1
     have k16c:=ZC hG3.n16 2
     have f16:∀ j,W3.frozen? ⟨g16,j,none⟩=false:=fun j=>by rw [World.frozen?,hG3.n16];rfl
     clear hR hF hnode
     go_wp2_with fail
     exact hG3.bad 3 hRv.out (by decide) rfl rfl
end Go.Proofs.YtibjhkpgaaapaaaGreatDoor
