import Derived.Test.YtibjhkpgaaapaaaGreatDoorZhbm
import Derived.Test.YtibjhkpgaaapaaaGreatDoorZhbb
import Derived.Defers
import Derived.Recover
set_option maxRecDepth 100000
set_option maxHeartbeats 4000000
namespace Go.Proofs.YtibjhkpgaaapaaaGreatDoor
open Go.RowKit Go.Proofs.Sha Tryz
theorem SubPost.bad {q rb wd:Nat} {lo hi s:ByteArray} {R:Option (PT × Nat × Nat)} {w w':World} (hR:R=none) (hm:Mw q rb w w'):SubPost q rb wd lo hi s R w badP w':=⟨fun t a' c' h=>(by rw [hR] at h;cases h),fun _=>rfl,hm⟩
theorem SubPost.good {q rb wd:Nat} {lo hi s:ByteArray} {R:Option (PT × Nat × Nat)} {w w':World} {t:PT} {a c:Nat} {x:Value} (hR:R=some (t,a,c)) (hp:PA wd w.heap.size t x w') (hr:RS q rb wd lo hi s a c w') (hm:Mw q rb w w'):SubPost q rb wd lo hi s R w (.returned x) w':=⟨fun t' a' c' h=>(by rw [hR] at h;cases h;exact ⟨x,rfl,hp,hr⟩),fun h=>(by rw [hR] at h;cases h),hm⟩
theorem sub_step (q rb wd:Nat) (h1:1 <= wd) (h2:wd <= 32) (lo hi s:ByteArray) (hs:s.size <= 1300000) (f:Nat) (HS:Hid (SubSaid q rb wd lo hi s f)):SubSaid q rb wd lo hi s (f + 1):=by
 intro over under pk par a cnt w hR hP hK ha hc hfu
 obtain ⟨R,hRe⟩:∃ R,rdP s lo hi wd (f + 1) a over under pk cnt=R:=⟨_,rfl⟩
 rw [hRe]
 rw [rdP] at hRe
 have hRe:Hid _:=hRe
 have hA:Below w.heap.size w (w.alloc (.cells #[.string over,.string under,.pointer par] 144)):=(Below.refl _ _).alloc (Nat.le_refl _) _
 have nA:=heap_alloc_new w (.cells #[.string over,.string under,.pointer par] 144)
 have hF0:∃ ga,FF q rb wd lo hi s over under pk par ga w a cnt (w.alloc (.cells #[.string over,.string under,.pointer par] 144)):=⟨w.heap.size,hR.below hA,Mw.of_below hA,rfl,nA,hP.mw hR (Mw.of_below hA),hK.below hA⟩
 clear hR hP hK nA
 go_enter func96,ntmps96
 go_upto_region 1 with fail
 generalize w.alloc (.cells #[.string over,.string under,.pointer par] 144)=W0 at hF0 hA ⊢
 obtain ⟨ga,hF⟩:=hF0
 rw [hF.sz]
 clear hA
 by_cases hlt:a < s.size
 case neg =>
  have hRn:Hid (R=none):=by show _=_;rw [<- hRe.out,if_neg hlt]
  have HN:Hid (∀ W,FF q rb wd lo hi s over under pk par ga w a cnt W -> Calls prog 140 #[.pointer (some ⟨q,0,none⟩),.iface 208 (.agg #[.int .i64 1,.bool false])] W fun e W'=>e=badP /\ Mw q rb w W'):=fun W hW=>by
   refine (rp_letter_no q rb wd lo hi s cnt a W hW.rs.pr hW.rs.rd hs ha hlt).mono ?_
   rintro e W' ⟨he,hm⟩
   exact ⟨he,hW.mw.trans (Mw.of_mv hm)⟩
  clear hlt
  go_wp2_with (first | (go_at_call 141;refine (letter_any _).mono ?_;rintro e w2 ⟨rfl,hb2⟩;have hF1:=hF.below hb2) | (go_at_call 140;refine (HN.out _ hF1).mono ?_;rintro e w3 ⟨rfl,hm3⟩))
  exact ⟨rfl,SubPost.bad hRn.out hm3⟩
 have HL:Hid (∀ W,FF q rb wd lo hi s over under pk par ga w a cnt W -> Calls prog 140 #[.pointer (some ⟨q,0,none⟩),.iface 208 (.agg #[.int .i64 1,.bool false])] W fun e W'=>e=.returned (.int .i64 (bAt s a:Int)) /\ FF q rb wd lo hi s over under pk par ga w (a + 1) cnt W'):=fun W hW=>by
  refine (rp_letter_ok q rb wd lo hi s cnt a W hW.rs.pr hW.rs.rd hs hlt).mono ?_
  rintro e W' ⟨he,hr,hm⟩
  exact ⟨he,hW.step (hW.rs.step hr hm) (Mw.of_mv hm)⟩
 have HC:Hid (∀ W,Calls prog 142 #[.agg #[.string lo,.string hi],.agg #[.string over,.string under,.pointer par]] W fun e W'=>e=.returned (.bool (canW over under lo hi)) /\ Below W.heap.size W W'):=fun W=>can_any lo hi over under par W
 have hRe2:Hid ((if bAt s a=69 then some (PT.e,a + 1,cnt)
  else if bAt s a=83 then
   if canW over under lo hi=false /\ a + 1 + wd <= s.size then some (PT.s (s.extract (a + 1) (a + 1 + wd)),a + 1 + wd,cnt) else none
  else if bAt s a=70 /\ canW over under lo hi=true then rdF s lo hi wd f (a + 1) over under pk cnt else none)=R):=by
  show _=_
  rw [<- hRe.out,if_pos hlt]
  rfl
 have ha1:a + 1 <= s.size:=hlt
 clear hRe hlt
 obtain ⟨b,hb⟩:∃ b,bAt s a=b:=⟨_,rfl⟩
 rw [hb] at HL hRe2
 clear hb
 obtain ⟨cw,hcw⟩:∃ cw,canW over under lo hi=cw:=⟨_,rfl⟩
 rw [hcw] at HC hRe2
 clear hcw
 go_upto_region 2 with (first | (go_at_call 141;refine (letter_any _).mono ?_;rintro e w2 ⟨rfl,hb2⟩;have hF1:=hF.below hb2) | (go_at_call 140;refine (HL.out _ hF1).mono ?_;rintro e w3 ⟨rfl,hF2⟩))
 clear hF hF1 hb2 HL
 clear w2 W0
 have a0:w3.cell? ⟨ga,0,none⟩=some (.string over):=ZC hF2.na 0
 have a1':w3.cell? ⟨ga,1,none⟩=some (.string under):=ZC hF2.na 1
 have a2':w3.cell? ⟨ga,2,none⟩=some (.pointer par):=ZC hF2.na 2
 have q2:w3.cell? ⟨q,2,none⟩=some (.string lo):=ZC hF2.rs.pr 2
 have q3:w3.cell? ⟨q,3,none⟩=some (.string hi):=ZC hF2.rs.pr 3
 have hC2:Hid (∀ W,FF q rb wd lo hi s over under pk par ga w (a + 1) cnt W -> W.cell? ⟨ga,0,none⟩=some (.string over) /\ W.cell? ⟨ga,1,none⟩=some (.string under) /\ W.cell? ⟨ga,2,none⟩=some (.pointer par) /\ W.cell? ⟨q,2,none⟩=some (.string lo) /\ W.cell? ⟨q,3,none⟩=some (.string hi)):=fun W hW=>⟨ZC hW.na 0,ZC hW.na 1,ZC hW.na 2,ZC hW.rs.pr 2,ZC hW.rs.pr 3⟩
 go_region_held3 (fun W=>W.cell? ⟨ga,0,none⟩=some (.string over) /\ W.cell? ⟨ga,1,none⟩=some (.string under) /\ W.cell? ⟨ga,2,none⟩=some (.pointer par) /\ W.cell? ⟨q,2,none⟩=some (.string lo) /\ W.cell? ⟨q,3,none⟩=some (.string hi)) (first | exact ⟨a0,a1',a2',q2,q3⟩ | exact hC2.out _ hF3) (first | (go_at_call 142;refine (HC.out _).mono ?_;rintro e w4 ⟨rfl,hb4'⟩;have hb4:Below w3.heap.size w3 w4:=(Below.refl w3.heap.size w3).drew.trans hb4';have hF3:=hF2.below hb4))
 clear hF2 hb4 hb4' a0 a1' a2' q2 q3 HC hC2
 clear w3
 by_cases hbE:b=69
 · subst hbE
   have hRv:Hid (R=some (.e,a + 1,cnt)):=by show _=_;rw [<- hRe2.out,if_pos rfl]
   clear hRe2
   go_wp2_with fail
   go_ret
   exact SubPost.good hRv.out rfl hF3.rs hF3.mw
 have zE:((b:Int) == 69)=false:=by simp;omega
 by_cases hbS:b=83
 · subst hbS
   cases cw with
   | true =>
    have hRn:Hid (R=none):=by show _=_;rw [<- hRe2.out,if_neg (by decide),if_pos rfl,if_neg (by simp)]
    clear hRe2
    go_wp2_with fail
    exact ⟨rfl,SubPost.bad hRn.out hF3.mw⟩
   | false =>
    have q1:w4.cell? ⟨q,1,none⟩=some (.int .i64 (wd:Int)):=ZC hF3.rs.pr 1
    by_cases hw:a + 1 + wd <= s.size
    · have hRv:Hid (R=some (.s (s.extract (a + 1) (a + 1 + wd)),a + 1 + wd,cnt)):=by show _=_;rw [<- hRe2.out,if_neg (by decide),if_pos rfl,if_pos ⟨rfl,hw⟩]
      have HP:Hid (∀ W,FF q rb wd lo hi s over under pk par ga w (a + 1) cnt W -> Calls prog 143 #[.pointer (some ⟨q,0,none⟩),.iface 214 (.agg #[.int .i64 (wd:Int)])] W fun e W'=>e=.returned (.string (s.extract (a + 1) (a + 1 + wd))) /\ FF q rb wd lo hi s over under pk par ga w (a + 1 + wd) cnt W'):=fun W hW=>by
       refine (rp_plain_ok wd h2 q rb wd lo hi s cnt (a + 1) W hW.rs.pr hW.rs.rd hs hw).mono ?_
       rintro e W' ⟨he,hr,hm⟩
       exact ⟨he,hW.step (hW.rs.step hr hm) (Mw.of_mv hm)⟩
      generalize s.extract (a + 1) (a + 1 + wd)=X at HP hRv
      clear hRe2 hw
      go_wp2_with (first | (go_at_call 143;refine (HP.out _ hF3).mono ?_;rintro e w5 ⟨rfl,hF5⟩))
      go_ret
      exact SubPost.good hRv.out rfl hF5.rs hF5.mw
    · have hRn:Hid (R=none):=by show _=_;rw [<- hRe2.out,if_neg (by decide),if_pos rfl,if_neg (fun h=>hw h.2)]
      have HP:Hid (∀ W,FF q rb wd lo hi s over under pk par ga w (a + 1) cnt W -> Calls prog 143 #[.pointer (some ⟨q,0,none⟩),.iface 214 (.agg #[.int .i64 (wd:Int)])] W fun e W'=>e=badP /\ Mw q rb w W'):=fun W hW=>by
       refine (rp_plain_no wd h2 q rb wd lo hi s cnt (a + 1) W hW.rs.pr hW.rs.rd hs ha1 hw).mono ?_
       rintro e W' ⟨he,hm⟩
       exact ⟨he,hW.mw.trans (Mw.of_mv hm)⟩
      clear hRe2 hw
      go_wp2_with (first | (go_at_call 143;refine (HP.out _ hF3).mono ?_;rintro e w5 ⟨rfl,hm5⟩))
      exact ⟨rfl,SubPost.bad hRn.out hm5⟩
 have zS:((b:Int) == 83)=false:=by simp;omega
 by_cases hbF:b=70
 · subst hbF
   cases cw with
   | false =>
    have hRn:Hid (R=none):=by show _=_;rw [<- hRe2.out,if_neg (by decide),if_neg (by decide),if_neg (by simp)]
    clear hRe2
    go_wp2_with fail
    exact ⟨rfl,SubPost.bad hRn.out hF3.mw⟩
   | true =>
    have hRv:Hid (rdF s lo hi wd f (a + 1) over under pk cnt=R):=by show _=_;rw [<- hRe2.out,if_neg (by decide),if_neg (by decide),if_pos ⟨rfl,rfl⟩]
    have a0:w4.cell? ⟨ga,0,none⟩=some (.string over):=ZC hF3.na 0
    have a1':w4.cell? ⟨ga,1,none⟩=some (.string under):=ZC hF3.na 1
    have a2':w4.cell? ⟨ga,2,none⟩=some (.pointer par):=ZC hF3.na 2
    have HU:=full_any q rb wd h1 h2 lo hi s hs f HS over under pk par (a + 1) cnt w4 hF3.rs hF3.pa hF3.kt ha1 hc (by omega)
    rw [hRv.out] at HU
    clear hRv hRe2
    cases R with
    | none =>
     have HU2:Calls prog 144 #[.pointer (some ⟨q,0,none⟩),.agg #[.string over,.string under,.pointer par]] w4 fun e w'=>e=badP /\ Mw q rb w w':=by
      refine HU.mono ?_
      rintro e w' ⟨_,he,hm⟩
      exact ⟨he rfl,hF3.mw.trans hm⟩
     clear HU
     go_wp2_with (first | (go_at_call 144;refine HU2.mono ?_;rintro e w5 ⟨rfl,hm5⟩))
     exact ⟨rfl,SubPost.bad rfl hm5⟩
    | some Y =>
     obtain ⟨t,a',c'⟩:=Y
     have HU2:Calls prog 144 #[.pointer (some ⟨q,0,none⟩),.agg #[.string over,.string under,.pointer par]] w4 fun e w'=>∃ b,e=.returned (.pointer (some ⟨b,0,none⟩)) /\ SubPost q rb wd lo hi s (some (t,a',c')) w (.returned (.iface 84 (.pointer (some ⟨b,0,none⟩)))) w':=by
      refine HU.mono ?_
      rintro e w' ⟨hy,_,hm⟩
      obtain ⟨b,he,hp,hr⟩:=hy t a' c' rfl
      exact ⟨b,he,SubPost.good rfl (hp.mono hF3.mw.size) hr (hF3.mw.trans hm)⟩
     clear HU
     go_wp2_with (first | (go_at_call 144;refine HU2.mono ?_;rintro e w5 ⟨pb,rfl,hp5⟩))
     go_ret
     exact hp5
 have zF:((b:Int) == 70)=false:=by simp;omega
 have hRn:Hid (R=none):=by show _=_;rw [<- hRe2.out,if_neg hbE,if_neg hbS,if_neg (fun h=>hbF h.1)]
 clear hRe2 hbE hbS hbF
 go_wp2_with fail
 exact ⟨rfl,SubPost.bad hRn.out hF3.mw⟩
theorem sub_all (q rb wd:Nat) (h1:1 <= wd) (h2:wd <= 32) (lo hi s:ByteArray) (hs:s.size <= 1300000):∀ f,SubSaid q rb wd lo hi s f
 | 0=>fun _ _ _ _ _ _ _ _ _ _ _ h h'=>by omega
 | f + 1=>sub_step q rb wd h1 h2 lo hi s hs f (sub_all q rb wd h1 h2 lo hi s hs f)
theorem catch_panics (gp gk:Nat) (u:TypeId) (pv:Value) (older:List PanicEntry) (w:World) (x y:Value) (hp:w.cell? ⟨gp,0,none⟩=some x) (hk:w.cell? ⟨gk,0,none⟩=some y) (fp:w.frozen? ⟨gp,0,none⟩=false) (fk:w.frozen? ⟨gk,0,none⟩=false) (hne:gp ≠ gk) :
 CallsD prog 92 #[.pointer (some ⟨gp,0,none⟩),.pointer (some ⟨gk,0,none⟩)] (.panicking ({ v:=.iface u pv,recovered:=false } :: older)) w fun e u' w' =>
  e=.returned (.tuple #[]) /\ u'=.panicking ({ v:=.iface u pv,recovered:=true } :: older) /\ w'=(w.setCell ⟨gp,0,none⟩ .nilIface).setCell ⟨gk,0,none⟩ (.bool false):=by
 refine callsD_of_wpS func92 rfl fun c₀ cs hu=>?_
 apply wpS_seq
 apply wpS_region
 simp [wpOpsS,go_sem,recoverD,hu,ntmps92,Exit.thenS]
 refine wpS_cond (t:=true) (by simp [Act.eval,Array.replicate]) ?_
 simp only [if_true]
 apply wpS_region
 simp [wpOpsS,go_sem,hp,hk,fp,fk,bodyPostS,results,Tryz.results92]
theorem catch_idle (gp gk:Nat) (w:World) :
 CallsD prog 92 #[.pointer (some ⟨gp,0,none⟩),.pointer (some ⟨gk,0,none⟩)] .returning w fun e u' w'=>e=.returned (.tuple #[]) /\ u'=.returning /\ w'=w:=by
 refine callsD_of_wpS func92 rfl fun c₀ cs hu=>?_
 apply wpS_seq
 apply wpS_region
 simp [wpOpsS,go_sem,recoverD,hu,ntmps92,Exit.thenS]
 refine wpS_cond (t:=false) (by simp [Act.eval,Array.replicate]) ?_
 simp only [Bool.false_eq_true,if_false]
 refine wpS_of_wp (wp_skip ?_)
 cases c₀
 simp_all [bodyPostS,results,Tryz.results92]
def accQ (wd:Nat) (root s:ByteArray):Option (PT × Nat × Nat) -> Option PT
 | none=>none
 | some (t,a',_)=>if a'=s.size /\ hashP wd t=root then some t else none
def accP (n:Int) (root lo hi s:ByteArray):Option PT :=
 if (isW n && hashOk root.size n)=true then accQ n.toNat root s (rdP s lo hi n.toNat 501 0 ⟨#[]⟩ ⟨#[]⟩ ⟨#[]⟩ 0) else none
def AccAt (n:Int) (R:Option PT) (w:World) (e:Ending) (w':World):Prop :=
 (∀ t,R=some t -> ∃ T y,e=.returned (.tuple #[.iface T y,.bool true]) /\ PA n.toNat w.heap.size t (.iface T y) w') /\ (R=none -> e=.returned (.tuple #[.nilIface,.bool false])) /\ Below w.heap.size w w'
structure A3 (w:World) (gp gk:Nat) (x y:Value) (W:World):Prop where
 bl:Below w.heap.size w W
 lp:w.heap.size <= gp
 lk:w.heap.size <= gk
 ne:gp ≠ gk
 np:W.heap[gp]?=some (.cells #[x] 77)
 nk:W.heap[gk]?=some (.cells #[y] 4)
theorem A3.mk0 (w:World) (lo hi:ByteArray):A3 w (w.heap.size + 1) (w.heap.size + 1 + 1) .nilIface (.bool false) (((w.alloc (.cells #[.string lo,.string hi] 75)).alloc (.cells #[.nilIface] 77)).alloc (.cells #[.bool false] 4)):=by
 have e2:=heap_alloc_new (w.alloc (.cells #[.string lo,.string hi] 75)) (.cells #[.nilIface] 77)
 have e3:=heap_alloc_new ((w.alloc (.cells #[.string lo,.string hi] 75)).alloc (.cells #[.nilIface] 77)) (.cells #[.bool false] 4)
 simp only [World.size_alloc] at e2 e3
 exact ⟨(((Below.refl _ _).alloc (Nat.le_refl _) _).alloc (by simp) _).alloc (by simp;omega) _,by omega,by omega,by omega,by rw [Below.heap_alloc _ _ _ (by simp)];exact e2,e3⟩
theorem A3.below {w:World} {gp gk:Nat} {x y:Value} {W W':World} (h:A3 w gp gk x y W) (hb:Below W.heap.size W W'):A3 w gp gk x y W':=⟨h.bl.trans (hb.mono h.bl.size),h.lp,h.lk,h.ne,below_cells hb h.np,below_cells hb h.nk⟩
theorem A3.panic {n:Int} {w:World} {gp gk:Nat} {x y:Value} {W:World} (h:A3 w gp gk x y W) {R:Option PT} (hR:R=none) (tm:Array Value) (h8:tm[8]?.getD undef=.pointer (some ⟨gp,0,none⟩)) (h9:tm[9]?.getD undef=.pointer (some ⟨gk,0,none⟩)) :
 bodyPostD prog Tryz.f41 (AccAt n R w) (.panic [{ v:=.iface 205 (.agg #[]),recovered:=false }]) { tmps:=tm,defers:=[{ target:=.fn (.func 92) #[.pointer (some ⟨gp,0,none⟩),.pointer (some ⟨gk,0,none⟩)],args:=#[] }] } W:=by
 subst hR
 refine leaves_cons (f:=92) (args:=#[.pointer (some ⟨gp,0,none⟩),.pointer (some ⟨gk,0,none⟩)]) (by simp) (by simp [go_sem]) ?_
 refine (catch_panics gp gk 205 _ [] _ x y (ZC h.np 0) (ZC h.nk 0) (frozen_of_heap h.np) (frozen_of_heap h.nk) h.ne).mono ?_
 rintro e u' w'' ⟨rfl,rfl,rfl⟩
 have n1:=heap_setCell_same W gp 0 _ 77 .nilIface h.np
 have n2:=set_other (i:=0) (x:=.bool false) n1 h.ne
 have n3:=heap_setCell_same (W.setCell ⟨gp,0,none⟩ .nilIface) gk 0 _ 4 (.bool false) (set_other h.nk h.ne.symm)
 have d1:((W.setCell ⟨gp,0,none⟩ .nilIface).setCell ⟨gk,0,none⟩ (.bool false)).cell? ⟨gp,0,none⟩=some .nilIface:=ZC n2 0
 have d2:((W.setCell ⟨gp,0,none⟩ .nilIface).setCell ⟨gk,0,none⟩ (.bool false)).cell? ⟨gk,0,none⟩=some (.bool false):=ZC n3 0
 have hb:Below w.heap.size w ((W.setCell ⟨gp,0,none⟩ .nilIface).setCell ⟨gk,0,none⟩ (.bool false)):=(h.bl.setCell h.lp _).setCell h.lk _
 generalize (W.setCell ⟨gp,0,none⟩ .nilIface).setCell ⟨gk,0,none⟩ (.bool false)=W2 at d1 d2 hb ⊢
 simp [Leaves,settle,results,Tryz.results41,go_sem,h8,h9,d1,d2]
 exact ⟨fun t h=>(by cases h),fun _=>rfl,hb⟩
theorem acc_bad (n:Int) (root lo hi s:ByteArray) (w:World) (_hs:s.size <= 1300000) (hr:root.size <= 1048576) (hb:(isW n && hashOk root.size n)=false) :
 Calls prog 41 #[.int .i64 n,.string root,.agg #[.string lo,.string hi],.string s] w (AccAt n none w):=by
 have hmf:∀ (fn:Fn) (first cap:Array Value) (w:World),(Instr.makeFunc fn first cap).run prog w=.ok (.func fn first cap) w:=fun _ _ _ _=>rfl
 have HW:Hid (∀ w',Calls prog 94 #[.int .i64 n] w' fun e w''=>e=.returned (.bool (isW n)) /\ w'=w''):=fun w'=>(isW_any n w').mono (by rintro e w'' ⟨he,hw⟩;exact ⟨he,hw.symm⟩)
 have HV:Hid (∀ w',Calls prog 95 #[.string root,.int .i64 n] w' fun e w''=>e=.returned (.bool (hashOk root.size n)) /\ w'=w''):=fun w'=>vlink_any root n w' hr
 have hA:=A3.mk0 w lo hi
 cases hw:isW n with
 | false =>
  rw [hw] at HW
  clear hb hw
  go_enter_defers func41,ntmps41
  go_wp2_with (first | (go_at_call 94;refine (HW.out _).mono ?_;rintro e w2 ⟨rfl,rfl⟩) | (go_at_call 93;refine (req_no _).mono ?_;rintro e w2 ⟨rfl,rfl⟩))
  exact hA.panic rfl _ rfl rfl
 | true =>
  rw [hw] at HW
  have hb2:hashOk root.size n=false:=by rw [hw] at hb;simpa using hb
  rw [hb2] at HV
  clear hb hw hb2
  go_enter_defers func41,ntmps41
  go_wp2_with (first | (go_at_call 94;refine (HW.out _).mono ?_;rintro e w2 ⟨rfl,rfl⟩) | (go_at_call 95;refine (HV.out _).mono ?_;rintro e w2 ⟨rfl,rfl⟩) | (go_at_call 93;refine (req_no _).mono ?_;rintro e w2 ⟨rfl,rfl⟩))
  exact hA.panic rfl _ rfl rfl
theorem A3.done {wd:Nat} {w:World} {gp gk:Nat} {T:TypeId} {y:Value} {W:World} (h:A3 w gp gk (.iface T y) (.bool true) W) {R:Option PT} {t:PT} (hR:some t=R) (hp:PA wd w.heap.size t (.iface T y) W) (tm:Array Value) (h8:tm[8]?.getD undef=.pointer (some ⟨gp,0,none⟩)) (h9:tm[9]?.getD undef=.pointer (some ⟨gk,0,none⟩)) :
 bodyPostD prog Tryz.f41 (AccAt wd R w) .ret { tmps:=tm,defers:=[{ target:=.fn (.func 92) #[.pointer (some ⟨gp,0,none⟩),.pointer (some ⟨gk,0,none⟩)],args:=#[] }] } W:=by
 subst hR
 refine leaves_cons (f:=92) (args:=#[.pointer (some ⟨gp,0,none⟩),.pointer (some ⟨gk,0,none⟩)]) (by simp) (by simp [go_sem]) ?_
 refine (catch_idle gp gk W).mono ?_
 rintro e u' w'' ⟨rfl,rfl,rfl⟩
 have d1:=ZC h.np 0
 have d2:=ZC h.nk 0
 simp at d1 d2
 simp [Leaves,settle,results,Tryz.results41,go_sem,h8,h9,d1,d2]
 exact ⟨fun t' h'=>(by cases h';exact ⟨T,y,rfl,by rw [Int.toNat_natCast];exact hp⟩),fun h'=>(by cases h'),h.bl⟩
theorem acc_ok (wd:Nat) (h1:1 <= wd) (h2:wd <= 32) (root lo hi s:ByteArray) (w:World) (hs:s.size <= 1300000) (hr:root.size <= 1048576) (hK:KT w) (hv:hashOk root.size (wd:Int)=true) :
 Calls prog 41 #[.int .i64 (wd:Int),.string root,.agg #[.string lo,.string hi],.string s] w (AccAt wd (accP wd root lo hi s) w):=by
 have hmf:∀ (fn:Fn) (first cap:Array Value) (w:World),(Instr.makeFunc fn first cap).run prog w=.ok (.func fn first cap) w:=fun _ _ _ _=>rfl
 have hw:isW (wd:Int)=true:=by unfold isW;rw [decide_eq_true (by omega:(1:Int) <= wd),decide_eq_true (by omega:(wd:Int) <= 32)];rfl
 have HW:Hid (∀ w',Calls prog 94 #[.int .i64 (wd:Int)] w' fun e w''=>e=.returned (.bool true) /\ w'=w''):=fun w'=>by
  rw [<- hw]
  exact (isW_any _ w').mono (by rintro e w'' ⟨he,hw⟩;exact ⟨he,hw.symm⟩)
 have HV:Hid (∀ w',Calls prog 95 #[.string root,.int .i64 (wd:Int)] w' fun e w''=>e=.returned (.bool true) /\ w'=w''):=fun w'=>by rw [<- hv];exact vlink_any root _ w' hr
 obtain ⟨R,hRe⟩:∃ R,accP wd root lo hi s=R:=⟨_,rfl⟩
 rw [hRe]
 have hRe2:Hid (accQ wd root s (rdP s lo hi wd 501 0 ⟨#[]⟩ ⟨#[]⟩ ⟨#[]⟩ 0)=R):=by
  show _=_
  rw [<- hRe]
  unfold accP
  rw [if_pos (by rw [hw,hv];rfl),Int.toNat_natCast]
 clear hRe hw hv
 have hA:=A3.mk0 w lo hi
 have hga:=(Below.heap_alloc ((w.alloc (.cells #[.string lo,.string hi] 75)).alloc (.cells #[.nilIface] 77)) (.cells #[.bool false] 4) w.heap.size (by simp;omega)).trans ((Below.heap_alloc (w.alloc (.cells #[.string lo,.string hi] 75)) (.cells #[.nilIface] 77) w.heap.size (by simp)).trans (heap_alloc_new w (.cells #[.string lo,.string hi] 75)))
 go_enter_defers func41,ntmps41
 go_upto_region 3 with (first | (go_at_call 94;refine (HW.out _).mono ?_;rintro e w2 ⟨rfl,rfl⟩) | (go_at_call 95;refine (HV.out _).mono ?_;rintro e w2 ⟨rfl,rfl⟩) | (go_at_call 93;refine (req_yes _).mono ?_;rintro e w2 ⟨rfl,rfl⟩))
 generalize ((w.alloc (.cells #[.string lo,.string hi] 75)).alloc (.cells #[.nilIface] 77)).alloc (.cells #[.bool false] 4)=W0 at hA hga ⊢
 obtain ⟨gk,hgk⟩:∃ x,w.heap.size + 1 + 1=x:=⟨_,rfl⟩
 rw [hgk] at hA ⊢
 obtain ⟨gp,hgp⟩:∃ x,w.heap.size + 1=x:=⟨_,rfl⟩
 rw [hgp] at hA ⊢
 obtain ⟨ga,hgae⟩:∃ x,w.heap.size=x:=⟨_,rfl⟩
 rw [hgae] at hga
 rw [hgae]
 have hgaH:Hid (w.heap.size=ga):=hgae
 clear hgae hgp hgk HW HV
 have g0:∀ o:Obj,(W0.alloc o).cell? ⟨ga,0,none⟩=some (.string lo):=fun o=>ZC (below_cells ((Below.refl _ _).alloc (Nat.le_refl _) o) hga) 0
 have g1:∀ o:Obj,(W0.alloc o).cell? ⟨ga,1,none⟩=some (.string hi):=fun o=>ZC (below_cells ((Below.refl _ _).alloc (Nat.le_refl _) o) hga) 1
 go_upto_region 4 with fail
 have hW1:Below W0.heap.size W0 ((W0.alloc (.cells #[.string s,.int .i64 0,.bool false] 138)).alloc (.cells #[.pointer (some ⟨W0.heap.size,0,none⟩),.int .i64 (wd:Int),.string lo,.string hi,.int .i64 0] 140)):=((Below.refl _ _).alloc (Nat.le_refl _) _).alloc (by simp) _
 have nR:=(Below.heap_alloc (W0.alloc (.cells #[.string s,.int .i64 0,.bool false] 138)) (.cells #[.pointer (some ⟨W0.heap.size,0,none⟩),.int .i64 (wd:Int),.string lo,.string hi,.int .i64 0] 140) W0.heap.size (by simp)).trans (heap_alloc_new W0 (.cells #[.string s,.int .i64 0,.bool false] 138))
 have nQ:=heap_alloc_new (W0.alloc (.cells #[.string s,.int .i64 0,.bool false] 138)) (.cells #[.pointer (some ⟨W0.heap.size,0,none⟩),.int .i64 (wd:Int),.string lo,.string hi,.int .i64 0] 140)
 rw [World.size_alloc] at nQ
 have hA1:=hA.below hW1
 have hrbw:w.heap.size <= W0.heap.size:=hA.bl.size
 generalize (W0.alloc (.cells #[.string s,.int .i64 0,.bool false] 138)).alloc (.cells #[.pointer (some ⟨W0.heap.size,0,none⟩),.int .i64 (wd:Int),.string lo,.string hi,.int .i64 0] 140)=W1 at hW1 nR nQ hA1 ⊢
 obtain ⟨q,hq⟩:∃ q,W0.heap.size + 1=q:=⟨_,rfl⟩
 rw [hq] at nQ ⊢
 obtain ⟨rb,hrb⟩:∃ rb,W0.heap.size=rb:=⟨_,rfl⟩
 rw [hrb] at nQ nR hrbw hq ⊢
 have hRS:RS q rb wd lo hi s 0 0 W1:=⟨nQ,nR⟩
 have hqw:w.heap.size <= q:=by omega
 have hpq:gp < rb /\ gk < rb:=by
  have e1:=(Array.getElem?_eq_some_iff.1 hA.np).1
  have e2:=(Array.getElem?_eq_some_iff.1 hA.nk).1
  omega
 have hK1:KT W1:=hK.below hA1.bl
 have hsW1:=hA1.bl.size
 have hAm:Hid (∀ W' x y,Mw q rb W1 W' -> A3 w gp gk x y W1 -> A3 w gp gk x y W'):=fun W' x y hm h=>by
  refine ⟨⟨hm.os.trans h.bl.os,hm.tape.trans h.bl.tape,hm.output.trans h.bl.output,Nat.le_trans h.bl.size hm.size,fun k hk=>(hm.block k (Nat.lt_of_lt_of_le hk h.bl.size) (by omega) (by omega)).trans (h.bl.block k hk)⟩,h.lp,h.lk,h.ne,hm.cells h.np (by omega) (by omega),hm.cells h.nk (by omega) (by omega)⟩
 have HS:=sub_all q rb wd h1 h2 lo hi s hs 501 ⟨#[]⟩ ⟨#[]⟩ ⟨#[]⟩ none 0 0 W1 hRS (.inl ⟨rfl,rfl⟩) hK1 (by omega) (by omega) (by omega)
 obtain ⟨RR,hRR⟩:∃ RR,rdP s lo hi wd 501 0 ⟨#[]⟩ ⟨#[]⟩ ⟨#[]⟩ 0=RR:=⟨_,rfl⟩
 rw [hRR] at HS hRe2
 clear hA hga g0 g1 hW1 nR nQ hrb hq
 clear hgaH
 cases RR with
 | none =>
  have hRn:Hid (R=none):=hRe2.out.symm
  have HS2:Calls prog 96 #[.pointer (some ⟨q,0,none⟩),.agg #[.string ⟨#[]⟩,.string ⟨#[]⟩,.pointer none]] W1 fun e w'=>e=badP /\ A3 w gp gk .nilIface (.bool false) w':=by
   refine HS.mono ?_
   rintro e w' ⟨_,he,hm⟩
   exact ⟨he rfl,hAm.out w' _ _ hm hA1⟩
  clear HS hRR hRe2
  go_wp2_with (first | (go_at_call 96;refine HS2.mono ?_;rintro e w2 ⟨rfl,hA2⟩))
  exact hA2.panic hRn.out _ rfl rfl
 | some Y =>
 obtain ⟨t,a',c'⟩:=Y
 have hRe3:Hid ((if a'=s.size /\ hashP wd t=root then some t else none)=R):=hRe2
 clear hRe2
 have hth:=rdP_hash 501 _ _ _ _ _ _ _ _ hRR h2
 have HS2:Calls prog 96 #[.pointer (some ⟨q,0,none⟩),.agg #[.string ⟨#[]⟩,.string ⟨#[]⟩,.pointer none]] W1 fun e w'=>∃ T y,e=.returned (.iface T y) /\ PA wd W1.heap.size t (.iface T y) w' /\ RS q rb wd lo hi s a' c' w' /\ A3 w gp gk .nilIface (.bool false) w' /\ KT w' /\ W1.heap.size <= w'.heap.size:=by
  refine HS.mono ?_
  rintro e w' ⟨hy,_,hm⟩
  obtain ⟨x,he,hp,hr'⟩:=hy t a' c' rfl
  obtain ⟨T,y,rfl⟩:=hp.iface
  exact ⟨T,y,he,hp,hr',hAm.out w' _ _ hm hA1,hK1.mw hRS hm,hm.size⟩
 have hpl:gp < W1.heap.size:=(Array.getElem?_eq_some_iff.1 hA1.np).1
 have hkl:gk < W1.heap.size:=(Array.getElem?_eq_some_iff.1 hA1.nk).1
 obtain ⟨z1,hz1⟩:∃ z1,W1.heap.size=z1:=⟨_,rfl⟩
 rw [hz1] at HS2 hpl hkl hsW1
 clear HS hRR hAm hA1 hK1 hRS hz1
 go_upto_region 5 with (first | (go_at_call 96;refine HS2.mono ?_;rintro e w2 ⟨tx,yx,rfl,hx,hr2,hA2,hK2,hsz2⟩;have p0:w2.cell? ⟨gp,0,none⟩=some .nilIface:=ZC hA2.np 0;have fp:w2.frozen? ⟨gp,0,none⟩=false:=frozen_of_heap hA2.np))
 have hl0:0 < w.heap.size:=World.block_lt_of_cell? w _ (hK 0 (by omega))
 have hgp0:w.heap.size <= gp:=hA2.lp
 have n3:=heap_setCell_same w2 gp 0 _ 77 (.iface tx yx) hA2.np
 have hA3:A3 w gp gk (.iface tx yx) (.bool false) (w2.setCell ⟨gp,0,none⟩ (.iface tx yx)):=⟨hA2.bl.setCell hA2.lp _,hA2.lp,hA2.lk,hA2.ne,n3,set_other hA2.nk hA2.ne.symm⟩
 have hx3:PA wd z1 t (.iface tx yx) (w2.setCell ⟨gp,0,none⟩ (.iface tx yx)):=hx.set hpl
 have hr3:RS q rb wd lo hi s a' c' (w2.setCell ⟨gp,0,none⟩ (.iface tx yx)):=⟨set_other hr2.pr (ne_of_type hr2.pr hA2.np (by decide)),set_other hr2.rd (ne_of_type hr2.rd hA2.np (by decide))⟩
 have hK3:KT (w2.setCell ⟨gp,0,none⟩ (.iface tx yx)):=fun j hj=>by
  rw [<- hK2 j hj]
  unfold World.cell?
  simp only [heap_setCell_other w2 ⟨gp,0,none⟩ 0 _ (show (0:Nat) ≠ gp by omega)]
 generalize w2.setCell ⟨gp,0,none⟩ (.iface tx yx)=W3 at hA3 hx3 hr3 hK3 ⊢
 clear n3 hA2 hx hr2 hK2 p0 fp HS2 hsz2 hgp0 hl0 hK hpq
 clear w2
 have q0:W3.cell? ⟨q,0,none⟩=some (.pointer (some ⟨rb,0,none⟩)):=ZC hr3.pr 0
 have r1:W3.cell? ⟨rb,1,none⟩=some (.int .i64 (a':Int)):=ZC hr3.rd 1
 by_cases ha:a'=s.size
 case neg =>
  have z:((a':Int) == (s.size:Int))=false:=by simp;omega
  have hRn:Hid (R=none):=by show _=_;rw [<- hRe3.out,if_neg (fun h=>ha h.1)]
  clear ha
  go_wp2_with (first | (go_at_call 93;refine (req_no _).mono ?_;rintro e w4 ⟨rfl,rfl⟩))
  exact hA3.panic hRn.out _ rfl rfl
 have z:((a':Int) == (s.size:Int))=true:=by simp;omega
 have HH:=shash_p wd z1 h1 h2 t (.iface tx yx) W3 hx3 hK3
 by_cases hh:hashP wd t=root
 case neg =>
  have z2:((hashP wd t).toList == root.toList)=false:=strNe hh
  have hRn:Hid (R=none):=by show _=_;rw [<- hRe3.out,if_neg (fun h=>hh h.2)]
  generalize hashP wd t=HT at HH z2
  have c0:W3.cell? ⟨gp,0,none⟩=some (.iface tx yx):=ZC hA3.np 0
  clear ha hh
  go_wp2_with (first | (go_at_call 97;refine HH.mono ?_;rintro e w4 ⟨rfl,hb4⟩;have hA4:=hA3.below hb4) | (go_at_call_of 93 (Value.bool false);refine (req_no _).mono ?_;rintro e w4 ⟨rfl,rfl⟩) | (go_at_call_of 93 (Value.bool true);refine (req_yes _).mono ?_;rintro e w4 ⟨rfl,rfl⟩))
  exact hA4.panic hRn.out _ rfl rfl
 have hRv:Hid (some t=R):=by show _=_;rw [<- hRe3.out,if_pos ⟨ha,hh⟩]
 rw [hh] at HH
 have z2:(root.toList == root.toList)=true:=by simp
 have c0:W3.cell? ⟨gp,0,none⟩=some (.iface tx yx):=ZC hA3.np 0
 clear ha hh hRe3
 go_upto_region 7 with (first | (go_at_call 97;refine HH.mono ?_;rintro e w4 ⟨rfl,hb4⟩;have hA4:=hA3.below hb4;have hx4:=hx3.below hb4) | (go_at_call 93;refine (req_yes _).mono ?_;rintro e w5 ⟨rfl,rfl⟩))
 clear hA3 hx3 hr3 hK3 q0 r1 z HH z2 c0 hb4
 have c0:w4.cell? ⟨gp,0,none⟩=some (.iface tx yx):=ZC hA4.np 0
 have f0:w4.frozen? ⟨gp,0,none⟩=false:=frozen_of_heap hA4.np
 have c1:w4.cell? ⟨gk,0,none⟩=some (.bool false):=ZC hA4.nk 0
 have f1:w4.frozen? ⟨gk,0,none⟩=false:=frozen_of_heap hA4.nk
 have d1:(w4.setCell ⟨gp,0,none⟩ (.iface tx yx)).cell? ⟨gk,0,none⟩=some (.bool false):=ZC (set_other hA4.nk hA4.ne.symm) 0
 have e1:(w4.setCell ⟨gp,0,none⟩ (.iface tx yx)).frozen? ⟨gk,0,none⟩=false:=frozen_of_heap (set_other hA4.nk hA4.ne.symm)
 have n5:=heap_setCell_same w4 gp 0 _ 77 (.iface tx yx) hA4.np
 have n6:=set_other (i:=0) (x:=.bool true) n5 hA4.ne
 have n7:=heap_setCell_same (w4.setCell ⟨gp,0,none⟩ (.iface tx yx)) gk 0 _ 4 (.bool true) (set_other hA4.nk hA4.ne.symm)
 have hA5:A3 w gp gk (.iface tx yx) (.bool true) ((w4.setCell ⟨gp,0,none⟩ (.iface tx yx)).setCell ⟨gk,0,none⟩ (.bool true)):=⟨(hA4.bl.setCell hA4.lp _).setCell hA4.lk _,hA4.lp,hA4.lk,hA4.ne,n6,n7⟩
 have hx5:PA wd w.heap.size t (.iface tx yx) ((w4.setCell ⟨gp,0,none⟩ (.iface tx yx)).setCell ⟨gk,0,none⟩ (.bool true)):=((hx4.set hpl).set hkl).mono hsW1
 go_wp2_with fail
 exact hA5.done hRv.out hx5 _ rfl rfl
theorem acc_any (n:Int) (root lo hi s:ByteArray) (w:World) (hs:s.size <= 1300000) (hr:root.size <= 1048576) (hK:KT w) :
 Calls prog 41 #[.int .i64 n,.string root,.agg #[.string lo,.string hi],.string s] w (AccAt n (accP n root lo hi s) w):=by
 cases hb:(isW n && hashOk root.size n) with
 | false =>
  have:accP n root lo hi s=none:=by unfold accP;rw [if_neg (by rw [hb];decide)]
  rw [this]
  exact acc_bad n root lo hi s w hs hr hb
 | true =>
  obtain ⟨hw,hv⟩:=(Bool.and_eq_true _ _).mp hb
  have h12:1 <= n /\ n <= 32:=by
   unfold isW at hw
   rw [Bool.and_eq_true,decide_eq_true_eq,decide_eq_true_eq] at hw
   exact hw
  obtain ⟨wd,rfl⟩:∃ wd:Nat,n=(wd:Int):=⟨n.toNat,by omega⟩
  exact acc_ok wd (by omega) (by omega) root lo hi s w hs hr hK hv
end Go.Proofs.YtibjhkpgaaapaaaGreatDoor
