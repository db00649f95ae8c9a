import Derived.Test.YtibjhkpgaaapaaaGreatDoorZiau
import Derived.Test.YtibjhkpgaaapaaaGreatDoorZiak
import Derived.Defers
import Derived.Recover
import Derived.Test.YtibjhkpgaaapaaaGreatDoorZiar
set_option maxRecDepth 100000
set_option maxHeartbeats 4000000
namespace Go.Proofs.YtibjhkpgaaapaaaGreatDoor
open Go.RowKit Go.Proofs.Sha Tryz
theorem catch_panics (gp gk:Nat)(u:TypeId)(pv:Value)(older:List PanicEntry)(w:World)(x y:Value)(hp:w.cell? ⟨gp,0,none⟩=some x)(hk:w.cell? ⟨gk,0,none⟩=some y)(fp:w.frozen? ⟨gp,0,none⟩=false)(fk:w.frozen? ⟨gk,0,none⟩=false)(hne:gp ≠ gk) : CallsD prog 92 #[.pointer (some ⟨gp,0,none⟩),.pointer (some ⟨gk,0,none⟩)] (.panicking ({ v:=.iface u pv,recovered:=false } :: older)) w λe u' w' => e=.returned (.tuple #[])/\u'=.panicking ({ v:=.iface u pv,recovered:=true } :: older)/\w'=(w.setCell ⟨gp,0,none⟩ .nilIface).setCell ⟨gk,0,none⟩ (.bool false):=by
 refine callsD_of_wpS func92 rfl λc₀ cs hu=>?_;apply wpS_seq;apply wpS_region;simp[wpOpsS,go_sem,recoverD,hu,ntmps92,Exit.thenS];refine wpS_cond (t:=true) (by simp[Act.eval,Array.replicate]) ?_;simp only[if_true];apply wpS_region;simp[wpOpsS,go_sem,hp,hk,fp,fk,bodyPostS,results,Tryz.results92]
theorem catch_idle (gp gk:Nat)(w:World) : CallsD prog 92 #[.pointer (some ⟨gp,0,none⟩),.pointer (some ⟨gk,0,none⟩)] .returning w λe u' w'=>e=.returned (.tuple #[])/\u'=.returning/\w'=w:=by
 refine callsD_of_wpS func92 rfl λc₀ cs hu=>?_;apply wpS_seq;apply wpS_region;simp[wpOpsS,go_sem,recoverD,hu,ntmps92,Exit.thenS];refine wpS_cond (t:=false) (by simp[Act.eval,Array.replicate]) ?_;simp only[Bool.false_eq_true,if_false];refine wpS_of_wp (wp_skip ?_);cases c₀;simp_all[bodyPostS,results,Tryz.results92]
def accQ (wd:Nat) (root s:ByteArray):Option (PT × Nat × Nat)->Option PT
 | none=>none
 | some (t,a',_)=>if a'=s.size/\hashP wd t=root then some t else none
def accP (n:Int) (root lo hi s:ByteArray):Option PT :=
 if (isW n && hashOk root.size n)=true then accQ n.toNat root s (rdP s lo hi n.toNat 501 0 ⟨#[]⟩ ⟨#[]⟩ ⟨#[]⟩ 0) else none
def AccAt (n:Int) (R:Option PT) (w:World) (e:Ending) (w':World):Prop :=
 (∀t,R=some t->∃T y,e=.returned (.tuple #[.iface T y,.bool true])/\PA n.toNat w.heap.size t (.iface T y) w')/\(R=none->e=.returned (.tuple #[.nilIface,.bool false]))/\Below w.heap.size w w'
structure A3 (w:World) (gp gk:Nat) (x y:Value) (W:World):Prop where
 bl:Below w.heap.size w W
 lp:w.heap.size<=gp
 lk:w.heap.size<=gk
 ne:gp ≠ gk
 np:W.heap[gp]?=some (.cells #[x] 77)
 nk:W.heap[gk]?=some (.cells #[y] 4)
theorem A3.mk0 (w:World)(lo hi:ByteArray):A3 w (w.heap.size+1) (w.heap.size+1+1) .nilIface (.bool false) (((w.alloc (.cells #[.string lo,.string hi] 75)).alloc (.cells #[.nilIface] 77)).alloc (.cells #[.bool false] 4)):=by
 have e2:=heap_alloc_new (w.alloc (.cells #[.string lo,.string hi] 75)) (.cells #[.nilIface] 77);have e3:=heap_alloc_new ((w.alloc (.cells #[.string lo,.string hi] 75)).alloc (.cells #[.nilIface] 77)) (.cells #[.bool false] 4);simp only[World.size_alloc] at e2 e3;exact⟨(((Below.refl _ _).alloc (Nat.le_refl _) _).alloc (by simp) _).alloc (by simp;omega) _,by omega,by omega,by omega,by rw[Below.heap_alloc _ _ _ (by simp)];exact e2,e3⟩
theorem A3.below {w:World}{gp gk:Nat}{x y:Value}{W W':World}(h:A3 w gp gk x y W)(hb:Below W.heap.size W W'):A3 w gp gk x y W':=⟨h.bl.trans (hb.mono h.bl.size),h.lp,h.lk,h.ne,qab hb h.np,qab hb h.nk⟩
theorem A3.panic {n:Int}{w:World}{gp gk:Nat}{x y:Value}{W:World}(h:A3 w gp gk x y W){R:Option PT}(hR:R=none)(tm:Array Value)(h8:tm[8]?.getD undef=.pointer (some ⟨gp,0,none⟩))(h9:tm[9]?.getD undef=.pointer (some ⟨gk,0,none⟩)) : bodyPostD prog Tryz.f41 (AccAt n R w) (.panic [{ v:=.iface 205 (.agg #[]),recovered:=false }]) { tmps:=tm,defers:=[{ target:=.fn (.func 92) #[.pointer (some ⟨gp,0,none⟩),.pointer (some ⟨gk,0,none⟩)],args:=#[] }] } W:=by
 subst hR;refine leaves_cons (f:=92) (args:=#[.pointer (some ⟨gp,0,none⟩),.pointer (some ⟨gk,0,none⟩)]) (by simp) (by simp[go_sem]) ?_;refine(catch_panics gp gk 205 _ [] _ x y (ZC h.np 0) (ZC h.nk 0) (qac h.np) (qac h.nk) h.ne).mono ?_;rintro e u' w'' ⟨rfl,rfl,rfl⟩;have n1:=heap_setCell_same W gp 0 _ 77 .nilIface h.np;have n2:=qal (i:=0) (x:=.bool false) n1 h.ne;have n3:=heap_setCell_same (W.setCell ⟨gp,0,none⟩ .nilIface) gk 0 _ 4 (.bool false) (qal h.nk h.ne.symm);have d1:((W.setCell ⟨gp,0,none⟩ .nilIface).setCell ⟨gk,0,none⟩ (.bool false)).cell? ⟨gp,0,none⟩=some .nilIface:=ZC n2 0;have d2:((W.setCell ⟨gp,0,none⟩ .nilIface).setCell ⟨gk,0,none⟩ (.bool false)).cell? ⟨gk,0,none⟩=some (.bool false):=ZC n3 0;have hb:Below w.heap.size w ((W.setCell ⟨gp,0,none⟩ .nilIface).setCell ⟨gk,0,none⟩ (.bool false)):=(h.bl.setCell h.lp _).setCell h.lk _;generalize (W.setCell ⟨gp,0,none⟩ .nilIface).setCell ⟨gk,0,none⟩ (.bool false)=W2 at d1 d2 hb⊢;simp[Leaves,settle,results,Tryz.results41,go_sem,h8,h9,d1,d2];exact⟨λt h=>(by cases h),λ_=>rfl,hb⟩
theorem acc_bad (n:Int)(root lo hi s:ByteArray)(w:World)(_hs:s.size<=1300000)(hr:root.size<=1048576)(hb:(isW n && hashOk root.size n)=false) : Calls prog 41 #[.int .i64 n,.string root,.agg #[.string lo,.string hi],.string s] w (AccAt n none w):=by
 have hmf:∀ (fn:Fn) (first cap:Array Value) (w:World),(Instr.makeFunc fn first cap).run prog w=.ok (.func fn first cap) w:=λ_ _ _ _=>rfl;have HW:Hid (∀w',Calls prog 94 #[.int .i64 n] w' λe w''=>e=.returned (.bool (isW n))/\w'=w''):=λw'=>(isW_any n w').mono (by rintro e w'' ⟨he,hw⟩;exact⟨he,hw.symm⟩);have HV:Hid (∀w',Calls prog 95 #[.string root,.int .i64 n] w' λe w''=>e=.returned (.bool (hashOk root.size n))/\w'=w''):=λw'=>qbF root n w' hr;have hA:=A3.mk0 w lo hi;cases hw:isW n with
 | false =>
  rw[hw] at HW;clear hb hw;go_enter_defers func41,ntmps41;go_wp2_with (first|(go_at_call 94;refine(HW.out _).mono ?_;rintro e w2 ⟨rfl,rfl⟩)|(go_at_call 93;refine(qbZ _).mono ?_;rintro e w2 ⟨rfl,rfl⟩));exact hA.panic rfl _ rfl rfl
 | true =>
  rw[hw] at HW;have hb2:hashOk root.size n=false:=by rw[hw] at hb;simpa using hb
  rw[hb2] at HV;clear hb hw hb2;go_enter_defers func41,ntmps41;go_wp2_with (first|(go_at_call 94;refine(HW.out _).mono ?_;rintro e w2 ⟨rfl,rfl⟩)|(go_at_call 95;refine(HV.out _).mono ?_;rintro e w2 ⟨rfl,rfl⟩)|(go_at_call 93;refine(qbZ _).mono ?_;rintro e w2 ⟨rfl,rfl⟩));exact hA.panic rfl _ rfl rfl
theorem A3.done {wd:Nat}{w:World}{gp gk:Nat}{T:TypeId}{y:Value}{W:World}(h:A3 w gp gk (.iface T y) (.bool true) W){R:Option PT}{t:PT}(hR:some t=R)(hp:PA wd w.heap.size t (.iface T y) W)(tm:Array Value)(h8:tm[8]?.getD undef=.pointer (some ⟨gp,0,none⟩))(h9:tm[9]?.getD undef=.pointer (some ⟨gk,0,none⟩)) : bodyPostD prog Tryz.f41 (AccAt wd R w) .ret { tmps:=tm,defers:=[{ target:=.fn (.func 92) #[.pointer (some ⟨gp,0,none⟩),.pointer (some ⟨gk,0,none⟩)],args:=#[] }] } W:=by
 subst hR;refine leaves_cons (f:=92) (args:=#[.pointer (some ⟨gp,0,none⟩),.pointer (some ⟨gk,0,none⟩)]) (by simp) (by simp[go_sem]) ?_;refine(catch_idle gp gk W).mono ?_;rintro e u' w'' ⟨rfl,rfl,rfl⟩;have d1:=ZC h.np 0;have d2:=ZC h.nk 0;simp at d1 d2;simp[Leaves,settle,results,Tryz.results41,go_sem,h8,h9,d1,d2];exact⟨λt' h'=>(by cases h';exact⟨T,y,rfl,by rw[Int.toNat_natCast];exact hp⟩),λh'=>(by cases h'),h.bl⟩
theorem acc_ok (wd:Nat)(h1:1<=wd)(h2:wd<=32)(root lo hi s:ByteArray)(w:World)(hs:s.size<=1300000)(hr:root.size<=1048576)(hK:KT w)(hv:hashOk root.size (wd:Int)=true) : Calls prog 41 #[.int .i64 (wd:Int),.string root,.agg #[.string lo,.string hi],.string s] w (AccAt wd (accP wd root lo hi s) w):=by
 have hmf:∀ (fn:Fn) (first cap:Array Value) (w:World),(Instr.makeFunc fn first cap).run prog w=.ok (.func fn first cap) w:=λ_ _ _ _=>rfl;have hw:isW (wd:Int)=true:=by unfold isW;rw[decide_eq_true (by omega:(1:Int)<=wd),decide_eq_true (by omega:(wd:Int)<=32)];rfl
 have HW:Hid (∀w',Calls prog 94 #[.int .i64 (wd:Int)] w' λe w''=>e=.returned (.bool true)/\w'=w''):=λw'=>by
  rw[<-hw];exact(isW_any _ w').mono (by rintro e w'' ⟨he,hw⟩;exact⟨he,hw.symm⟩)
 have HV:Hid (∀w',Calls prog 95 #[.string root,.int .i64 (wd:Int)] w' λe w''=>e=.returned (.bool true)/\w'=w''):=λw'=>by rw[<-hv];exact qbF root _ w' hr
 obtain⟨R,hRe⟩:=eX (accP wd root lo hi s);rw[hRe];have hRe2:Hid (accQ wd root s (rdP s lo hi wd 501 0 ⟨#[]⟩ ⟨#[]⟩ ⟨#[]⟩ 0)=R):=by
  show _=_;rw[<-hRe];unfold accP;rw[if_pos (by rw[hw,hv];rfl),Int.toNat_natCast]
 clear hRe hw hv;have hA:=A3.mk0 w lo hi;have hga:=(Below.heap_alloc ((w.alloc (.cells #[.string lo,.string hi] 75)).alloc (.cells #[.nilIface] 77)) (.cells #[.bool false] 4) w.heap.size (by simp;omega)).trans ((Below.heap_alloc (w.alloc (.cells #[.string lo,.string hi] 75)) (.cells #[.nilIface] 77) w.heap.size (by simp)).trans (heap_alloc_new w (.cells #[.string lo,.string hi] 75)));go_enter_defers func41,ntmps41;go_upto_region 3 with (first|(go_at_call 94;refine(HW.out _).mono ?_;rintro e w2 ⟨rfl,rfl⟩)|(go_at_call 95;refine(HV.out _).mono ?_;rintro e w2 ⟨rfl,rfl⟩)|(go_at_call 93;refine(qbN _).mono ?_;rintro e w2 ⟨rfl,rfl⟩));generalize ((w.alloc (.cells #[.string lo,.string hi] 75)).alloc (.cells #[.nilIface] 77)).alloc (.cells #[.bool false] 4)=W0 at hA hga⊢;obtain⟨gk,hgk⟩:∃x,w.heap.size+1+1=x:=⟨_,rfl⟩;rw[hgk] at hA⊢;obtain⟨gp,hgp⟩:∃x,w.heap.size+1=x:=⟨_,rfl⟩;rw[hgp] at hA⊢;obtain⟨ga,hgae⟩:∃x,w.heap.size=x:=⟨_,rfl⟩;rw[hgae] at hga;rw[hgae];have hgaH:Hid (w.heap.size=ga):=hgae;clear hgae hgp hgk HW HV;have g0:∀o:Obj,(W0.alloc o).cell? ⟨ga,0,none⟩=some (.string lo):=λo=>ZC (qab ((Below.refl _ _).alloc (Nat.le_refl _) o) hga) 0;have g1:∀o:Obj,(W0.alloc o).cell? ⟨ga,1,none⟩=some (.string hi):=λo=>ZC (qab ((Below.refl _ _).alloc (Nat.le_refl _) o) hga) 1;go_upto_region 4 with fail;have hW1:Below W0.heap.size W0 ((W0.alloc (.cells #[.string s,.int .i64 0,.bool false] 138)).alloc (.cells #[.pointer (some ⟨W0.heap.size,0,none⟩),.int .i64 (wd:Int),.string lo,.string hi,.int .i64 0] 140)):=((Below.refl _ _).alloc (Nat.le_refl _) _).alloc (by simp) _;have nR:=(Below.heap_alloc (W0.alloc (.cells #[.string s,.int .i64 0,.bool false] 138)) (.cells #[.pointer (some ⟨W0.heap.size,0,none⟩),.int .i64 (wd:Int),.string lo,.string hi,.int .i64 0] 140) W0.heap.size (by simp)).trans (heap_alloc_new W0 (.cells #[.string s,.int .i64 0,.bool false] 138));have nQ:=heap_alloc_new (W0.alloc (.cells #[.string s,.int .i64 0,.bool false] 138)) (.cells #[.pointer (some ⟨W0.heap.size,0,none⟩),.int .i64 (wd:Int),.string lo,.string hi,.int .i64 0] 140);rw[World.size_alloc] at nQ;have hA1:=hA.below hW1;have hrbw:w.heap.size<=W0.heap.size:=hA.bl.size;generalize (W0.alloc (.cells #[.string s,.int .i64 0,.bool false] 138)).alloc (.cells #[.pointer (some ⟨W0.heap.size,0,none⟩),.int .i64 (wd:Int),.string lo,.string hi,.int .i64 0] 140)=W1 at hW1 nR nQ hA1⊢;obtain⟨q,hq⟩:=eX (W0.heap.size+1);rw[hq] at nQ⊢;obtain⟨rb,hrb⟩:=eX (W0.heap.size);rw[hrb] at nQ nR hrbw hq⊢;have hRS:RS q rb wd lo hi s 0 0 W1:=⟨nQ,nR⟩;have hqw:w.heap.size<=q:=by omega
 have hpq:gp<rb/\gk<rb:=by
  have e1:=(zG hA.np).1;have e2:=(zG hA.nk).1;omega
 have hK1:KT W1:=hK.below hA1.bl;have hsW1:=hA1.bl.size;have hAm:Hid (∀W' x y,Mw q rb W1 W'->A3 w gp gk x y W1->A3 w gp gk x y W'):=λW' x y hm h=>by
  refine⟨⟨hm.os.trans h.bl.os,hm.tape.trans h.bl.tape,hm.output.trans h.bl.output,Nat.le_trans h.bl.size hm.size,λk hk=>(hm.block k (Nat.lt_of_lt_of_le hk h.bl.size) (by omega) (by omega)).trans (h.bl.block k hk)⟩,h.lp,h.lk,h.ne,hm.cells h.np (by omega) (by omega),hm.cells h.nk (by omega) (by omega)⟩
 have HS:=sub_all q rb wd h1 h2 lo hi s hs 501 ⟨#[]⟩ ⟨#[]⟩ ⟨#[]⟩ none 0 0 W1 hRS (.inl ⟨rfl,rfl⟩) hK1 (by omega) (by omega) (by omega);obtain⟨RR,hRR⟩:=eX (rdP s lo hi wd 501 0 ⟨#[]⟩ ⟨#[]⟩ ⟨#[]⟩ 0);rw[hRR] at HS hRe2;clear hA hga g0 g1 hW1 nR nQ hrb hq;clear hgaH;cases RR with
 | none =>
  have hRn:Hid (R=none):=hRe2.out.symm;have HS2:Calls prog 96 #[.pointer (some ⟨q,0,none⟩),.agg #[.string ⟨#[]⟩,.string ⟨#[]⟩,.pointer none]] W1 λe w'=>e=badP/\A3 w gp gk .nilIface (.bool false) w':=by
   refine HS.mono ?_;rintro e w' ⟨_,he,hm⟩;exact⟨he rfl,hAm.out w' _ _ hm hA1⟩
  clear HS hRR hRe2;go_wp2_with (first|(go_at_call 96;refine HS2.mono ?_;rintro e w2 ⟨rfl,hA2⟩));exact hA2.panic hRn.out _ rfl rfl
 | some Y =>
 obtain⟨t,a',c'⟩:=Y;have hRe3:Hid ((if a'=s.size/\hashP wd t=root then some t else none)=R):=hRe2;clear hRe2;have hth:=qcL 501 _ _ _ _ _ _ _ _ hRR h2;have HS2:Calls prog 96 #[.pointer (some ⟨q,0,none⟩),.agg #[.string ⟨#[]⟩,.string ⟨#[]⟩,.pointer none]] W1 λe w'=>∃T y,e=.returned (.iface T y)/\PA wd W1.heap.size t (.iface T y) w'/\RS q rb wd lo hi s a' c' w'/\A3 w gp gk .nilIface (.bool false) w'/\KT w'/\W1.heap.size<=w'.heap.size:=by
  refine HS.mono ?_;rintro e w' ⟨hy,_,hm⟩;obtain⟨x,he,hp,hr'⟩:=hy t a' c' rfl;obtain⟨T,y,rfl⟩:=hp.iface;exact⟨T,y,he,hp,hr',hAm.out w' _ _ hm hA1,hK1.mw hRS hm,hm.size⟩
 have hpl:gp<W1.heap.size:=(zG hA1.np).1;have hkl:gk<W1.heap.size:=(zG hA1.nk).1;obtain⟨z1,hz1⟩:=eX (W1.heap.size);rw[hz1] at HS2 hpl hkl hsW1;clear HS hRR hAm hA1 hK1 hRS hz1;go_upto_region 5 with (first|(go_at_call 96;refine HS2.mono ?_;rintro e w2 ⟨tx,yx,rfl,hx,hr2,hA2,hK2,hsz2⟩;have p0:w2.cell? ⟨gp,0,none⟩=some .nilIface:=ZC hA2.np 0;have fp:w2.frozen? ⟨gp,0,none⟩=false:=qac hA2.np));have hl0:0<w.heap.size:=World.block_lt_of_cell? w _ (hK 0 (by omega));have hgp0:w.heap.size<=gp:=hA2.lp;have n3:=heap_setCell_same w2 gp 0 _ 77 (.iface tx yx) hA2.np;have hA3:A3 w gp gk (.iface tx yx) (.bool false) (w2.setCell ⟨gp,0,none⟩ (.iface tx yx)):=⟨hA2.bl.setCell hA2.lp _,hA2.lp,hA2.lk,hA2.ne,n3,qal hA2.nk hA2.ne.symm⟩;have hx3:PA wd z1 t (.iface tx yx) (w2.setCell ⟨gp,0,none⟩ (.iface tx yx)):=hx.set hpl;have hr3:RS q rb wd lo hi s a' c' (w2.setCell ⟨gp,0,none⟩ (.iface tx yx)):=⟨qal hr2.pr (qai hr2.pr hA2.np (by decide)),qal hr2.rd (qai hr2.rd hA2.np (by decide))⟩;have hK3:KT (w2.setCell ⟨gp,0,none⟩ (.iface tx yx)):=λj hj=>by
  rw[<-hK2 j hj];unfold World.cell?;simp only[heap_setCell_other w2 ⟨gp,0,none⟩ 0 _ (show (0:Nat) ≠ gp by omega)]
 generalize w2.setCell ⟨gp,0,none⟩ (.iface tx yx)=W3 at hA3 hx3 hr3 hK3⊢;clear n3 hA2 hx hr2 hK2 p0 fp HS2 hsz2 hgp0 hl0 hK hpq;clear w2;have q0:W3.cell? ⟨q,0,none⟩=some (.pointer (some ⟨rb,0,none⟩)):=ZC hr3.pr 0;have r1:W3.cell? ⟨rb,1,none⟩=some (.int .i64 (a':Int)):=ZC hr3.rd 1;by_cases ha:a'=s.size
 case neg =>
  have z:((a':Int) == (s.size:Int))=false:=by simp;omega
  have hRn:Hid (R=none):=by show _=_;rw[<-hRe3.out,if_neg (λh=>ha h.1)]
  clear ha;go_wp2_with (first|(go_at_call 93;refine(qbZ _).mono ?_;rintro e w4 ⟨rfl,rfl⟩));exact hA3.panic hRn.out _ rfl rfl
 have z:((a':Int) == (s.size:Int))=true:=by simp;omega
 have HH:=shash_p wd z1 h1 h2 t (.iface tx yx) W3 hx3 hK3;by_cases hh:hashP wd t=root
 case neg =>
  have z2:((hashP wd t).toList == root.toList)=false:=strNe hh;have hRn:Hid (R=none):=by show _=_;rw[<-hRe3.out,if_neg (λh=>hh h.2)]
  generalize hashP wd t=HT at HH z2;have c0:W3.cell? ⟨gp,0,none⟩=some (.iface tx yx):=ZC hA3.np 0;clear ha hh;go_wp2_with (first|(go_at_call 97;refine HH.mono ?_;rintro e w4 ⟨rfl,hb4⟩;have hA4:=hA3.below hb4)|(go_at_call_of 93 (Value.bool false);refine(qbZ _).mono ?_;rintro e w4 ⟨rfl,rfl⟩)|(go_at_call_of 93 (Value.bool true);refine(qbN _).mono ?_;rintro e w4 ⟨rfl,rfl⟩));exact hA4.panic hRn.out _ rfl rfl
 have hRv:Hid (some t=R):=by show _=_;rw[<-hRe3.out,if_pos ⟨ha,hh⟩]
 rw[hh] at HH;have z2:(root.toList == root.toList)=true:=by simp
 have c0:W3.cell? ⟨gp,0,none⟩=some (.iface tx yx):=ZC hA3.np 0;clear ha hh hRe3;go_upto_region 7 with (first|(go_at_call 97;refine HH.mono ?_;rintro e w4 ⟨rfl,hb4⟩;have hA4:=hA3.below hb4;have hx4:=hx3.below hb4)|(go_at_call 93;refine(qbN _).mono ?_;rintro e w5 ⟨rfl,rfl⟩));clear hA3 hx3 hr3 hK3 q0 r1 z HH z2 c0 hb4;have c0:w4.cell? ⟨gp,0,none⟩=some (.iface tx yx):=ZC hA4.np 0;have f0:w4.frozen? ⟨gp,0,none⟩=false:=qac hA4.np;have c1:w4.cell? ⟨gk,0,none⟩=some (.bool false):=ZC hA4.nk 0;have f1:w4.frozen? ⟨gk,0,none⟩=false:=qac hA4.nk;have d1:(w4.setCell ⟨gp,0,none⟩ (.iface tx yx)).cell? ⟨gk,0,none⟩=some (.bool false):=ZC (qal hA4.nk hA4.ne.symm) 0;have e1:(w4.setCell ⟨gp,0,none⟩ (.iface tx yx)).frozen? ⟨gk,0,none⟩=false:=qac (qal hA4.nk hA4.ne.symm);have n5:=heap_setCell_same w4 gp 0 _ 77 (.iface tx yx) hA4.np;have n6:=qal (i:=0) (x:=.bool true) n5 hA4.ne;have n7:=heap_setCell_same (w4.setCell ⟨gp,0,none⟩ (.iface tx yx)) gk 0 _ 4 (.bool true) (qal hA4.nk hA4.ne.symm);have hA5:A3 w gp gk (.iface tx yx) (.bool true) ((w4.setCell ⟨gp,0,none⟩ (.iface tx yx)).setCell ⟨gk,0,none⟩ (.bool true)):=⟨(hA4.bl.setCell hA4.lp _).setCell hA4.lk _,hA4.lp,hA4.lk,hA4.ne,n6,n7⟩;have hx5:PA wd w.heap.size t (.iface tx yx) ((w4.setCell ⟨gp,0,none⟩ (.iface tx yx)).setCell ⟨gk,0,none⟩ (.bool true)):=((hx4.set hpl).set hkl).mono hsW1;go_wp2_with fail;exact hA5.done hRv.out hx5 _ rfl rfl
theorem acc_any (n:Int)(root lo hi s:ByteArray)(w:World)(hs:s.size<=1300000)(hr:root.size<=1048576)(hK:KT w) : Calls prog 41 #[.int .i64 n,.string root,.agg #[.string lo,.string hi],.string s] w (AccAt n (accP n root lo hi s) w):=by
 cases hb:(isW n && hashOk root.size n) with
 | false =>
  have:accP n root lo hi s=none:=by unfold accP;rw[if_neg (by rw[hb];decide)]
  rw[this];exact acc_bad n root lo hi s w hs hr hb
 | true =>
  obtain⟨hw,hv⟩:=(Bool.and_eq_true _ _).mp hb;have h12:1<=n/\n<=32:=by
   unfold isW at hw;rw[Bool.and_eq_true,decide_eq_true_eq,decide_eq_true_eq] at hw;exact hw
  obtain⟨wd,rfl⟩:∃wd:Nat,n=(wd:Int):=⟨n.toNat,by omega⟩;exact acc_ok wd (by omega) (by omega) root lo hi s w hs hr hK hv
def PB (wd n0:Nat):PT->Option Addr->World->Prop
 | .f k v l r,p,w=>∃b lv rv,p=some ⟨b,0,none⟩/\n0<=b/\w.heap[b]?=some (.cells #[.string k,.string v,lv,rv,.string (encS k v (hashP wd l) (hashP wd r) wd)] 151)/\PA wd n0 l lv w/\PA wd n0 r rv w
 | _,p,_=>p=none
def isF:PT->Bool
 | .f _ _ _ _=>true
 | _=>false
theorem PA.fr {wd n0 base:Nat}{N:Nat->Prop}{w w':World}{t:PT}{x:Value}(h:PA wd n0 t x w)(f:Fr base N w w')(hN:∀q,N q->∃cs t,w.heap[q]?=some (.cells cs t)/\t ≠ 151):PA wd n0 t x w' :=
 h.keep (λb cs _ h3=>f.keep h3 (λx=>by obtain⟨cs',t',h5,h6⟩:=hN _ x;exact qai h3 h5 (λe=>h6 e.symm) rfl) (.inl (by decide)))
def ptrV:Value->Option Addr
 | .iface 84 (.pointer p)=>p
 | _=>none
theorem PA.pb {wd n0:Nat}{t:PT}{x:Value}{w:World}(h:PA wd n0 t x w):PB wd n0 t (ptrV x) w:=by
 cases t with
 | e=>obtain rfl:x=.iface 211 (.agg #[]):=h;rfl
 | s hh=>obtain rfl:x=.iface 216 (.agg #[.string hh]):=h;rfl
 | f k v l r=>obtain⟨b,lv,rv,rfl,h1,h2,h3,h4⟩:=h;exact⟨b,lv,rv,rfl,h1,h2,h3,h4⟩
theorem qbH (wd n0:Nat)(t:PT)(x:Value)(w:World)(h:PA wd n0 t x w):Calls prog 45 #[x] w λe w'=>e=.returned (.pointer (ptrV x))/\w=w':=by
 cases t with
 | e =>
  obtain rfl:x=.iface 211 (.agg #[]):=h;have q2:=as84_211;have hp:Hid (ptrV (.iface 211 (.agg #[]))=none):=rfl;go_enter func45,ntmps45;go_wp2_with fail;go_ret;exact⟨by rw[hp.out];rfl,rfl⟩
 | s hh =>
  obtain rfl:x=.iface 216 (.agg #[.string hh]):=h;have q2:=as84_216 hh;have hp:Hid (ptrV (.iface 216 (.agg #[.string hh]))=none):=rfl;go_enter func45,ntmps45;go_wp2_with fail;go_ret;exact⟨by rw[hp.out];rfl,rfl⟩
 | f k v l r =>
  obtain⟨b,lv,rv,rfl,h1,h2,h3,h4⟩:=h;have q2:=as84_84 b;have hp:Hid (ptrV (.iface 84 (.pointer (some ⟨b,0,none⟩)))=some ⟨b,0,none⟩):=rfl;clear h2 h3 h4;go_enter func45,ntmps45;go_wp2_with fail;go_ret;exact⟨by rw[hp.out];rfl,rfl⟩
theorem size84:(prog.info? 151).map (·.size)=some 5:=by kernel_rfl
theorem ptr_eqlP (a b:Option Addr)(w:World)(ha:Ptr a w)(hb:Ptr b w):(binOp .eql 84 (.pointer a) (.pointer b)).run prog w=.ok (.bool (decide (a=b))) w:=by
 obtain⟨j,h1,h2⟩:=Option.map_eq_some_iff.1 size84;exact qbT 84 151 j Tryz.underlying84 h1 (by rw[h2];decide) a b w ha hb
theorem qcl (wd n0:Nat)(t:PT)(p:Option Addr)(w:World)(h:PB wd n0 t p w):Calls prog 99 #[.pointer p] w λe w'=>e=.returned (.bool (isF t))/\w=w':=by
 have hq:Ptr p w:=by
  cases t with
  | f k v l r=>obtain⟨b,lv,rv,rfl,_,h2,_⟩:=h;exact .inr ⟨b,_,_,rfl,h2⟩
  | e=>exact .inl h
  | s _=>exact .inl h
 have hb:decide (p=none) = !isF t:=by
  cases t with
  | f k v l r=>obtain⟨b,lv,rv,rfl,_,h2,_⟩:=h;rfl
  | e=>obtain rfl:p=none:=h;rfl
  | s _=>obtain rfl:p=none:=h;rfl
 have q:(binOp .neq 84 (.pointer p) (.pointer none)).run prog w=.ok (.bool (isF t)) w:=by
  have:=ptr_eqlP p none w hq (.inl rfl);rw[hb] at this;simp only[binOp] at this⊢;cases hq:(Op.equal 84 (.pointer p) (.pointer none)).run prog w <;> simp_all
 clear hq hb h;go_enter func99,ntmps99;go_wp2_with fail;go_ret;exact⟨rfl,rfl⟩
theorem subsP_any (wd n0 b:Nat)(l r:PT)(lv rv x y z:Value)(w:World)(hB:w.heap[b]?=some (.cells #[x,y,lv,rv,z] 151))(hl:PA wd n0 l lv w)(hr:PA wd n0 r rv w) : Calls prog 222 #[.pointer (some ⟨b,0,none⟩)] w λe w'=>e=.returned (.tuple #[.pointer (ptrV lv),.pointer (ptrV rv)])/\Below w.heap.size w w':=by
 have HL:Hid (∀w',Below w.heap.size w w'->Calls prog 45 #[lv] w' λe w''=>e=.returned (.pointer (ptrV lv))/\w'=w''):=λw' hb=>qbH wd n0 l lv w' (hl.below hb);have HR:Hid (∀w',Below w.heap.size w w'->Calls prog 45 #[rv] w' λe w''=>e=.returned (.pointer (ptrV rv))/\w'=w''):=λw' hb=>qbH wd n0 r rv w' (hr.below hb);generalize ptrV lv=pl at HL⊢;generalize ptrV rv=pr at HR⊢;have c2:w.cell? ⟨b,2,none⟩=some lv:=ZC hB 2;have c3:w.cell? ⟨b,3,none⟩=some rv:=ZC hB 3;have hd:Below w.heap.size w w.drew:=(Below.refl _ _).drew;clear hl hr hB;go_enter func222,ntmps222;go_wp2_with fail;go_region_held3 (λW=>W.cell? ⟨b,2,none⟩=some lv/\W.cell? ⟨b,3,none⟩=some rv) (exact⟨c2,c3⟩) (first|(go_at_call_of 45 lv;refine(HL.out w.drew hd).mono ?_;rintro e w1 ⟨rfl,rfl⟩)|(go_at_call_of 45 rv;refine(HR.out w.drew hd).mono ?_;rintro e w2 ⟨rfl,rfl⟩));go_wp2_with fail;go_ret2;exact⟨rfl,hd⟩
theorem sh_no (p:Option Addr)(i:Int)(hi':i=0\/i=2)(gb c:Nat)(lo hi:ByteArray)(w:World)(h:w.heap[gb]?=some (.cells #[.string lo,.string hi] 75)):Calls prog 100 #[.pointer p,.int .i64 i,.pointer (some ⟨gb,0,none⟩),.pointer (some ⟨c,0,none⟩)] w λe w'=>e=.returned (.bool true)/\Below w.heap.size w w':=by
 have hz:(i == 1)=false:=by rcases hi' with rfl|rfl <;> rfl
 have c0:w.cell? ⟨gb,0,none⟩=some (.string lo):=ZC h 0;have c1:w.cell? ⟨gb,1,none⟩=some (.string hi):=ZC h 1;go_enter func100,ntmps100;go_wp2_with fail;go_quiet (first|fail);go_wp2_with fail;go_ret;exact⟨rfl,qaa _ (Below.refl _ _)⟩
theorem sh_out (b:Nat)(k v:ByteArray)(x y z:Value)(gb c:Nat)(lo hi:ByteArray)(w:World)(hB:w.heap[b]?=some (.cells #[.string k,.string v,x,y,z] 151))(h:w.heap[gb]?=some (.cells #[.string lo,.string hi] 75))(hn:hasW lo hi k=false):Calls prog 100 #[.pointer (some ⟨b,0,none⟩),.int .i64 1,.pointer (some ⟨gb,0,none⟩),.pointer (some ⟨c,0,none⟩)] w λe w'=>e=.returned (.bool true)/\Below w.heap.size w w':=by
 have c0:w.cell? ⟨gb,0,none⟩=some (.string lo):=ZC h 0;have c1:w.cell? ⟨gb,1,none⟩=some (.string hi):=ZC h 1;have c4:w.cell? ⟨b,0,none⟩=some (.string k):=ZC hB 0;have HC:=λw'=>has_any lo hi k w';rw[hn] at HC;go_enter func100,ntmps100;go_wp2_with fail;go_region_held3 (λW=>W.cell? ⟨b,0,none⟩=some (.string k)/\W.cell? ⟨gb,0,none⟩=some (.string lo)/\W.cell? ⟨gb,1,none⟩=some (.string hi)) (first|exact⟨c4,c0,c1⟩|exact⟨ZC hB2 0,ZC h2 0,ZC h2 1⟩) (first|(go_at_call 101;refine(HC _).mono ?_;rintro e w2 ⟨rfl,hb2⟩;have hB2:=(hb2.block b (zG hB).1).trans hB;have h2:=(hb2.block gb (zG h).1).trans h));go_wp2_with fail;go_ret;exact⟨rfl,(Below.refl w.heap.size w).drew.trans hb2⟩
theorem sh_in (b:Nat)(k v:ByteArray)(x y z:Value)(gb c base:Nat)(lo hi:ByteArray)(ps:List PairT)(a:Option Addr)(cap:Nat)(w:World)(hB:w.heap[b]?=some (.cells #[.string k,.string v,x,y,z] 151))(h:w.heap[gb]?=some (.cells #[.string lo,.string hi] 75))(hn:hasW lo hi k=true)(hL:LS c base ps a cap w)(hlen:ps.length<=100000):Calls prog 100 #[.pointer (some ⟨b,0,none⟩),.int .i64 1,.pointer (some ⟨gb,0,none⟩),.pointer (some ⟨c,0,none⟩)] w λe w'=>e=.returned (.bool true)/\(∃a' cap',LS c base (ps++[(k,v)]) a' cap' w')/\Fr base (λq=>q=c) w w':=by
 have c0:w.cell? ⟨gb,0,none⟩=some (.string lo):=ZC h 0;have c1:w.cell? ⟨gb,1,none⟩=some (.string hi):=ZC h 1;have c4:w.cell? ⟨b,0,none⟩=some (.string k):=ZC hB 0;have HC:=λw'=>has_any lo hi k w';rw[hn] at HC;go_enter func100,ntmps100;go_wp2_with fail;go_region_held3 (λW=>W.cell? ⟨b,0,none⟩=some (.string k)/\W.cell? ⟨gb,0,none⟩=some (.string lo)/\W.cell? ⟨gb,1,none⟩=some (.string hi)) (first|exact⟨c4,c0,c1⟩|exact⟨ZC hB2 0,ZC h2 0,ZC h2 1⟩) (first|(go_at_call 101;refine(HC _).mono ?_;rintro e w2 ⟨rfl,hb2⟩;have hB2:=(hb2.block b (zG hB).1).trans hB;have h2:=(hb2.block gb (zG h).1).trans h));have hb2':Below w.heap.size w w2:=(Below.refl w.heap.size w).drew.trans hb2;have hL2:=hL.below hb2';obtain⟨i0,hi0,hz0,hz1,hz2⟩:=qaB info37;clear hL h c0 c1 c4 HC hn h2;rename_i hHeld0;clear hHeld0;obtain⟨n,hnl⟩:=eX (ps.length);have hfl:Hid (flatP (ps++[(k,v)])=flatP ps++[.string k,.string v]):=qcV _ _;have hln:Hid ((ps++[(k,v)]).length=n+1):=by show _=_;rw[List.length_append,hnl];rfl
 have own:=hL2.own;have hblk:=hL2.blk;have hbs:=hL2.hb;rw[hnl] at hlen own hblk;have hclt:=(zG hblk).1;have hblt:=(zG hB2).1;have cc:w2.cell? ⟨c,0,none⟩=some (.slice a n cap):=ZC hblk 0;have d0:w2.cell? ⟨b,0,none⟩=some (.string k):=ZC hB2 0;have d1:w2.cell? ⟨b,1,none⟩=some (.string v):=ZC hB2 1;have hca:∀o,(w2.alloc o).cell? ⟨c,0,none⟩=some (.slice a n cap):=λo=>(World.cell?_alloc_lt _ _ _ (by show c<_;omega)).trans cc;have hcb:∀o,(w2.alloc o).cell? ⟨b,0,none⟩=some (.string k)/\(w2.alloc o).cell? ⟨b,1,none⟩=some (.string v):=λo=>⟨(World.cell?_alloc_lt _ _ _ (by show b<_;omega)).trans d0,(World.cell?_alloc_lt _ _ _ (by show b<_;omega)).trans d1⟩;have hbB:Below w2.heap.size w2 (w2.drew.alloc (.cells #[.string k,.string v] 81)):=(Below.refl _ _).drew.alloc (Nat.le_refl _) _;clear hL2 hB hB2 hb2;go_upto_region 2 with fail;go_region_law ((refine step_append_lies _ (by rfl) (.tmp 18) (.tmp 23) 35 (by rfl) base 81 i0 (.agg #[.string ⟨#[]⟩,.string ⟨#[]⟩]) 2 32 Tryz.underlying35 hi0 hz0 hz1 hz2 (by rfl) (by decide) (.slice a n cap) n (flatP ps) (by rfl) (own.alloc _) ⟨w2.heap.size,0,none⟩ 1 1 [.string k,.string v] (by rfl) (by rfl) (World.news_of_block (heap_alloc_new w2.drew _)) (by simp[Value.oneCell']) (by decide) (by unfold maxLen;omega) (by omega) (by simp;omega) (w2.heap.size+1) (by simp) ?_;intro g4 c4 w4 hown4 hgrow4 hat4 hlt4;have hlb4:=(hgrow4.block c (by simp;omega) (λe=>by obtain⟨_,_,cur,h9⟩:=qaI own e.symm;rw[hblk] at h9;simp at h9)).trans ((hbB.block c (by omega)).trans hblk);have k1:=ZC hlb4 0;have f1:w4.frozen? ⟨c,0,none⟩=false:=by rw[World.frozen?,hlb4];rfl))
 all_goals
  have hs4:=hgrow4.size;have hb4:base<=w4.heap.size:=by simp at hs4;omega
  have hbd:Below w2.heap.size w2 ((w2.alloc (.cells #[.string k,.string v] 81)).drew):=((Below.refl _ _).alloc (Nat.le_refl _) _).drew;have hu:Fr base (λq=>q=c) w (w4.setCell ⟨c,0,none⟩ (.slice (some ⟨g4,0,none⟩) (n+1) c4)):=((Fr.of_below hb2').trans ((Fr.of_below hbd).trans (Fr.of_grown hgrow4 (own.alloc _)) (λ_ _ q=>q)) (λ_ _ q=>q)).setCell c 0 _ (.inl rfl);go_wp2_with fail;go_ret;refine⟨rfl,⟨some ⟨g4,0,none⟩,c4,by rw[hln.out];exact heap_setCell_same w4 c 0 _ 35 _ hlb4,by rw[hln.out,hfl.out];exact qbb hown4 (λg hv hg=>Below.heap_setCell _ _ _ _ (by show g ≠ c;intro e;subst e;obtain⟨_,_,cur,h9⟩:=qaI hown4 hv;rw[hlb4] at h9;simp at h9)),Nat.le_trans hb4 (Below.setCell (p:=⟨c,0,none⟩) (Below.refl c w4) (Nat.le_refl c) _).size⟩,hu⟩
theorem sh_any (b:Nat)(k v:ByteArray)(x y z:Value)(gb c base:Nat)(lo hi:ByteArray)(ps:List PairT)(a:Option Addr)(cap:Nat)(w:World)(hB:w.heap[b]?=some (.cells #[.string k,.string v,x,y,z] 151))(h:w.heap[gb]?=some (.cells #[.string lo,.string hi] 75))(hL:LS c base ps a cap w)(hlen:ps.length<=100000):Calls prog 100 #[.pointer (some ⟨b,0,none⟩),.int .i64 1,.pointer (some ⟨gb,0,none⟩),.pointer (some ⟨c,0,none⟩)] w λe w'=>e=.returned (.bool true)/\(∃a' cap',LS c base (ps++(if hasW lo hi k=true then [(k,v)] else [])) a' cap' w')/\Fr base (λq=>q=c) w w':=by
 cases hh:hasW lo hi k with
 | true=>rw[if_pos rfl];exact sh_in b k v x y z gb c base lo hi ps a cap w hB h hh hL hlen
 | false =>
  rw[if_neg (by decide),List.append_nil];refine(sh_out b k v x y z gb c lo hi w hB h hh).mono ?_;rintro e w' ⟨rfl,hb⟩;exact⟨rfl,⟨a,cap,hL.below hb⟩,Fr.of_below hb⟩
end Go.Proofs.YtibjhkpgaaapaaaGreatDoor
