import Derived.Test.YtibjhkpgaaapaaaGreatDoorZibr
import Derived.Test.YtibjhkpgaaapaaaGreatDoorZibo
import Derived.Test.YtibjhkpgaaapaaaGreatDoorZibl
import Derived.Test.YtibjhkpgaaapaaaGreatDoorZibn
import Derived.Test.YtibjhkpgaaapaaaGreatDoorZibp
set_option maxRecDepth 100000
set_option maxHeartbeats 4000000
namespace Go.Proofs.YtibjhkpgaaapaaaGreatDoor
open Go.RowKit Go.Proofs.Sha Tryz
theorem pool_proof (HDg:Hid DigSaid)(a:Option Addr)(c:Nat)(ss:List ByteArray)(root:ByteArray)(w:World)(hS:SArg a ss w)(hsm:SmT ss 501 10001)(hT:∀D:Dec,DecEnc 8 D->∃t,HasT (fndD D 8 ss) 8 t/\rootT 8 t=root/\t.size<=501/\ShT t) : Calls prog 50 #[.agg #[.int .i64 8,.slice a ss.length c]] w λe w'=>∃g c',e=.returned (.slice (some ⟨g,0,none⟩) ss.length c')/\(∀W,Below w'.heap.size w' W->Calls prog 49 #[.agg #[.int .i64 8,.slice a ss.length c],.slice (some ⟨g,0,none⟩) ss.length c',.string root,.agg #[.string ⟨#[]⟩,.string ⟨#[]⟩],.string ⟨#[]⟩,.string ⟨#[]⟩] W λe W'=>(∃t:ByteArray,e=.returned (.string t)/\t.size<=1048576)/\Below W.heap.size W W')/\Below w.heap.size w w':=by
 obtain⟨D,hdo,_,HD2,hde⟩:=qdh 8;obtain⟨t,t1,t2,t3,t4⟩:=hT D (hde 8 rfl);refine(qbA HDg 8 a ss c w hS (λj=>Nat.le_trans (hsm.getD j) (by omega)) (by omega) (by omega)).mono ?_;rintro e w' ⟨g,c',rfl,hrow,hb2⟩;refine⟨g,c',rfl,λW hW=>?_,hb2⟩;have hA2:=hS.below hb2;have HDd:=HD2.out 8 rfl (by omega) (by omega);have hlen:=txt_len 8 (by omega) ⟨#[]⟩ ⟨#[]⟩ t ⟨#[]⟩ ⟨#[]⟩ t4;have:=lpT_all (fndD D 8 ss) 8 (by omega) (by omega) a ss.length c g c' ⟨#[]⟩ ⟨#[]⟩ (by decide) (by decide) w' (λw3 hash _ hb3=>by
  have:=qcY D 8 HDd a ss c g c' (ss.map (hashT 8)) hash w3 (hA2.below hb3) (by rw[List.length_map]) (Nat.lt_of_lt_of_le hrow.lt hb3.size) (λj hj=>by
   have e:=(hrow.below hb3).cell j hj
   rw[e,List.getElem?_map,zL,List.getElem?_eq_getElem (by rw[List.length_map];exact hj)]
   rfl)
  rw[qcv] at this
  exact this) t ⟨#[]⟩ ⟨#[]⟩ t1 (λp hp=>by have:=t4 p hp;omega) (by omega) (by decide) (by decide) W hW
 rw[t2] at this;refine this.mono ?_;rintro e W' ⟨⟨x,rfl,_,hx⟩,hb⟩;refine⟨⟨x,rfl,?_⟩,hb⟩;have hl:x.size=(txtP (ptT 8 ⟨#[]⟩ ⟨#[]⟩ ⟨#[]⟩ ⟨#[]⟩ t)).length:=by rw[<-hx.out];rfl
 omega
theorem dver_a (a:Option Addr)(xs:List Nat)(cap x:Nat)(hX:Code8 xs)(w:World)(hB:BL a xs w)(HDg:Hid DigSaid)(hx:x<=5/\0<=xs.length)(HT':∀w,BL a xs w->Calls prog 58 #[.slice a xs.length cap,.int .i64 ((0:Nat):Int),.int .i64 ((12:Nat):Int)] w λe w'=>e=.returned (.tuple #[.int .i64 (x:Int),.int .i64 ((0+1:Nat):Int)])/\Below w.heap.size w w'):Calls prog 32 #[.slice a xs.length cap] w (DvG w):=by
 have HT:Hid (∀w',Below w.heap.size w w'->Calls prog 58 #[.slice a xs.length cap,.int .i64 0,.int .i64 12] w' λe w''=>e=.returned (.tuple #[.int .i64 (x:Int),.int .i64 1])/\Below w'.heap.size w' w''):=λw' hb=>HT' w' (hB.below hb);have HP:Hid (∀w',Below w.heap.size w w'->Calls prog 59 #[.slice a xs.length cap,.int .i64 1] w' (DpG w')):=λw' hb=>qaX a xs cap 1 hX (by omega) w' (hB.below hb) HDg;unfold DpG at HP;clear HT';have hXle:=hX.le;obtain⟨L,hL⟩:=eX (xs.length);rw[hL] at HT HP hx hXle  ⊢;clear hL hB hX;have z6:((x:Int) == 6)=false:=by rw[beq_eq_false_iff_ne];omega
 have z7:((x:Int) == 7)=false:=by rw[beq_eq_false_iff_ne];omega
 have z8:((x:Int) == 8)=false:=by rw[beq_eq_false_iff_ne];omega
 have z9:((x:Int) == 9)=false:=by rw[beq_eq_false_iff_ne];omega
 have z10:((x:Int) == 10)=false:=by rw[beq_eq_false_iff_ne];omega
 have z11:((x:Int) == 11)=false:=by rw[beq_eq_false_iff_ne];omega
 go_enter func32,ntmps32;go_upto_region 2 with (first|(go_at_call 58;refine(HT.out _ (Below.refl _ _)).mono ?_;rintro e w1 ⟨rfl,hb1⟩));go_upto_region 7 with (first|(go_at_call 59;refine(HP.out _ hb1).mono ?_;rintro e w2 ⟨wd,root,lo,hi,pf,ps,a1,c1,q,rfl,hwd,hroot,hlo,hhi,hpf,hR,hPa,hc1,hq,hb2'⟩));have hb2:=hb1.trans (hb2'.mono hb1.size);have hRl:=hR.len;clear HT HP hb2' hb1;go_wp2_with fail;exact bodyPost_ret (v:=.tuple #[.int .i64 ((wd:Int)),.string root,.string lo,.string hi,.string pf]) (by simp[results,Tryz.results32,go_sem]) rfl ⟨_,_,_,_,_,rfl,by omega,by omega,by omega,hb2⟩
theorem dver_b (a:Option Addr)(xs:List Nat)(cap x:Nat)(hX:Code8 xs)(w:World)(hB:BL a xs w)(HDg:Hid DigSaid)(hx:x=6/\0<=xs.length)(HT':∀w,BL a xs w->Calls prog 58 #[.slice a xs.length cap,.int .i64 ((0:Nat):Int),.int .i64 ((12:Nat):Int)] w λe w'=>e=.returned (.tuple #[.int .i64 (x:Int),.int .i64 ((0+1:Nat):Int)])/\Below w.heap.size w w'):Calls prog 32 #[.slice a xs.length cap] w (DvG w):=by
 have HT:Hid (∀w',Below w.heap.size w w'->Calls prog 58 #[.slice a xs.length cap,.int .i64 0,.int .i64 12] w' λe w''=>e=.returned (.tuple #[.int .i64 (x:Int),.int .i64 1])/\Below w'.heap.size w' w''):=λw' hb=>HT' w' (hB.below hb);have HP:Hid (∀w',Below w.heap.size w w'->Calls prog 59 #[.slice a xs.length cap,.int .i64 1] w' (DpG w')):=λw' hb=>qaX a xs cap 1 hX (by omega) w' (hB.below hb) HDg;unfold DpG at HP;have HSp:Hid (∀ (q:Nat) (s:ByteArray),q<=80000->s.size<=50000->∃t:ByteArray,t.size<=s.size+1/\∀w',Below w.heap.size w w'->Calls prog 60 #[.slice a xs.length cap,.int .i64 (q:Int),.string s] w' λe w''=>e=.returned (.string t)/\Below w'.heap.size w' w''):=λq s h1 h2=>by
  obtain⟨t,ht,H⟩:=spoil_det a xs cap q s hX h1 h2;exact⟨t,ht,λw' hb=>H w' (hB.below hb)⟩
 clear HT';have hXle:=hX.le;obtain⟨L,hL⟩:=eX (xs.length);rw[hL] at HT HP hx hXle HSp⊢;clear hL hB hX
 replace hx:=hx.1
 have z6:((x:Int) == 6)=true:=by rw[hx];rfl
 have z7:((x:Int) == 7)=false:=by rw[beq_eq_false_iff_ne];omega
 have z8:((x:Int) == 8)=false:=by rw[beq_eq_false_iff_ne];omega
 have z9:((x:Int) == 9)=false:=by rw[beq_eq_false_iff_ne];omega
 have z10:((x:Int) == 10)=false:=by rw[beq_eq_false_iff_ne];omega
 have z11:((x:Int) == 11)=false:=by rw[beq_eq_false_iff_ne];omega
 clear hx;go_enter func32,ntmps32;go_upto_region 2 with (first|(go_at_call 58;refine(HT.out _ (Below.refl _ _)).mono ?_;rintro e w1 ⟨rfl,hb1⟩));go_upto_region 7 with (first|(go_at_call 59;refine(HP.out _ hb1).mono ?_;rintro e w2 ⟨wd,root,lo,hi,pf,ps,a1,c1,q,rfl,hwd,hroot,hlo,hhi,hpf,hR,hPa,hc1,hq,hb2'⟩));have hb2:=hb1.trans (hb2'.mono hb1.size);have hRl:=hR.len;clear HT HP hb2' hb1;obtain⟨t,ht,HS'⟩:=HSp.out q pf (by omega) (by omega);have HS:Hid _:=HS';clear HS' HSp;go_wp2_with (first|(go_at_call 60;refine(HS.out _ hb2).mono ?_;rintro e w3 ⟨rfl,hb3⟩));exact bodyPost_ret (v:=.tuple #[.int .i64 ((wd:Int)),.string root,.string lo,.string hi,.string t]) (by simp[results,Tryz.results32,go_sem]) rfl ⟨_,_,_,_,_,rfl,by omega,by omega,by omega,hb2.trans (hb3.mono hb2.size)⟩
theorem dver_c (a:Option Addr)(xs:List Nat)(cap x:Nat)(hX:Code8 xs)(w:World)(hB:BL a xs w)(HDg:Hid DigSaid)(hx:x=7/\0<=xs.length)(HT':∀w,BL a xs w->Calls prog 58 #[.slice a xs.length cap,.int .i64 ((0:Nat):Int),.int .i64 ((12:Nat):Int)] w λe w'=>e=.returned (.tuple #[.int .i64 (x:Int),.int .i64 ((0+1:Nat):Int)])/\Below w.heap.size w w'):Calls prog 32 #[.slice a xs.length cap] w (DvG w):=by
 have HT:Hid (∀w',Below w.heap.size w w'->Calls prog 58 #[.slice a xs.length cap,.int .i64 0,.int .i64 12] w' λe w''=>e=.returned (.tuple #[.int .i64 (x:Int),.int .i64 1])/\Below w'.heap.size w' w''):=λw' hb=>HT' w' (hB.below hb);have HP:Hid (∀w',Below w.heap.size w w'->Calls prog 59 #[.slice a xs.length cap,.int .i64 1] w' (DpG w')):=λw' hb=>qaX a xs cap 1 hX (by omega) w' (hB.below hb) HDg;unfold DpG at HP;have HSp:Hid (∀ (q:Nat) (s:ByteArray),q<=80000->s.size<=50000->∃t:ByteArray,t.size<=s.size+1/\∀w',Below w.heap.size w w'->Calls prog 60 #[.slice a xs.length cap,.int .i64 (q:Int),.string s] w' λe w''=>e=.returned (.string t)/\Below w'.heap.size w' w''):=λq s h1 h2=>by
  obtain⟨t,ht,H⟩:=spoil_det a xs cap q s hX h1 h2;exact⟨t,ht,λw' hb=>H w' (hB.below hb)⟩
 clear HT';have hXle:=hX.le;obtain⟨L,hL⟩:=eX (xs.length);rw[hL] at HT HP hx hXle HSp⊢;clear hL hB hX
 replace hx:=hx.1
 have z6:((x:Int) == 6)=false:=by rw[beq_eq_false_iff_ne];omega
 have z7:((x:Int) == 7)=true:=by rw[hx];rfl
 have z8:((x:Int) == 8)=false:=by rw[beq_eq_false_iff_ne];omega
 have z9:((x:Int) == 9)=false:=by rw[beq_eq_false_iff_ne];omega
 have z10:((x:Int) == 10)=false:=by rw[beq_eq_false_iff_ne];omega
 have z11:((x:Int) == 11)=false:=by rw[beq_eq_false_iff_ne];omega
 clear hx;go_enter func32,ntmps32;go_upto_region 2 with (first|(go_at_call 58;refine(HT.out _ (Below.refl _ _)).mono ?_;rintro e w1 ⟨rfl,hb1⟩));go_upto_region 7 with (first|(go_at_call 59;refine(HP.out _ hb1).mono ?_;rintro e w2 ⟨wd,root,lo,hi,pf,ps,a1,c1,q,rfl,hwd,hroot,hlo,hhi,hpf,hR,hPa,hc1,hq,hb2'⟩));have hb2:=hb1.trans (hb2'.mono hb1.size);have hRl:=hR.len;clear HT HP hb2' hb1;obtain⟨t,ht,HS'⟩:=HSp.out q pf (by omega) (by omega);have HS:Hid _:=HS';clear HS' HSp;go_wp2_with (first|(go_at_call 60;refine(HS.out _ hb2).mono ?_;rintro e w3 ⟨rfl,hb3⟩));exact bodyPost_ret (v:=.tuple #[.int .i64 ((wd:Int)),.string root,.string lo,.string hi,.string t]) (by simp[results,Tryz.results32,go_sem]) rfl ⟨_,_,_,_,_,rfl,by omega,by omega,by omega,hb2.trans (hb3.mono hb2.size)⟩
theorem dver_d (a:Option Addr)(xs:List Nat)(cap x:Nat)(hX:Code8 xs)(w:World)(hB:BL a xs w)(HDg:Hid DigSaid)(hx:x=8/\0<=xs.length)(HT':∀w,BL a xs w->Calls prog 58 #[.slice a xs.length cap,.int .i64 ((0:Nat):Int),.int .i64 ((12:Nat):Int)] w λe w'=>e=.returned (.tuple #[.int .i64 (x:Int),.int .i64 ((0+1:Nat):Int)])/\Below w.heap.size w w'):Calls prog 32 #[.slice a xs.length cap] w (DvG w):=by
 have HT:Hid (∀w',Below w.heap.size w w'->Calls prog 58 #[.slice a xs.length cap,.int .i64 0,.int .i64 12] w' λe w''=>e=.returned (.tuple #[.int .i64 (x:Int),.int .i64 1])/\Below w'.heap.size w' w''):=λw' hb=>HT' w' (hB.below hb);have HP:Hid (∀w',Below w.heap.size w w'->Calls prog 59 #[.slice a xs.length cap,.int .i64 1] w' (DpG w')):=λw' hb=>qaX a xs cap 1 hX (by omega) w' (hB.below hb) HDg;unfold DpG at HP;have HBd:Hid (∀q:Nat,q<=1000->∃lo hi:ByteArray,(lo.size<=80/\hi.size<=80)/\∀w',Below w.heap.size w w'->Calls prog 77 #[.slice a xs.length cap,.int .i64 (q:Int)] w' λe w''=>e=.returned (.tuple #[.string lo,.string hi,.int .i64 ((q+1+1+1:Nat):Int)])/\Below w'.heap.size w' w''):=λq h1=>by
  obtain⟨lo,hi,h,H⟩:=bounds_det a xs cap q hX (by omega);exact⟨lo,hi,h,λw' hb=>H w' (hB.below hb)⟩
 clear HT';have hXle:=hX.le;obtain⟨L,hL⟩:=eX (xs.length);rw[hL] at HT HP hx hXle HBd⊢;clear hL hB hX
 replace hx:=hx.1
 have z6:((x:Int) == 6)=false:=by rw[beq_eq_false_iff_ne];omega
 have z7:((x:Int) == 7)=false:=by rw[beq_eq_false_iff_ne];omega
 have z8:((x:Int) == 8)=true:=by rw[hx];rfl
 have z9:((x:Int) == 9)=false:=by rw[beq_eq_false_iff_ne];omega
 have z10:((x:Int) == 10)=false:=by rw[beq_eq_false_iff_ne];omega
 have z11:((x:Int) == 11)=false:=by rw[beq_eq_false_iff_ne];omega
 clear hx;go_enter func32,ntmps32;go_upto_region 2 with (first|(go_at_call 58;refine(HT.out _ (Below.refl _ _)).mono ?_;rintro e w1 ⟨rfl,hb1⟩));go_upto_region 7 with (first|(go_at_call 59;refine(HP.out _ hb1).mono ?_;rintro e w2 ⟨wd,root,lo,hi,pf,ps,a1,c1,q,rfl,hwd,hroot,hlo,hhi,hpf,hR,hPa,hc1,hq,hb2'⟩));have hb2:=hb1.trans (hb2'.mono hb1.size);have hRl:=hR.len;clear HT HP hb2' hb1;obtain⟨lo2,hi2,hl2,HS'⟩:=HBd.out q (by omega);have HS:Hid _:=HS';clear HS' HBd;go_wp2_with (first|(go_at_call 77;refine(HS.out _ hb2).mono ?_;rintro e w3 ⟨rfl,hb3⟩));exact bodyPost_ret (v:=.tuple #[.int .i64 ((wd:Int)),.string root,.string lo2,.string hi2,.string pf]) (by simp[results,Tryz.results32,go_sem]) rfl ⟨_,_,_,_,_,rfl,by omega,by omega,by omega,hb2.trans (hb3.mono hb2.size)⟩
theorem dver_e (a:Option Addr)(xs:List Nat)(cap x:Nat)(hX:Code8 xs)(w:World)(hB:BL a xs w)(HDg:Hid DigSaid)(hx:x=9/\0<=xs.length)(HT':∀w,BL a xs w->Calls prog 58 #[.slice a xs.length cap,.int .i64 ((0:Nat):Int),.int .i64 ((12:Nat):Int)] w λe w'=>e=.returned (.tuple #[.int .i64 (x:Int),.int .i64 ((0+1:Nat):Int)])/\Below w.heap.size w w'):Calls prog 32 #[.slice a xs.length cap] w (DvG w):=by
 have HT:Hid (∀w',Below w.heap.size w w'->Calls prog 58 #[.slice a xs.length cap,.int .i64 0,.int .i64 12] w' λe w''=>e=.returned (.tuple #[.int .i64 (x:Int),.int .i64 1])/\Below w'.heap.size w' w''):=λw' hb=>HT' w' (hB.below hb);have HP:Hid (∀w',Below w.heap.size w w'->Calls prog 59 #[.slice a xs.length cap,.int .i64 1] w' (DpG w')):=λw' hb=>qaX a xs cap 1 hX (by omega) w' (hB.below hb) HDg;unfold DpG at HP;clear HT';have hXle:=hX.le;obtain⟨L,hL⟩:=eX (xs.length);rw[hL] at HT HP hx hXle  ⊢;clear hL hB hX
 replace hx:=hx.1
 have z6:((x:Int) == 6)=false:=by rw[beq_eq_false_iff_ne];omega
 have z7:((x:Int) == 7)=false:=by rw[beq_eq_false_iff_ne];omega
 have z8:((x:Int) == 8)=false:=by rw[beq_eq_false_iff_ne];omega
 have z9:((x:Int) == 9)=true:=by rw[hx];rfl
 have z10:((x:Int) == 10)=false:=by rw[beq_eq_false_iff_ne];omega
 have z11:((x:Int) == 11)=false:=by rw[beq_eq_false_iff_ne];omega
 clear hx;go_enter func32,ntmps32;go_upto_region 2 with (first|(go_at_call 58;refine(HT.out _ (Below.refl _ _)).mono ?_;rintro e w1 ⟨rfl,hb1⟩));go_upto_region 7 with (first|(go_at_call 59;refine(HP.out _ hb1).mono ?_;rintro e w2 ⟨wd,root,lo,hi,pf,ps,a1,c1,q,rfl,hwd,hroot,hlo,hhi,hpf,hR,hPa,hc1,hq,hb2'⟩));have hb2:=hb1.trans (hb2'.mono hb1.size);have hRl:=hR.len;clear HT HP hb2' hb1;have HS:Hid (∀w',Calls prog 23 #[.string ⟨#[111,116,104,101,114]⟩,.int .i64 (wd:Int)] w' λe w''=>e=.returned (.string ⟨((sha (⟨#[111,116,104,101,114]⟩:ByteArray).data.toList).take wd).toArray⟩)/\Below w'.heap.size w' w''):=λw'=>qda _ wd w' (by decide) hwd.1 hwd.2;generalize (⟨((sha (⟨#[111,116,104,101,114]⟩:ByteArray).data.toList).take wd).toArray⟩:ByteArray)=RR at HS;go_wp2_with (first|(go_at_call 23;refine(HS.out _).mono ?_;rintro e w3 ⟨rfl,hb3⟩));exact bodyPost_ret (v:=.tuple #[.int .i64 ((wd:Int)),.string RR,.string lo,.string hi,.string pf]) (by simp[results,Tryz.results32,go_sem]) rfl ⟨_,_,_,_,_,rfl,by omega,by omega,by omega,hb2.trans (hb3.mono hb2.size)⟩
theorem dver_f (a:Option Addr)(xs:List Nat)(cap x:Nat)(hX:Code8 xs)(w:World)(hB:BL a xs w)(HDg:Hid DigSaid)(hx:x=10/\0<=xs.length)(HT':∀w,BL a xs w->Calls prog 58 #[.slice a xs.length cap,.int .i64 ((0:Nat):Int),.int .i64 ((12:Nat):Int)] w λe w'=>e=.returned (.tuple #[.int .i64 (x:Int),.int .i64 ((0+1:Nat):Int)])/\Below w.heap.size w w'):Calls prog 32 #[.slice a xs.length cap] w (DvG w):=by
 have HT:Hid (∀w',Below w.heap.size w w'->Calls prog 58 #[.slice a xs.length cap,.int .i64 0,.int .i64 12] w' λe w''=>e=.returned (.tuple #[.int .i64 (x:Int),.int .i64 1])/\Below w'.heap.size w' w''):=λw' hb=>HT' w' (hB.below hb);have HP:Hid (∀w',Below w.heap.size w w'->Calls prog 59 #[.slice a xs.length cap,.int .i64 1] w' (DpG w')):=λw' hb=>qaX a xs cap 1 hX (by omega) w' (hB.below hb) HDg;unfold DpG at HP;clear HT';have hXle:=hX.le;obtain⟨L,hL⟩:=eX (xs.length);rw[hL] at HT HP hx hXle  ⊢;clear hL hB hX
 replace hx:=hx.1
 have z6:((x:Int) == 6)=false:=by rw[beq_eq_false_iff_ne];omega
 have z7:((x:Int) == 7)=false:=by rw[beq_eq_false_iff_ne];omega
 have z8:((x:Int) == 8)=false:=by rw[beq_eq_false_iff_ne];omega
 have z9:((x:Int) == 9)=false:=by rw[beq_eq_false_iff_ne];omega
 have z10:((x:Int) == 10)=true:=by rw[hx];rfl
 have z11:((x:Int) == 11)=false:=by rw[beq_eq_false_iff_ne];omega
 clear hx;go_enter func32,ntmps32;go_upto_region 2 with (first|(go_at_call 58;refine(HT.out _ (Below.refl _ _)).mono ?_;rintro e w1 ⟨rfl,hb1⟩));go_upto_region 7 with (first|(go_at_call 59;refine(HP.out _ hb1).mono ?_;rintro e w2 ⟨wd,root,lo,hi,pf,ps,a1,c1,q,rfl,hwd,hroot,hlo,hhi,hpf,hR,hPa,hc1,hq,hb2'⟩));have hb2:=hb1.trans (hb2'.mono hb1.size);have hRl:=hR.len;clear HT HP hb2' hb1;have y1:(wd:Int).tmod 32=((wd % 32:Nat):Int):=by rw[Int.tmod_eq_emod_of_nonneg (by omega)];omega
 have y2:(q:Int).tmod 3=((q % 3:Nat):Int):=by rw[Int.tmod_eq_emod_of_nonneg (by omega)];omega
 obtain⟨r1,hr1⟩:∃r,wd % 32=r:=⟨_,rfl⟩;obtain⟨r2,hr2⟩:∃r,q % 3=r:=⟨_,rfl⟩;rw[hr1] at y1;rw[hr2] at y2;have hr1l:r1<=32:=by omega
 have hr2l:r2<=3:=by omega
 clear hr1 hr2;go_wp2_with fail;exact bodyPost_ret (v:=.tuple #[.int .i64 ((r1:Int)+(r2:Int)),.string root,.string lo,.string hi,.string pf]) (by simp[results,Tryz.results32,go_sem]) rfl ⟨_,_,_,_,_,rfl,by omega,by omega,by omega,hb2⟩
theorem dver_g (a:Option Addr)(xs:List Nat)(cap x:Nat)(hX:Code8 xs)(w:World)(hB:BL a xs w)(HDg:Hid DigSaid)(hx:x=11/\60<xs.length)(HT':∀w,BL a xs w->Calls prog 58 #[.slice a xs.length cap,.int .i64 ((0:Nat):Int),.int .i64 ((12:Nat):Int)] w λe w'=>e=.returned (.tuple #[.int .i64 (x:Int),.int .i64 ((0+1:Nat):Int)])/\Below w.heap.size w w'):Calls prog 32 #[.slice a xs.length cap] w (DvG w):=by
 have HT:Hid (∀w',Below w.heap.size w w'->Calls prog 58 #[.slice a xs.length cap,.int .i64 0,.int .i64 12] w' λe w''=>e=.returned (.tuple #[.int .i64 (x:Int),.int .i64 1])/\Below w'.heap.size w' w''):=λw' hb=>HT' w' (hB.below hb);have HP:Hid (∀w',Below w.heap.size w w'->Calls prog 59 #[.slice a xs.length cap,.int .i64 1] w' (DpG w')):=λw' hb=>qaX a xs cap 1 hX (by omega) w' (hB.below hb) HDg;unfold DpG at HP;have HTk:Hid (∃y:Nat,y<2/\∀w',Below w.heap.size w w'->Calls prog 58 #[.slice a xs.length cap,.int .i64 1,.int .i64 2] w' λe w''=>e=.returned (.tuple #[.int .i64 (y:Int),.int .i64 ((1+1:Nat):Int)])/\Below w'.heap.size w' w''):=by
  obtain⟨T,ht,H⟩:=qaP a xs cap 1 2 hX (by omega) (by omega) (by omega);exact⟨T,ht,λw' hb=>H w' (hB.below hb)⟩
 have HTM:Hid (∀ (y:Nat) w',y<2->Calls prog 76 #[.int .i64 (y:Int)] w' (TmG w')):=λy w' hy=>by
  rcases Nat.lt_or_ge y 1 with h|h
  ·obtain rfl:y=0:=by omega
   exact tm0_any HDg w'
  ·obtain rfl:y=1:=by omega
   exact tm1_any HDg w'
 unfold TmG at HTM;have HPP:Hid (∀ (a:Option Addr) (c:Nat) (ss:List ByteArray) (root:ByteArray) (w:World),SArg a ss w->SmT ss 501 10001->(∀D:Dec,DecEnc 8 D->∃t,HasT (fndD D 8 ss) 8 t/\rootT 8 t=root/\t.size<=501/\ShT t)->_):=λa c ss root w h1 h2 h3=>pool_proof HDg a c ss root w h1 h2 h3;clear HT';have hXle:=hX.le;obtain⟨L,hL⟩:=eX (xs.length);rw[hL] at HT HP hx hXle HTk⊢;clear hL hB hX;have hl60:=hx.2
 replace hx:=hx.1
 have z6:((x:Int) == 6)=false:=by rw[beq_eq_false_iff_ne];omega
 have z7:((x:Int) == 7)=false:=by rw[beq_eq_false_iff_ne];omega
 have z8:((x:Int) == 8)=false:=by rw[beq_eq_false_iff_ne];omega
 have z9:((x:Int) == 9)=false:=by rw[beq_eq_false_iff_ne];omega
 have z10:((x:Int) == 10)=false:=by rw[beq_eq_false_iff_ne];omega
 have z11:((x:Int) == 11)=true:=by rw[hx];rfl
 clear hx;have g60:decide ((60:Int)<(L:Int))=true:=by apply decide_eq_true;omega
 have g60n:decide (60<L)=true:=decide_eq_true hl60;go_enter func32,ntmps32;go_upto_region 2 with (first|(go_at_call 58;refine(HT.out _ (Below.refl _ _)).mono ?_;rintro e w1 ⟨rfl,hb1⟩));obtain⟨y,hy,HTk2'⟩:=HTk.out;have HTk2:Hid _:=HTk2';clear HTk2' HTk HP;go_upto_region 4 with (first|(go_at_call 58;refine(HTk2.out _ hb1).mono ?_;rintro e w2 ⟨rfl,hb2'⟩));have hb2:=hb1.trans (hb2'.mono hb1.size);clear hb2' hb1 HT HTk2;go_upto_region 5 with (first|(go_at_call 76;refine(HTM.out y _ hy).mono ?_;rintro e w3 ⟨ap,cp,ss,root,rfl,hS3,hsm,hrt,hTt,hb3'⟩));have hb3:=hb2.trans (hb3'.mono hb2.size);have al:=bA w3 (.cells #[.int .i64 8,.slice ap ss.length cp] 31);have nA:=heap_alloc_new w3 (.cells #[.int .i64 8,.slice ap ss.length cp] 31);have hS4:=hS3.below al;have hb4:=hb3.trans (al.mono hb3.size);generalize w3.alloc (.cells #[.int .i64 8,.slice ap ss.length cp] 31)=w4 at nA hS4 hb4⊢;obtain⟨gp,hgp⟩:∃g,w3.heap.size=g:=⟨_,rfl⟩;rw[hgp] at nA
 try rw[hgp]
 clear hgp al hS3 hb3 hb3' hb2 HTM;have hdr:Below w4.heap.size w4 w4.drew:=(Below.refl _ _).drew;have HPx:=λw' (hb:Below w4.heap.size w4 w')=>HPP.out ap cp ss root w' (hS4.below hb) hsm hTt;obtain⟨N,hN⟩:=eX (ss.length);rw[hN] at HPx nA
 try rw[hN]
 have HPy:Hid _:=HPx;clear HPx HPP hTt;have hC:Hid (∀W,Below w4.heap.size w4 W->W.cell? ⟨gp,0,none⟩=some (.int .i64 8)/\W.cell? ⟨gp,1,none⟩=some (.slice ap N cp)):=λW hW=>⟨ZC (qab hW nA) 0,ZC (qab hW nA) 1⟩;go_region_held3 (λW=>W.cell? ⟨gp,0,none⟩=some (.int .i64 8)/\W.cell? ⟨gp,1,none⟩=some (.slice ap N cp)) (first|exact hC.out _ (Below.refl _ _)|exact hC.out _ hdr|exact hC.out _ hb5|exact hC.out _ hb6) (first|(go_at_call 50;refine(HPy.out _ hdr).mono ?_;rintro e w5 ⟨g5,c5,rfl,HL5,hb5'⟩;have hb5:Below w4.heap.size w4 w5:=hdr.trans (hb5'.mono hdr.size))|(go_at_call 49;refine(HL5 _ (Below.refl _ _)).mono ?_;rintro e w6 ⟨⟨t6,rfl,ht6⟩,hb6'⟩;have hb6:Below w4.heap.size w4 w6:=hb5.trans (hb6'.mono hb5.size)));have hbF:=hb4.trans (hb6.mono hb4.size);go_wp2_with fail;exact bodyPost_ret (v:=.tuple #[.int .i64 (8),.string root,.string ⟨#[]⟩,.string ⟨#[]⟩,.string t6]) (by simp[results,Tryz.results32,go_sem]) rfl ⟨_,_,_,_,_,rfl,by decide,by decide,ht6,hbF⟩
theorem dver_h (a:Option Addr)(xs:List Nat)(cap x:Nat)(hX:Code8 xs)(w:World)(hB:BL a xs w)(HDg:Hid DigSaid)(hx:x=11/\xs.length<=60)(HT':∀w,BL a xs w->Calls prog 58 #[.slice a xs.length cap,.int .i64 ((0:Nat):Int),.int .i64 ((12:Nat):Int)] w λe w'=>e=.returned (.tuple #[.int .i64 (x:Int),.int .i64 ((0+1:Nat):Int)])/\Below w.heap.size w w'):Calls prog 32 #[.slice a xs.length cap] w (DvG w):=by
 have HT:Hid (∀w',Below w.heap.size w w'->Calls prog 58 #[.slice a xs.length cap,.int .i64 0,.int .i64 12] w' λe w''=>e=.returned (.tuple #[.int .i64 (x:Int),.int .i64 1])/\Below w'.heap.size w' w''):=λw' hb=>HT' w' (hB.below hb);have HP:Hid (∀w',Below w.heap.size w w'->Calls prog 59 #[.slice a xs.length cap,.int .i64 1] w' (DpG w')):=λw' hb=>qaX a xs cap 1 hX (by omega) w' (hB.below hb) HDg;unfold DpG at HP;have HNr:Hid (∀ (q:Nat) (ps:List PairT),q<=1000->SmQ ps 14->∃ (qs:List PairT) (y:Nat),SmQ qs 17/\∀w' a1 c1,Below w.heap.size w w'->PArg a1 ps w'->ps.length<=c1->Calls prog 78 #[.slice a xs.length cap,.int .i64 (q:Int),.slice a1 ps.length c1] w' λe w''=>∃a2 c2,e=.returned (.tuple #[.slice a2 qs.length c2,.int .i64 (y:Int)])/\PArg a2 qs w''/\qs.length<=c2/\Below w'.heap.size w' w''):=λq ps h1 h2=>by
  obtain⟨qs,y,⟨h,_,_⟩,H⟩:=near2_det a xs cap q ps 14 hX (by omega) (by omega) h2;exact⟨qs,y,h,λw' a1 c1 hb hp hc=>(H a1 c1 w' (hB.below hb) hp hc).mono (λe w'' ⟨a2,c2,h1,h2,h3,_,h5⟩=>⟨a2,c2,h1,h2,h3,h5⟩)⟩
 have HSv:Hid (∀ (wd:Nat) a1 c1 (qs:List PairT) w',PArg a1 qs w'->qs.length<=c1->Calls prog 33 #[.agg #[.int .i64 (wd:Int),.slice none 0 0],.slice a1 qs.length c1] w' (SavedIs (saveO (wd:Int) [] qs) w')):=λwd a1 c1 qs w' h2 hc=>qce HDg (wd:Int) none [] 0 a1 qs c1 w' ⟨Nat.zero_le _,λj=>Nat.zero_le _,λq=>absurd q (Nat.lt_irrefl _)⟩ (λj=>Nat.zero_le _) h2 hc;have HPv:Hid (∀ (wd:Nat) (qs:List PairT) (lo hi:ByteArray),1<=wd->wd<=32->qs.length<=17->lo.size<=80->hi.size<=80->SmT (saveO (wd:Int) [] qs).xs 100 10000/\(saveO (wd:Int) [] qs).root.size<=32/\∃pf:ByteArray,pf.size<=50000/\∃c:Int,∀a1 c1 w',SArg a1 (saveO (wd:Int) [] qs).xs w'->Calls prog 12 #[.agg #[.int .i64 (saveO (wd:Int) [] qs).n,.slice a1 (saveO (wd:Int) [] qs).xs.length c1],.string (saveO (wd:Int) [] qs).root,.string lo,.string hi] w' λe w''=>e=.returned (.tuple #[.string pf,.int .i64 c])/\Below w'.heap.size w' w''):=λwd qs lo hi h1 h2 hq hlo hhi=>by
  obtain⟨f1,f2,f3⟩:=qdq wd h1 h2 qs (by omega);obtain⟨D,d1,_,d3,d4⟩:=qdh (saveO (wd:Int) [] qs).n;refine⟨f1,f2,_,?_,_,λa1 c1 w' hs=>sprove_any HDg D _ d3 d1 a1 _ c1 _ lo hi w' hs (λj=>by have:=f1.getD j;omega) (by omega) (by omega) (by omega)⟩;have:=f3 D d1 d4 lo hi;omega
 clear HT';have hXle:=hX.le;obtain⟨L,hL⟩:=eX (xs.length);rw[hL] at HT HP hx hXle HNr⊢;clear hL hB hX;have hl60:=hx.2
 replace hx:=hx.1
 have z6:((x:Int) == 6)=false:=by rw[beq_eq_false_iff_ne];omega
 have z7:((x:Int) == 7)=false:=by rw[beq_eq_false_iff_ne];omega
 have z8:((x:Int) == 8)=false:=by rw[beq_eq_false_iff_ne];omega
 have z9:((x:Int) == 9)=false:=by rw[beq_eq_false_iff_ne];omega
 have z10:((x:Int) == 10)=false:=by rw[beq_eq_false_iff_ne];omega
 have z11:((x:Int) == 11)=true:=by rw[hx];rfl
 clear hx;have g60:decide ((60:Int)<(L:Int))=false:=by apply decide_eq_false;omega
 have g60n:decide (60<L)=false:=decide_eq_false (by omega);go_enter func32,ntmps32;go_upto_region 2 with (first|(go_at_call 58;refine(HT.out _ (Below.refl _ _)).mono ?_;rintro e w1 ⟨rfl,hb1⟩));go_upto_region 7 with (first|(go_at_call 59;refine(HP.out _ hb1).mono ?_;rintro e w2 ⟨wd,root,lo,hi,pf,ps,a1,c1,q,rfl,hwd,hroot,hlo,hhi,hpf,hR,hPa,hc1,hq,hb2'⟩));have hb2:=hb1.trans (hb2'.mono hb1.size);have hRl:=hR.len;clear HT HP hb2' hb1;obtain⟨qs,y,hqs,HN1'⟩:=HNr.out q ps hq ⟨hR.len,λp hp=>by have:=hR.sz p hp;omega⟩;have HN1:=λw' hb hp=>HN1' w' a1 c1 hb hp hc1;obtain⟨f1,f2,pf2,hpf2,cc,HP2'⟩:=HPv.out wd qs lo hi hwd.1 hwd.2 hqs.len hlo hhi;have HS1:=λa2 c2 w' h1 h2=>HSv.out wd a2 c2 qs w' h1 h2;unfold SavedIs at HS1;obtain⟨o,ho⟩:=eX (saveO (wd:Int) [] qs);rw[ho] at f1 f2 HP2' HS1;obtain⟨P,hP⟩:=eX (ps.length);obtain⟨U,hU⟩:=eX (qs.length);rw[hP,hU] at HN1;rw[hU] at HS1
 try rw[hP]
 obtain⟨cd,on,ys,oroot,ox,oy⟩:=o;simp only at f1 f2 HP2' HS1;obtain⟨NY,hNY⟩:∃N,ys.length=N:=⟨_,rfl⟩;rw[hNY] at HP2' HS1;have JN:Hid _:=HN1;have JS:Hid _:=HS1;have JP:Hid _:=HP2';unfold svV at JS;clear HN1 HN1' HS1 HP2' ho HNr HPv HSv;go_upto_region 17 with (first|(go_at_call 78;refine(JN.out _ hb2 hPa).mono ?_;rintro e w3 ⟨a2,c2,rfl,hp2,hc2,hb3'⟩));have hb3:=hb2.trans (hb3'.mono hb2.size);clear hb3' hPa hb2 JN;go_upto_region 18 with (first|(go_at_call 33;refine(JS.out _ _ _ hp2 hc2).mono ?_;rintro e w4 ⟨a4,c4,rfl,hO4⟩));have al:=bA w4 (.cells #[.int .i64 cd,.int .i64 on,.slice a4 NY c4,.string oroot,.string ox,.string oy] 56);have nS:=heap_alloc_new w4 (.cells #[.int .i64 cd,.int .i64 on,.slice a4 NY c4,.string oroot,.string ox,.string oy] 56);have hb34:=hO4.bel.trans (al.mono hO4.bel.size);have hb5:=hb3.trans (hb34.mono hb3.size);have hSA:SArg a4 ys (w4.alloc (.cells #[.int .i64 cd,.int .i64 on,.slice a4 NY c4,.string oroot,.string ox,.string oy] 56)):=by
  have h1:=hO4;rw[<-hNY] at h1;exact(h1.sarg f1 (by omega) (by omega)).below al
 generalize w4.alloc (.cells #[.int .i64 cd,.int .i64 on,.slice a4 NY c4,.string oroot,.string ox,.string oy] 56)=w5 at nS hSA hb5⊢;obtain⟨gs,hgs⟩:∃g,w4.heap.size=g:=⟨_,rfl⟩;rw[hgs] at nS
 try rw[hgs]
 clear hgs al hO4 hb34 hp2 hb3 JS;have s1:=ZC nS 1;have s2:=ZC nS 2;have s3:=ZC nS 3;have ym:(q:Int).tmod 2=((q % 2:Nat):Int):=by rw[Int.tmod_eq_emod_of_nonneg (by omega)];omega
 go_upto_region 19 with (first|(go_at_call 12;refine(JP.out _ _ _ hSA).mono ?_;rintro e w6 ⟨rfl,hb6'⟩));have hb6:=hb5.trans (hb6'.mono hb5.size);have nS6:=qab hb6' nS;clear s1 s2 s3 nS hSA hb5 hb6' JP;have s3:=ZC nS6 3;rcases Nat.mod_two_eq_zero_or_one q with h2|h2
 ·rw[h2] at ym;have e0:(((0:Nat):Int) == 0)=true:=(by decide);go_wp2_with fail;exact bodyPost_ret (v:=.tuple #[.int .i64 (wd:Int),.string oroot,.string lo,.string hi,.string pf2]) (by simp[results,Tryz.results32,go_sem]) rfl ⟨_,_,_,_,_,rfl,by omega,by omega,by omega,hb6⟩
 ·rw[h2] at ym;have e0:(((1:Nat):Int) == 0)=false:=(by decide);go_wp2_with fail;exact bodyPost_ret (v:=.tuple #[.int .i64 (wd:Int),.string root,.string lo,.string hi,.string pf2]) (by simp[results,Tryz.results32,go_sem]) rfl ⟨_,_,_,_,_,rfl,by omega,by omega,by omega,hb6⟩
theorem dver_any (a:Option Addr)(xs:List Nat)(cap:Nat)(hX:Code8 xs)(w:World)(hB:BL a xs w)(HDg:Hid DigSaid):Calls prog 32 #[.slice a xs.length cap] w (DvG w):=by
 obtain⟨x,hx,HT⟩:=qaP a xs cap 0 12 hX (by omega) (by omega) (by omega);by_cases h5:x<=5
 ·exact dver_a a xs cap x hX w hB HDg ⟨h5,Nat.zero_le _⟩ HT
 by_cases h6:x=6
 ·exact dver_b a xs cap x hX w hB HDg ⟨h6,Nat.zero_le _⟩ HT
 by_cases h7:x=7
 ·exact dver_c a xs cap x hX w hB HDg ⟨h7,Nat.zero_le _⟩ HT
 by_cases h8:x=8
 ·exact dver_d a xs cap x hX w hB HDg ⟨h8,Nat.zero_le _⟩ HT
 by_cases h9:x=9
 ·exact dver_e a xs cap x hX w hB HDg ⟨h9,Nat.zero_le _⟩ HT
 by_cases h10:x=10
 ·exact dver_f a xs cap x hX w hB HDg ⟨h10,Nat.zero_le _⟩ HT
 by_cases h60:60<xs.length
 ·exact dver_g a xs cap x hX w hB HDg ⟨by omega,h60⟩ HT
 ·exact dver_h a xs cap x hX w hB HDg ⟨by omega,by omega⟩ HT
theorem law_fntamper (a:Option Addr)(xs:List Int)(c:Nat)(b:Option Addr)(ys:List Int)(d:Nat)(w:World)(_hl:xs.length<=maxLen)(hw:∀x ∈ xs,(Lit.int .u8 x).wf=true)(h:0<xs.length->∃b off:Nat,a=some ⟨b,off,none⟩/\b<w.heap.size/\∀j,j<xs.length->w.cell? ⟨b,off+j,none⟩=some (.int .u8 (xs.getD j 0)))(_hl2:ys.length<=maxLen)(hw2:∀x ∈ ys,(Lit.int .u8 x).wf=true)(h2:0<ys.length->∃b' off:Nat,b=some ⟨b',off,none⟩/\b'<w.heap.size/\∀j,j<ys.length->w.cell? ⟨b',off+j,none⟩=some (.int .u8 (ys.getD j 0)))(hK:∀j,j<64->w.cell? ⟨0,j,none⟩=some (.int .u32 ((kTab.getD j 0).toNat:Int))) : Calls prog 8 #[.slice a xs.length c,.slice b ys.length d] w λe w'=>e=.returned (.bool true)/\Below w.heap.size w w':=by
 by_cases g1:1048576<xs.length
 ·have z1:decide ((1048576:Int)<(xs.length:Int))=true:=(by simp;omega);clear hw h hK hw2 h2;go_enter func8,ntmps8;go_wp2_with fail;go_ret;exact⟨rfl,Below.refl _ _⟩
 by_cases g2:1048576<ys.length
 ·have z1:decide ((1048576:Int)<(xs.length:Int))=false:=(by simp;omega);have z2:decide ((1048576:Int)<(ys.length:Int))=true:=(by simp;omega);clear hw h hK hw2 h2;go_enter func8,ntmps8;go_wp2_with fail;go_ret;exact⟨rfl,Below.refl _ _⟩
 obtain⟨xs',hxl,hX,hB⟩:=BL.of (by omega) hw h;obtain⟨ys',hyl,hY,hC⟩:=BL.of (by omega) hw2 h2;rw[<-hxl,<-hyl];have hDg:Hid DigSaid:=λt k w' ht h1 h2=>qda t k w' ht h1 h2;obtain⟨ps,n,⟨hS,hn⟩,HDR'⟩:=droot_det b ys' d hY;have HDR:∀w',Below w.heap.size w w'->Calls prog 31 #[.slice b ys'.length d] w' (RtGot ps n w'):=λw' hb=>HDR' w' (hC.below hb);have HDV:∀w',Below w.heap.size w w'->Calls prog 32 #[.slice a xs'.length c] w' (DvG w'):=λw' hb=>dver_any a xs' c hX w' (hB.below hb) hDg;have hsP:SmallP ps:=hS.small (by omega);by_cases h40:40<ps.length
 ·exact tamper_many a xs'.length c b ys'.length d ps n w hX.le hY.le hK HDR HDV h40
 by_cases hRT:(rootS ps (n:Int)).size=0
 ·exact tamper_root a xs'.length c b ys'.length d ps n w hX.le hY.le hK HDR HDV (by omega) hRT
 have hmw:(isMapT ps && isW (n:Int))=true:=by
  cases hq:(isMapT ps && isW (n:Int)) with
  | true=>rfl
  | false =>
   exfalso;apply hRT;unfold rootS;rw[hq];rfl
 obtain⟨hm,hiw⟩:=(Bool.and_eq_true _ _).mp hmw;have hw32:1<=n/\n<=32:=by
  unfold isW at hiw;rw[Bool.and_eq_true,decide_eq_true_eq,decide_eq_true_eq] at hiw;omega
 have HSV:∀w' ap cp,PArg ap ps w'->ps.length<=cp->Calls prog 33 #[.agg #[.int .i64 (n:Int),.slice none 0 0],.slice ap ps.length cp] w' (SavedIs (saveO (n:Int) [] ps) w'):=λw' ap cp hp hc=>qce hDg (n:Int) none [] 0 ap ps cp w' ⟨Nat.zero_le _,λj=>Nat.zero_le _,λq=>absurd q (Nat.lt_irrefl _)⟩ (λj=>Nat.zero_le _) hp hc;have HIV:∀w' ap cp,PArg ap ps w'->KT w'->Calls prog 30 #[.agg #[.int .i64 (n:Int),.slice none 0 0],.slice ap ps.length cp] w' (SavedIs (saveO (n:Int) [] ps) w'):=λw' ap cp hp hk=>isave_any (λs w' hs hk=>ehash_any s w' hs hk) (n:Int) none [] 0 ap ps cp w' ⟨Nat.zero_le _,λj=>Nat.zero_le _,λq=>absurd q (Nat.lt_irrefl _)⟩ hp hk;rcases tam_facts n hw32.1 hw32.2 ps hm (by omega) with ⟨hcd,hos⟩|⟨ad,e,hos,hok⟩
 ·exact tamper_clash a xs'.length c b ys'.length d ps n w hX.le hY.le hK HDR HDV hsP (by omega) (by omega) (saveO (n:Int) [] ps) hos HSV HIV hcd
 ·rw[e] at HSV HIV;obtain⟨D,hdo,HD1,_,hde⟩:=qdh (n:Int);refine tamper_ok a xs'.length c b ys'.length d ps n w hX.le hY.le hK HDR HDV hsP (by omega) (by omega) _ hos HSV HIV rfl rfl ?_ ?_ ?_
  ·intro lo hi hlo hhi;obtain⟨HN,pt,q1,q2,q3,q4,q5⟩:=hok D (hdo n rfl) (hde n rfl) lo hi;refine⟨HN,pt,q1,q2,λw' ap cp hs hk=>?_,q4,q5⟩;have:=iprove_any (λs w' hs hk=>ehash_any s w' hs hk) D (n:Int) HD1 hdo ap ad cp (rootT n (cutTree ps)) lo hi w' hs hk (by have:=qax n hw32.2 (cutTree ps);omega);rw[Int.toNat_natCast,q3] at this;exact this
  ·have:=qax n hw32.2 (cutTree ps);show (rootT n (cutTree ps)).size<=32;omega
  ·exact λk w' hk hb=>pick_any b ys' d k hY hk w' (hC.below hb)
end Go.Proofs.YtibjhkpgaaapaaaGreatDoor
