import Derived.Test.YtibjhkpgaaapaaaGreatDoorZiag
import Derived.Laws.StructEq
import Derived.Test.YtibjhkpgaaapaaaGreatDoorZiaf
set_option maxRecDepth 100000
set_option maxHeartbeats 1000000
namespace Go.Proofs.YtibjhkpgaaapaaaGreatDoor
open Go.RowKit Go.Proofs.Sha Tryz
def IsEnc (s:ByteArray) (n:Int) (k v l r:ByteArray):Prop :=
 nodeOk k.size v.size l.size r.size n=true/\s=T (encL k.data.toList v.data.toList l.data.toList r.data.toList)
theorem qaY {k v l r:Nat}{n:Int}(h:nodeOk k v l r n=true):1<=n/\n<=32/\1<=k/\k<=256/\v<=2000/\(l=0\/(l:Int)=n)/\(r=0\/(r:Int)=n):=by
 simp only[nodeOk,hashOk,Bool.and_eq_true,Bool.or_eq_true,decide_eq_true_eq] at h;omega
theorem T_extract (l:List UInt8)(a b:Nat):(T l).extract a b=T ((l.drop a).take (b-a)):=ByteArray.extract_mk l a b
theorem T_list (l:List UInt8):(T l).data.toList=l:=rfl
theorem qcr (P K Q:List UInt8)(hK:K.length<65536):szAt (T (P++(sized K++Q))) P.length=K.length:=by
 unfold szAt sized;rw[T_list,zL,zL,List.getElem?_append_right (Nat.le_refl _),List.getElem?_append_right (Nat.le_add_right P.length 1)];simp only[Nat.sub_self,Nat.add_sub_cancel_left,List.cons_append,List.getElem?_cons_zero,List.getElem?_cons_succ,Option.getD_some];rw[UInt8.toNat_ofNat_of_lt' (by show _<256;omega),UInt8.toNat_ofNat_of_lt' (by show _<256;omega)];omega
theorem qbR (P K Q:List UInt8):(T (P++(sized K++Q))).extract (P.length+2) (P.length+2+K.length)=T K:=by
 rw[T_extract,<-List.drop_drop,List.drop_left];congr 1;simp[sized]
theorem qaq (K:List UInt8):(sized K).length=K.length+2:=rfl
theorem flag_odd (l r:Nat):(UInt8.ofNat (flagOf l r)).toNat=flagOf l r:=by
 unfold flagOf;rw[UInt8.toNat_ofNat_of_lt' (by show _<256;split <;> split <;> omega)]
theorem IsEnc.parts {s:ByteArray}{n:Int}{k v l r:ByteArray}(h:IsEnc s n k v l r) : 0+2+szAt s 0<=s.size/\k=s.extract (0+2) (0+2+szAt s 0) ∧ ∀a,a=0+2+szAt s 0->a+2+szAt s a<s.size/\v=s.extract (a+2) (a+2+szAt s a) ∧ ∀b,b=a+2+szAt s a->(s.data.toList.getD b 0).toNat=flagOf l.size r.size/\s.extract (b+1) s.size=l++r:=by
 obtain⟨hok,hs⟩:=h;have ho:=qaY hok;have hkl:k.data.toList.length=k.size:=rfl;have hvl:v.data.toList.length=v.size:=rfl;have e0:s=T ([]++(sized k.data.toList++(sized v.data.toList++([UInt8.ofNat (flagOf l.size r.size)]++(l.data.toList++r.data.toList))))):=by
  rw[hs];unfold encL;simp only[List.append_assoc,List.nil_append];rfl
 have e1:s=T (sized k.data.toList++(sized v.data.toList++([UInt8.ofNat (flagOf l.size r.size)]++(l.data.toList++r.data.toList)))):=e0;have e2:s=T ((sized k.data.toList++sized v.data.toList)++(UInt8.ofNat (flagOf l.size r.size) :: (l.data.toList++r.data.toList))):=by
  rw[e1,List.append_assoc];rfl
 have hz:s.size=2+k.size+(2+v.size)+1+(l.size+r.size):=by
  rw[e1,T_size];simp only[List.length_append,qaq,List.length_cons,List.length_nil,hkl,hvl];show k.size+2+(v.size+2+(0+1+(l.size+r.size)))=_;omega
 have s0:szAt s 0=k.size:=by rw[e0];exact qcr [] _ _ (by omega)
 refine⟨by omega,?_,?_⟩
 ·rw[s0]
  conv=>rhs;rw[e0]
  exact((qbR [] k.data.toList _).trans (T_of k)).symm
 ·intro a ha;have ha':a=(sized k.data.toList).length:=(by rw[qaq,hkl];omega);have s1:szAt s a=v.size:=(by rw[ha',e1];exact qcr _ _ _ (by omega));refine⟨by omega,?_,?_⟩
  ·rw[s1,ha']
   conv=>rhs;rw[e1]
   exact((qbR (sized k.data.toList) v.data.toList _).trans (T_of v)).symm
  ·intro b hb;have hb':b=(sized k.data.toList++sized v.data.toList).length:=(by rw[List.length_append,qaq,qaq,hkl,hvl];omega);constructor
   ·conv=>lhs;rw[e2]
    rw[T_list,hb',zL,List.getElem?_append_right (Nat.le_refl _),Nat.sub_self];exact flag_odd _ _
   ·rw[hz]
    conv=>lhs;rw[e2]
    rw[T_extract,hb',<-List.drop_drop,List.drop_left,List.drop_succ_cons,List.drop_zero,List.take_of_length_le,<-T_append,T_of,T_of];rw[List.length_append,List.length_append,qaq,qaq,hkl,hvl];show l.size+r.size<=_;omega
theorem flag_even (l r:Nat):flagOf l r % 2=1 ↔ l ≠ 0:=by
 unfold flagOf;split <;> split <;> omega
theorem ext_left (a b:ByteArray):(a++b).extract 0 a.size=a:=by
 rw[<-T_of a,<-T_of b,T_append,T_extract];congr 1;rw[T_size];simp
theorem ext_right (a b:ByteArray):(a++b).extract a.size (a++b).size=b:=by
 rw[<-T_of a,<-T_of b,T_append,T_extract];congr 1;rw[T_size,T_size,List.drop_left,List.take_of_length_le];rw[List.length_append];omega
theorem IsEnc.sides {s:ByteArray}{n:Int}{k v l r:ByteArray}(h:IsEnc s n k v l r){f:Nat}{q:ByteArray}(hf:f=flagOf l.size r.size)(hq:q=l++r) : (f % 2=1->n<=q.size/\l=q.extract 0 n.toNat/\r=q.extract n.toNat q.size)/\(¬ f % 2=1->l=⟨#[]⟩/\r=q):=by
 have ho:=qaY h.1;constructor
 ·intro h1;rw[hf,flag_even] at h1;have hn:n.toNat=l.size:=(by omega);refine⟨?_,?_,?_⟩
  ·rw[hq,ByteArray.size_append];omega
  ·rw[hn,hq,ext_left]
  ·rw[hn,hq,ext_right]
 ·intro h1;rw[hf,flag_even] at h1;have hl:l=⟨#[]⟩:=by
   have:l.data.size=0:=by show l.size=0;omega
   apply ByteArray.ext;exact Array.eq_empty_of_size_eq_zero this
  refine⟨hl,?_⟩;rw[hq,hl];exact(ByteArray.empty_append).symm
abbrev nodeV (k v l r:ByteArray):Value:=.agg #[.string k,.string v,.string l,.string r]
def decPost (s:ByteArray) (n:Int) (e:Ending):Prop :=
 (∃k v l r,IsEnc s n k v l r/\e=.returned (.tuple #[nodeV k v l r,.bool true])) ∨
 ((∀k v l r,¬ IsEnc s n k v l r)/\e=.returned (.tuple #[nodeV ⟨#[]⟩ ⟨#[]⟩ ⟨#[]⟩ ⟨#[]⟩,.bool false]))
structure NodeAt (w:World) (g:Nat) (k v l r:ByteArray):Prop where
 c0:w.cell? ⟨g,0,none⟩=some (.string k)
 c1:w.cell? ⟨g,1,none⟩=some (.string v)
 c2:w.cell? ⟨g,2,none⟩=some (.string l)
 c3:w.cell? ⟨g,3,none⟩=some (.string r)
 f0:w.frozen? ⟨g,0,none⟩=false
 f1:w.frozen? ⟨g,1,none⟩=false
 f2:w.frozen? ⟨g,2,none⟩=false
 f3:w.frozen? ⟨g,3,none⟩=false
theorem NodeAt.lt {w:World}{g:Nat}{k v l r:ByteArray}(h:NodeAt w g k v l r):g<w.heap.size:=World.block_lt_of_cell? w _ h.c0
theorem NodeAt.below {w w':World}{g B:Nat}{k v l r:ByteArray}(h:NodeAt w g k v l r)(hb:Below B w w')(hg:g<B):NodeAt w' g k v l r :=
 ⟨(hb.cell hg).trans h.c0,(hb.cell hg).trans h.c1,(hb.cell hg).trans h.c2,(hb.cell hg).trans h.c3,(hb.frozen hg).trans h.f0,(hb.frozen hg).trans h.f1,(hb.frozen hg).trans h.f2,(hb.frozen hg).trans h.f3⟩
theorem NodeAt.mk4 (w:World)(k v l r:ByteArray):NodeAt (w.alloc (.cells #[.string k,.string v,.string l,.string r] 73)) w.heap.size k v l r:=by
 constructor <;> simp
theorem NodeAt.s0 {w:World}{g:Nat}{k v l r:ByteArray}(h:NodeAt w g k v l r)(x:ByteArray):NodeAt (w.setCell ⟨g,0,none⟩ (.string x)) g x v l r:=by
 refine⟨World.cell?_setCell_same _ _ _ h.c0,?_,?_,?_,?_,?_,?_,?_⟩
 ·rw[qak _ _ _ _ _ (by omega)];exact h.c1
 ·rw[qak _ _ _ _ _ (by omega)];exact h.c2
 ·rw[qak _ _ _ _ _ (by omega)];exact h.c3
 all_goals rw[World.frozen?_setCell]
 ·exact h.f0
 ·exact h.f1
 ·exact h.f2
 ·exact h.f3
theorem NodeAt.s1 {w:World}{g:Nat}{k v l r:ByteArray}(h:NodeAt w g k v l r)(x:ByteArray):NodeAt (w.setCell ⟨g,1,none⟩ (.string x)) g k x l r:=by
 refine⟨?_,World.cell?_setCell_same _ _ _ h.c1,?_,?_,?_,?_,?_,?_⟩
 ·rw[qak _ _ _ _ _ (by omega)];exact h.c0
 ·rw[qak _ _ _ _ _ (by omega)];exact h.c2
 ·rw[qak _ _ _ _ _ (by omega)];exact h.c3
 all_goals rw[World.frozen?_setCell]
 ·exact h.f0
 ·exact h.f1
 ·exact h.f2
 ·exact h.f3
theorem NodeAt.s2 {w:World}{g:Nat}{k v l r:ByteArray}(h:NodeAt w g k v l r)(x:ByteArray):NodeAt (w.setCell ⟨g,2,none⟩ (.string x)) g k v x r:=by
 refine⟨?_,?_,World.cell?_setCell_same _ _ _ h.c2,?_,?_,?_,?_,?_⟩
 ·rw[qak _ _ _ _ _ (by omega)];exact h.c0
 ·rw[qak _ _ _ _ _ (by omega)];exact h.c1
 ·rw[qak _ _ _ _ _ (by omega)];exact h.c3
 all_goals rw[World.frozen?_setCell]
 ·exact h.f0
 ·exact h.f1
 ·exact h.f2
 ·exact h.f3
theorem NodeAt.s3 {w:World}{g:Nat}{k v l r:ByteArray}(h:NodeAt w g k v l r)(x:ByteArray):NodeAt (w.setCell ⟨g,3,none⟩ (.string x)) g k v l x:=by
 refine⟨?_,?_,?_,World.cell?_setCell_same _ _ _ h.c3,?_,?_,?_,?_⟩
 ·rw[qak _ _ _ _ _ (by omega)];exact h.c0
 ·rw[qak _ _ _ _ _ (by omega)];exact h.c1
 ·rw[qak _ _ _ _ _ (by omega)];exact h.c2
 all_goals rw[World.frozen?_setCell]
 ·exact h.f0
 ·exact h.f1
 ·exact h.f2
 ·exact h.f3
theorem NodeAt.set4 {w:World}{g:Nat}{k v l r:ByteArray}(h:NodeAt w g k v l r)(k' v' l' r':ByteArray) :
 NodeAt ((((w.setCell ⟨g,0,none⟩ (.string k')).setCell ⟨g,1,none⟩ (.string v')).setCell ⟨g,2,none⟩ (.string l')).setCell ⟨g,3,none⟩ (.string r')) g k' v' l' r' :=
 (((h.s0 k').s1 v').s2 l').s3 r'
theorem NodeAt.ret {w:World}{g:Nat}{k v l r:ByteArray}(h:NodeAt w g k v l r){a:Act}{R:Ending->World->Prop}(b:Bool)(h4:a.tmps.getD 4 undef=.pointer (some ⟨g,0,none⟩))(h5:a.tmps.getD 5 undef=.bool b)(hd:a.defers=[])(hR:R (.returned (.tuple #[nodeV k v l r,.bool b])) w):bodyPost prog Tryz.f146 R .ret a w:=by
 obtain⟨c0,c1,c2,c3,f0,f1,f2,f3⟩:=h;have h4':a.tmps[4]?.getD undef=.pointer (some ⟨g,0,none⟩):=by simpa using h4
 have h5':a.tmps[5]?.getD undef=.bool b:=by simpa using h5
 exact bodyPost_ret (v:=.tuple #[nodeV k v l r,.bool b]) (by simp[results,Tryz.results146,go_sem,h4',h5',asAddr,c0,c1,c2,c3]) hd hR
theorem dec1 (s:ByteArray)(n:Int)(w:World)(H:Hid (∀w',Calls prog 138 #[.string s,.int .i64 0] w' λe w''=>e=.returned (.tuple #[.string ⟨#[]⟩,.int .i64 0,.bool false])/\Below w'.heap.size w' w''))(HN:Hid (∀k v l r,¬ IsEnc s n k v l r)) : Calls prog 146 #[.string s,.int .i64 n] w λe w'=>decPost s n e/\Below w.heap.size w w':=by
 go_enter func146,ntmps146;go_wp2_with fail;refine(H.out _).mono ?_;rintro e w1 ⟨rfl,hb1⟩;have hN:=(NodeAt.mk4 w ⟨#[]⟩ ⟨#[]⟩ ⟨#[]⟩ ⟨#[]⟩).below hb1 (by simp);have hbw:Below w.heap.size w w1:=((Below.refl _ _).alloc (Nat.le_refl _) _).trans (hb1.mono (by simp));obtain⟨c0,c1,c2,c3,f0,f1,f2,f3⟩:=id hN;go_wp2_with fail;refine(hN.set4 ⟨#[]⟩ ⟨#[]⟩ ⟨#[]⟩ ⟨#[]⟩).ret false rfl rfl rfl ⟨.inr ⟨HN.out,rfl⟩,(((hbw.setCell ?_ _).setCell ?_ _).setCell ?_ _).setCell ?_ _⟩ <;> exact Nat.le_refl _
def encS (k v l r:ByteArray) (n:Int):ByteArray:=if nodeOk k.size v.size l.size r.size n=true then T (encL k.data.toList v.data.toList l.data.toList r.data.toList) else ⟨#[]⟩
theorem enc_any (k v l r:ByteArray)(n:Int)(w:World)(hk:k.size<=1048576)(hv:v.size<=1048576)(hl:l.size<=1048576)(hr:r.size<=1048576) : Calls prog 40 #[nodeV k v l r,.int .i64 n] w λe w'=>∃t,e=.returned (.string t)/\Hid (t=encS k v l r n)/\Below w.heap.size w w':=by
 by_cases h:nodeOk k.size v.size l.size r.size n=true
 ·exact(enc_yes k v l r n w hk hv hl hr h).mono λe w' ⟨he,hb⟩=>⟨_,he,by show _=encS k v l r n;rw[encS,if_pos h],hb⟩
 ·exact(enc_no k v l r n w hk hv hl hr (by simpa using h)).mono λe w' ⟨he,hb⟩=>⟨_,he,by show _=encS k v l r n;rw[encS,if_neg h],hb⟩
theorem encS_is {s k v l r:ByteArray}{n:Int}(hs:0<s.size):encS k v l r n=s ↔ IsEnc s n k v l r:=by
 unfold encS IsEnc;constructor
 ·intro h
  split at h
  ·exact⟨by assumption,h.symm⟩
  ·subst h;cases hs
 ·intro h;rw[if_pos h.1,<-h.2]
theorem str_ne {t s:ByteArray}(h:¬ t=s):(t.toList == s.toList)=false:=by
 rw[ByteArray.toList_eq,ByteArray.toList_eq,beq_eq_false_iff_ne];intro e;exact h ((T_of t).symm.trans ((congrArg T e).trans (T_of s)))
theorem qaw (s:ByteArray)(a b:Nat):(s.extract a b).size<=s.size:=by
 rw[<-T_of s,T_extract,T_size,T_size,List.length_take,List.length_drop];omega
theorem dec2 (s:ByteArray)(n:Int)(w:World)(hs:s.size<=1048576)(h1:0+2+szAt s 0<=s.size)(h2:s.size<=0+2+szAt s 0+2+szAt s (0+2+szAt s 0)) : Calls prog 146 #[.string s,.int .i64 n] w λe w'=>decPost s n e/\Below w.heap.size w w':=by
 have HN:Hid (∀k v l r,¬ IsEnc s n k v l r):=λk v l r h=>by
  have:=(h.parts.2.2 _ rfl).1;omega
 go_enter func146,ntmps146;go_wp2_with fail;refine(qdb s 0 _ hs h1).mono ?_;rintro e w1 ⟨k0,rfl,Hk,hb1⟩;have hN:=(NodeAt.mk4 w ⟨#[]⟩ ⟨#[]⟩ ⟨#[]⟩ ⟨#[]⟩).below hb1 (by simp);have hbw:Below w.heap.size w w1:=((Below.refl _ _).alloc (Nat.le_refl _) _).trans (hb1.mono (by simp));clear hb1;obtain⟨a,ha⟩:=eX (0+2+szAt s 0);rw[ha] at h1 h2 Hk⊢;go_wp2_with fail;have HP:Hid (∀w',Calls prog 138 #[.string s,.int .i64 (a:Int)] w' λe w''=>(∃t b g,e=.returned (.tuple #[.string t,.int .i64 b,.bool g])/\(g=false\/(s.size:Int)<=b))/\Below w'.heap.size w' w''):=λw'=>by
  by_cases q1:s.size<a+2
  ·exact(qcE s a w' hs (by omega) q1).mono λe w'' ⟨he,hb⟩=>⟨⟨_,_,_,he,.inl rfl⟩,hb⟩
  by_cases q2:s.size<a+2+szAt s a
  ·exact(qdk s a w' hs (by omega) q2).mono λe w'' ⟨he,hb⟩=>⟨⟨_,_,_,he,.inl rfl⟩,hb⟩
  exact(qdb s a w' hs (by omega)).mono λe w'' ⟨t,he,_,hb⟩=>⟨⟨t,_,_,he,.inr (by omega)⟩,hb⟩
 refine(HP.out _).mono ?_;rintro e w2 ⟨⟨v0,b,g,rfl,hg⟩,hb2⟩;have hN2:=hN.below hb2 hN.lt;have hbw2:Below w.heap.size w w2:=hbw.trans (hb2.mono (Nat.le_of_lt hN.lt));obtain⟨c0,c1,c2,c3,f0,f1,f2,f3⟩:=id hN2;rcases hg with rfl|hg
 ·go_wp2_with fail;refine(hN2.set4 ⟨#[]⟩ ⟨#[]⟩ ⟨#[]⟩ ⟨#[]⟩).ret false rfl rfl rfl ⟨.inr ⟨HN.out,rfl⟩,(((hbw2.setCell ?_ _).setCell ?_ _).setCell ?_ _).setCell ?_ _⟩ <;> exact Nat.le_refl _
 ·cases g
  ·go_wp2_with fail;refine(hN2.set4 ⟨#[]⟩ ⟨#[]⟩ ⟨#[]⟩ ⟨#[]⟩).ret false rfl rfl rfl ⟨.inr ⟨HN.out,rfl⟩,(((hbw2.setCell ?_ _).setCell ?_ _).setCell ?_ _).setCell ?_ _⟩ <;> exact Nat.le_refl _
  ·have z0:decide ((s.size:Int)<=b)=true:=(by simpa using hg);go_wp2_with fail;refine(hN2.set4 ⟨#[]⟩ ⟨#[]⟩ ⟨#[]⟩ ⟨#[]⟩).ret false rfl rfl rfl ⟨.inr ⟨HN.out,rfl⟩,(((hbw2.setCell ?_ _).setCell ?_ _).setCell ?_ _).setCell ?_ _⟩ <;> exact Nat.le_refl _
theorem dec3 (s:ByteArray)(n:Int)(w:World)(hs:s.size<=1048576)(h1:0+2+szAt s 0<=s.size)(h2:0+2+szAt s 0+2+szAt s (0+2+szAt s 0)<s.size) : Calls prog 146 #[.string s,.int .i64 n] w λe w'=>decPost s n e/\Below w.heap.size w w':=by
 have HP:Hid (∀k v l r,IsEnc s n k v l r->k=s.extract (0+2) (0+2+szAt s 0)/\∀a,a=0+2+szAt s 0->v=s.extract (a+2) (a+2+szAt s a)/\∀b,b=a+2+szAt s a->∀q,q=s.extract (b+1) s.size →
  ((s.data.toList.getD b 0).toNat % 2=1->n<=q.size/\l=q.extract 0 n.toNat/\r=q.extract n.toNat q.size)/\(¬ (s.data.toList.getD b 0).toNat % 2=1->l=⟨#[]⟩/\r=q)):=λk v l r h=>by
  obtain⟨_,p1,p2⟩:=h.parts;refine⟨p1,λa ha=>?_⟩;obtain⟨_,p3,p4⟩:=p2 a ha;refine⟨p3,λb hb q hq=>?_⟩;obtain⟨p5,p6⟩:=p4 b hb;exact h.sides p5 (hq.trans p6)
 go_enter func146,ntmps146;go_wp2_with fail;refine(qdb s 0 _ hs h1).mono ?_;rintro e w1 ⟨k0,rfl,Hk,hb1⟩;have hN:=(NodeAt.mk4 w ⟨#[]⟩ ⟨#[]⟩ ⟨#[]⟩ ⟨#[]⟩).below hb1 (by simp);have hbw:Below w.heap.size w w1:=((Below.refl _ _).alloc (Nat.le_refl _) _).trans (hb1.mono (by simp));clear hb1;obtain⟨a,ha⟩:=eX (0+2+szAt s 0);rw[ha] at h1 h2 Hk HP⊢;clear ha;go_wp2_with fail;refine(qdb s a _ hs (by omega)).mono ?_;rintro e w2 ⟨v0,rfl,Hv,hb2⟩;have hN2:=hN.below hb2 hN.lt;have hbw2:Below w.heap.size w w2:=hbw.trans (hb2.mono (Nat.le_of_lt hN.lt));clear hb2 hN hbw;obtain⟨b,hb⟩:=eX (a+2+szAt s a);have HB:Hid (b=a+2+szAt s a):=hb.symm;rw[hb] at h2 Hv⊢;clear hb;obtain⟨c0,c1,c2,c3,f0,f1,f2,f3⟩:=id hN2;have z0:decide ((s.size:Int)<=(b:Int))=false:=by simp;omega
 by_cases hn:1<=n/\n<=32
 ·have z1:decide (1<=n)=true:=(by simpa using hn.1);have z2:decide (n<=32)=true:=(by simpa using hn.2);have z3:IntKind.i64.wrap ((b:Int)+1)=(b:Int)+1:=qaf _ (by omega) (by omega);have z4:(0:Int)<=(b:Int)+1:=(by omega);have z5:(b:Int)+1<=(s.size:Int):=(by omega);have z6:(0:Int)<=(b:Int):=(by omega);have z7:(b:Int)<(s.size:Int):=(by omega);have hN3:NodeAt (w2.alloc (.cells #[.string k0,.string v0,.string ⟨#[]⟩,.string ⟨#[]⟩] 73)) w.heap.size ⟨#[]⟩ ⟨#[]⟩ ⟨#[]⟩ ⟨#[]⟩:=hN2.below ((Below.refl _ _).alloc (Nat.le_refl _) _) hN2.lt;have hb3:Below w.heap.size w (w2.alloc (.cells #[.string k0,.string v0,.string ⟨#[]⟩,.string ⟨#[]⟩] 73)):=hbw2.alloc (Nat.le_of_lt hN2.lt) _;by_cases hp:(s[b]'h2).toNat % 2=1
  ·have p0:(((s[b]'h2).toNat:Int) % 2 == 1)=true:=(by rw[beq_iff_eq];omega);by_cases hq:((s.size-(b+1):Nat):Int)<n
   ·have p1:decide (((s.size-(b+1):Nat):Int)<n)=true:=(by simpa using hq);obtain⟨d0,d1,d2,d3,g0,g1,g2,g3⟩:=id hN3;have HNo:Hid (∀k v l r,¬ IsEnc s n k v l r):=λk v l r h=>by
     have h5:=(((HP.out k v l r h).2 a rfl).2 b HB.out _ rfl).1 (by rw[<-bget s b h2];exact hp);have h6:=h5.1;rw[ByteArray.size_extract] at h6;omega
    go_wp2_with (first|(go_at_call 63;go_in)|fail);refine(hN3.set4 ⟨#[]⟩ ⟨#[]⟩ ⟨#[]⟩ ⟨#[]⟩).ret false rfl rfl rfl ⟨.inr ⟨HNo.out,rfl⟩,(((hb3.setCell ?_ _).setCell ?_ _).setCell ?_ _).setCell ?_ _⟩ <;> exact Nat.le_refl _
   ·have p1:decide (((s.size-(b+1):Nat):Int)<n)=false:=(by simpa using hq);have p2:(0:Int)<=n:=(by omega);have p3:n<=((s.size-(b+1):Nat):Int):=(by omega);go_wp2_with (first|(go_at_call 63;go_in)|fail);have HU:Hid (∀k v l r,IsEnc s n k v l r->k=k0/\v=v0/\l=(s.extract (b+1) s.size).extract 0 n.toNat/\r=(s.extract (b+1) s.size).extract n.toNat (s.size-(b+1))):=λk v l r h=>by
     have h5:=(((HP.out k v l r h).2 a rfl).2 b HB.out _ rfl).1 (by rw[<-bget s b h2];exact hp);have e:(s.extract (b+1) s.size).size=s.size-(b+1):=(by rw[ByteArray.size_extract];omega);rw[e] at h5;refine⟨(HP.out k v l r h).1.trans Hk.out.symm,((HP.out k v l r h).2 a rfl).1.trans ?_,h5.2.1,h5.2.2⟩;rw[<-HB.out];exact Hv.out.symm
    have hz3:((s.extract (b+1) s.size).extract 0 n.toNat).size<=1048576:=Nat.le_trans (qaw _ _ _) (Nat.le_trans (qaw _ _ _) hs);have hz4:((s.extract (b+1) s.size).extract n.toNat (s.size-(b+1))).size<=1048576:=Nat.le_trans (qaw _ _ _) (Nat.le_trans (qaw _ _ _) hs);generalize (s.extract (b+1) s.size).extract 0 n.toNat=l0 at HU hz3⊢;generalize (s.extract (b+1) s.size).extract n.toNat (s.size-(b+1))=r0 at HU hz4⊢;have hz1:k0.size<=1048576:=(by rw[Hk.out];exact Nat.le_trans (qaw _ _ _) hs);have hz2:v0.size<=1048576:=(by rw[Hv.out];exact Nat.le_trans (qaw _ _ _) hs);refine(enc_any k0 v0 l0 r0 n _ hz1 hz2 hz3 hz4).mono ?_;rintro e w3 ⟨t,rfl,Ht,hb4⟩;have hA:NodeAt w3 w2.heap.size k0 v0 l0 r0:=(NodeAt.mk4 w2 k0 v0 l0 r0).below hb4 (by simp);have hB:NodeAt w3 w.heap.size ⟨#[]⟩ ⟨#[]⟩ ⟨#[]⟩ ⟨#[]⟩:=(hN2.below ((Below.refl _ _).alloc (Nat.le_refl _) _) hN2.lt).below hb4 (by have:=hN2.lt;simp;omega);have hb5:Below w.heap.size w w3:=(hbw2.alloc (Nat.le_of_lt hN2.lt) _).trans (hb4.mono (by have:=hN2.lt;simp;omega));clear hN3 hb3 hN2 hbw2 hb4 c0 c1 c2 c3 f0 f1 f2 f3;obtain⟨c0,c1,c2,c3,f0,f1,f2,f3⟩:=id hB;obtain⟨d0,d1,d2,d3,g0,g1,g2,g3⟩:=id hA;by_cases ht:t=s
    ·have HI:Hid (IsEnc s n k0 v0 l0 r0):=(encS_is (by omega)).1 (Ht.out.symm.trans ht);have y0:(t.toList == s.toList)=true:=(by rw[ht];simp);clear Ht ht;go_wp2_with fail;refine(hB.set4 k0 v0 l0 r0).ret true rfl rfl rfl ⟨.inl ⟨k0,v0,l0,r0,HI.out,rfl⟩,(((hb5.setCell ?_ _).setCell ?_ _).setCell ?_ _).setCell ?_ _⟩ <;> exact Nat.le_refl _
    ·have HNo:Hid (∀k v l r,¬ IsEnc s n k v l r):=λk v l r h=>by
      obtain⟨e1,e2,e3,e4⟩:=HU.out k v l r h;subst e1 e2 e3 e4;exact ht (Ht.out.trans ((encS_is (by omega)).2 h))
     have y0:(t.toList == s.toList)=false:=str_ne ht;clear Ht ht;go_wp2_with fail;refine(hB.set4 ⟨#[]⟩ ⟨#[]⟩ ⟨#[]⟩ ⟨#[]⟩).ret false rfl rfl rfl ⟨.inr ⟨HNo.out,rfl⟩,(((hb5.setCell ?_ _).setCell ?_ _).setCell ?_ _).setCell ?_ _⟩ <;> exact Nat.le_refl _
  ·have p0:(((s[b]'h2).toNat:Int) % 2 == 1)=false:=(by rw[beq_eq_false_iff_ne];omega);go_wp2_with (first|(go_at_call 63;go_in)|fail);have HU:Hid (∀k v l r,IsEnc s n k v l r->k=k0/\v=v0/\l=⟨#[]⟩/\r=s.extract (b+1) s.size):=λk v l r h=>by
    have h5:=(((HP.out k v l r h).2 a rfl).2 b HB.out _ rfl).2 (by rw[<-bget s b h2];exact hp);refine⟨(HP.out k v l r h).1.trans Hk.out.symm,((HP.out k v l r h).2 a rfl).1.trans ?_,h5.1,h5.2⟩;rw[<-HB.out];exact Hv.out.symm
   have hz3:(ByteArray.mk #[]).size<=1048576:=Nat.zero_le _;have hz4:(s.extract (b+1) s.size).size<=1048576:=Nat.le_trans (qaw _ _ _) hs;generalize s.extract (b+1) s.size=r0 at HU hz4⊢;have hz1:k0.size<=1048576:=(by rw[Hk.out];exact Nat.le_trans (qaw _ _ _) hs);have hz2:v0.size<=1048576:=(by rw[Hv.out];exact Nat.le_trans (qaw _ _ _) hs);refine(enc_any k0 v0 ⟨#[]⟩ r0 n _ hz1 hz2 hz3 hz4).mono ?_;rintro e w3 ⟨t,rfl,Ht,hb4⟩;have hA:NodeAt w3 w2.heap.size k0 v0 ⟨#[]⟩ r0:=(NodeAt.mk4 w2 k0 v0 ⟨#[]⟩ r0).below hb4 (by simp);have hB:NodeAt w3 w.heap.size ⟨#[]⟩ ⟨#[]⟩ ⟨#[]⟩ ⟨#[]⟩:=(hN2.below ((Below.refl _ _).alloc (Nat.le_refl _) _) hN2.lt).below hb4 (by have:=hN2.lt;simp;omega);have hb5:Below w.heap.size w w3:=(hbw2.alloc (Nat.le_of_lt hN2.lt) _).trans (hb4.mono (by have:=hN2.lt;simp;omega));clear hN3 hb3 hN2 hbw2 hb4 c0 c1 c2 c3 f0 f1 f2 f3;obtain⟨c0,c1,c2,c3,f0,f1,f2,f3⟩:=id hB;obtain⟨d0,d1,d2,d3,g0,g1,g2,g3⟩:=id hA;by_cases ht:t=s
   ·have HI:Hid (IsEnc s n k0 v0 ⟨#[]⟩ r0):=(encS_is (by omega)).1 (Ht.out.symm.trans ht);have y0:(t.toList == s.toList)=true:=(by rw[ht];simp);clear Ht ht;go_wp2_with fail;refine(hB.set4 k0 v0 ⟨#[]⟩ r0).ret true rfl rfl rfl ⟨.inl ⟨k0,v0,⟨#[]⟩,r0,HI.out,rfl⟩,(((hb5.setCell ?_ _).setCell ?_ _).setCell ?_ _).setCell ?_ _⟩ <;> exact Nat.le_refl _
   ·have HNo:Hid (∀k v l r,¬ IsEnc s n k v l r):=λk v l r h=>by
     obtain⟨e1,e2,e3,e4⟩:=HU.out k v l r h;subst e1 e2 e4;subst e3;exact ht (Ht.out.trans ((encS_is (by omega)).2 h))
    have y0:(t.toList == s.toList)=false:=str_ne ht;clear Ht ht;go_wp2_with fail;refine(hB.set4 ⟨#[]⟩ ⟨#[]⟩ ⟨#[]⟩ ⟨#[]⟩).ret false rfl rfl rfl ⟨.inr ⟨HNo.out,rfl⟩,(((hb5.setCell ?_ _).setCell ?_ _).setCell ?_ _).setCell ?_ _⟩ <;> exact Nat.le_refl _
 ·have HNo:Hid (∀k v l r,¬ IsEnc s n k v l r):=λk v l r h=>by
   have:=qaY h.1;omega
  by_cases hn1:1<=n
  ·have z1:decide (1<=n)=true:=(by simpa using hn1);have z2:decide (n<=32)=false:=(by simp;omega);go_wp2_with go_in;refine(hN2.set4 ⟨#[]⟩ ⟨#[]⟩ ⟨#[]⟩ ⟨#[]⟩).ret false rfl rfl rfl ⟨.inr ⟨HNo.out,rfl⟩,(((hbw2.setCell ?_ _).setCell ?_ _).setCell ?_ _).setCell ?_ _⟩ <;> exact Nat.le_refl _
  ·have z1:decide (1<=n)=false:=(by simpa using hn1);go_wp2_with go_in;refine(hN2.set4 ⟨#[]⟩ ⟨#[]⟩ ⟨#[]⟩ ⟨#[]⟩).ret false rfl rfl rfl ⟨.inr ⟨HNo.out,rfl⟩,(((hbw2.setCell ?_ _).setCell ?_ _).setCell ?_ _).setCell ?_ _⟩ <;> exact Nat.le_refl _
theorem dec_any (s:ByteArray)(n:Int)(w:World)(hs:s.size<=1048576) : Calls prog 146 #[.string s,.int .i64 n] w λe w'=>decPost s n e/\Below w.heap.size w w':=by
 by_cases h0:s.size<0+2
 ·exact dec1 s n w (λw'=>qcE s 0 w' hs (by omega) h0) λk v l r h=>by have:=h.parts.1;omega
 by_cases h1:s.size<0+2+szAt s 0
 ·exact dec1 s n w (λw'=>qdk s 0 w' hs (by omega) h1) λk v l r h=>by have:=h.parts.1;omega
 by_cases h2:0+2+szAt s 0+2+szAt s (0+2+szAt s 0)<s.size
 ·exact dec3 s n w hs (by omega) h2
 ·exact dec2 s n w hs (by omega) (by omega)
theorem qbF (l:ByteArray)(n:Int)(w:World)(_hl:l.size<=1048576) : Calls prog 95 #[.string l,.int .i64 n] w λe w'=>e=.returned (.bool (hashOk l.size n))/\w=w':=by
 have e1:=qde l;by_cases h1:l.size=0
 ·have e2:l.toList.isEmpty=true:=(by rw[e1,h1];rfl);have HR:Hid (hashOk l.size n=true):=(by show _=_;unfold hashOk;rw[h1];rfl);clear e1 h1;go_enter func95,ntmps95;go_wp2;go_ret;rw[HR.out];exact⟨rfl,rfl⟩
 ·have e2:l.toList.isEmpty=false:=(by rw[e1];simp[h1]);by_cases h2:(l.size:Int)=n
  ·have HR:Hid (hashOk l.size n=true):=(by show _=_;unfold hashOk;simp[h2]);have z:((l.size:Int) == n)=true:=(by simp[h2]);clear e1 h1 h2;go_enter func95,ntmps95;go_wp2;go_ret;rw[HR.out];exact⟨rfl,rfl⟩
  ·have HR:Hid (hashOk l.size n=false):=(by show _=_;unfold hashOk;simp[h1,h2]);have z:((l.size:Int) == n)=false:=(by simp[h2]);clear e1 h1 h2;go_enter func95,ntmps95;go_wp2;go_ret;rw[HR.out];exact⟨rfl,rfl⟩
theorem valid_any (k v l r:ByteArray)(n:Int)(w:World)(_hk:k.size<=1048576)(_hv:v.size<=1048576)(hl:l.size<=1048576)(hr:r.size<=1048576) : Calls prog 193 #[.agg #[.string k,.string v,.string l,.string r],.int .i64 n] w λe w'=>e=.returned (.bool (nodeOk k.size v.size l.size r.size n))/\Below w.heap.size w w':=by
 obtain⟨x,hx⟩:=eX (hashOk l.size n);obtain⟨y,hy⟩:=eX (hashOk r.size n);have HX:Hid (∀w',Calls prog 95 #[.string l,.int .i64 n] w' λe w''=>e=.returned (.bool x)/\w'=w''):=λw'=>by rw[<-hx];exact qbF l n w' hl
 have HY:Hid (∀w',Calls prog 95 #[.string r,.int .i64 n] w' λe w''=>e=.returned (.bool y)/\w'=w''):=λw'=>by rw[<-hy];exact qbF r n w' hr
 have HR:Hid (nodeOk k.size v.size l.size r.size n=(decide (1<=n/\n<=32/\1<=k.size/\k.size<=256/\v.size<=2000) && (x && y))):=by show _=_;unfold nodeOk;rw[hx,hy]
 clear hx hy;obtain⟨z,hz⟩:=eX (nodeOk k.size v.size l.size r.size n);rw[hz] at HR⊢;clear hz;have hfin:=bA w (.cells #[.string k,.string v,.string l,.string r] 73);go_enter func193,ntmps193;go_wp2_with (first|(go_at_call_of 95 (Value.string l);refine(HX.out _).mono ?_;rintro e w3 ⟨rfl,rfl⟩)|(go_at_call_of 95 (Value.string r);refine(HY.out _).mono ?_;rintro e w4 ⟨rfl,rfl⟩)|go_in)
 all_goals go_ret
 all_goals refine⟨?_,hfin⟩
 all_goals rw[HR.out]
 all_goals clear HX HY HR
 all_goals first
  | (have e:¬ (1<=n/\n<=32/\1<=k.size/\k.size<=256/\v.size<=2000):=(by omega);rw[decide_eq_false e];rfl)
  | (have e:1<=n/\n<=32/\1<=k.size/\k.size<=256/\v.size<=2000:=(by omega);rw[decide_eq_true e];cases x <;> simp_all)
theorem wR42 (n:Int)(k v l r:ByteArray)(b:Nat)(q m:List UInt8)(w:World)(h:Bld b q w)(HC:Hid (∀w',Bld b q w'->Calls prog 246 #[.agg #[.int .i64 n],.pointer (some ⟨b,0,none⟩),.agg #[.string k,.string v,.string l,.string r]] w' λe w''=>e=.returned (.tuple #[])/\Put b m w' w'')) : Calls prog 200 #[.pointer (some ⟨b,0,none⟩),.iface 285 (.agg #[.int .i64 n]),.agg #[.string k,.string v,.string l,.string r]] w λe w'=>e=.returned (.tuple #[])/\Put b m w w':=by
 have hmt : ∀ w : World, (method 427 285 (.agg #[.int .i64 n]) "loop.example/s03048/impl.put").run prog w = .ok (246, .agg #[.int .i64 n]) w := fun _ => by kernel_rfl
 go_enter func200,ntmps200;go_wp2_with (first|(go_at_call 246;refine(HC.out _ (h.alloc _)).mono ?_;rintro e w2 ⟨rfl,hp2⟩));go_end0;exact⟨rfl,((Put.refl h).alloc _).trans hp2⟩
theorem written_N (n:Int)(k v l r:ByteArray)(m:List UInt8)(w:World)(HC:Hid (∀b w',Bld b [] w'->Calls prog 200 #[.pointer (some ⟨b,0,none⟩),.iface 285 (.agg #[.int .i64 n]),.agg #[.string k,.string v,.string l,.string r]] w' λe w''=>e=.returned (.tuple #[])/\Put b m w' w'')) : Calls prog 194 #[.iface 285 (.agg #[.int .i64 n]),.agg #[.string k,.string v,.string l,.string r]] w λe w'=>∃t:ByteArray,e=.returned (.string t)/\Hid (t.data.toList=m)/\Below w.heap.size w w':=by
 go_enter func194,ntmps194;go_wp2_with (first|(go_at_call 200;refine(HC.out (w.heap.size+1) _ (fresh_bld1 w _)).mono ?_;rintro e w2 ⟨rfl,hp2⟩)|(go_at_call 114;refine(bstring _ _ _ hp2.1).mono ?_;rintro e w3 ⟨rfl,hb3⟩));go_ret;exact⟨_,rfl,rfl,((((Below.refl _ _).alloc (Nat.le_refl _) _).alloc (by simp) _).trans (hp2.2.1.mono (by omega))).trans (hb3.mono (by omega))⟩
theorem of_list {t:ByteArray}{l:List UInt8}(h:t.data.toList=l):t=T l:=by rw[<-h,T_of]
theorem enc_impl (k v l r:ByteArray)(n:Int)(w:World)(hk:k.size<=1048576)(hv:v.size<=1048576)(hl:l.size<=1048576)(hr:r.size<=1048576) : Calls prog 186 #[.agg #[.string k,.string v,.string l,.string r],.int .i64 n] w λe w'=>∃t,e=.returned (.string t)/\Hid (t=encS k v l r n)/\Below w.heap.size w w':=by
 obtain⟨z,hz⟩:=eX (nodeOk k.size v.size l.size r.size n);have HV:Hid (∀w',Calls prog 193 #[.agg #[.string k,.string v,.string l,.string r],.int .i64 n] w' λe w''=>e=.returned (.bool z)/\Below w'.heap.size w' w''):=λw'=>by rw[<-hz];exact valid_any k v l r n w' hk hv hl hr
 cases z
 ·have HR:Hid (encS k v l r n=⟨#[]⟩):=(by show _=_;unfold encS;rw[if_neg (by rw[hz];decide)]);clear hz;go_enter func186,ntmps186;go_wp2_with (first|(go_at_call 193;refine(HV.out _).mono ?_;rintro e w1 ⟨rfl,hb1⟩));go_ret;exact⟨_,rfl,HR.out.symm,((Below.refl _ w).alloc (Nat.le_refl _) _).trans (hb1.mono (by simp))⟩
 ·have HR:Hid (encS k v l r n=T (encL k.data.toList v.data.toList l.data.toList r.data.toList)):=(by show _=_;unfold encS;rw[if_pos hz]);have hsz:k.size<=256/\v.size<=2000/\l.size<=32/\r.size<=32:=by
   unfold nodeOk hashOk at hz;simp only[Bool.and_eq_true,Bool.or_eq_true,decide_eq_true_eq] at hz;omega
  obtain⟨m,hm⟩:=eX (encL k.data.toList v.data.toList l.data.toList r.data.toList);have HC:Hid (∀w',Calls prog 194 #[.iface 285 (.agg #[.int .i64 n]),.agg #[.string k,.string v,.string l,.string r]] w' λe w''=>∃t:ByteArray,e=.returned (.string t)/\Hid (t.data.toList=m)/\Below w'.heap.size w' w''):=by
   intro w';refine written_N n k v l r m w' ?_;intro b' w'' h'';refine wR42 n k v l r b' [] m w'' h'' ?_;intro w3 h3;have hf:(flagOf l.size r.size:Int)=0\/(flagOf l.size r.size:Int)=1\/(flagOf l.size r.size:Int)=2\/(flagOf l.size r.size:Int)=3:=by
    unfold flagOf;split <;> split <;> simp
   have:=node_put_f (flagOf l.size r.size) _ rfl hf b' n k v l r [] w3 h3 (by simp) hsz.1 hsz.2.1 hsz.2.2.1 hsz.2.2.2 (λw'=>flags_any k v l r w');rw[List.nil_append] at this;rw[<-hm];exact this
  rw[hm] at HR;clear hz hm hsz;go_enter func186,ntmps186;go_wp2_with (first|(go_at_call 193;refine(HV.out _).mono ?_;rintro e w1 ⟨rfl,hb1⟩;have hn1:=qab hb1 (heap_alloc_new w (.cells #[.string k,.string v,.string l,.string r] 73));have c0:=ZC hn1 0;have c1:=ZC hn1 1;have c2:=ZC hn1 2;have c3:=ZC hn1 3)|(go_at_call 194;refine(HC.out _).mono ?_;rintro e w2 ⟨t,rfl,HT,hb2⟩));go_ret;exact⟨t,rfl,(of_list HT.out).trans HR.out.symm,(((Below.refl _ w).alloc (Nat.le_refl _) _).trans (hb1.mono (by simp))).trans (hb2.mono (by have:=hb1.size;simp at this;omega))⟩
def hashS (k v l r:ByteArray) (n:Int):ByteArray:=if (encS k v l r n).size=0 then ⟨#[]⟩ else ⟨((sha (78 :: (encS k v l r n).data.toList)).take n.toNat).toArray⟩
theorem qba (k v l r:ByteArray)(n:Int):(encS k v l r n).size<=10000/\(¬ (encS k v l r n).size=0->1<=n/\n<=32):=by
 unfold encS
 split
 ·rename_i h;have ho:=qaY h;rw[T_size];unfold encL;simp only[List.length_append,qaq,List.length_cons,List.length_nil];have e1:k.data.toList.length=k.size:=rfl;have e2:v.data.toList.length=v.size:=rfl;have e3:l.data.toList.length=l.size:=rfl;have e4:r.data.toList.length=r.size:=rfl;omega
 ·exact⟨Nat.zero_le _,λh=>absurd rfl h⟩
theorem text_any (e:ByteArray)(w:World)(he:e.size<=10000) : Calls prog 39 #[.string e] w λx w'=>∃t:ByteArray,x=.returned (.string t)/\t.size<=10001/\Hid (t.data.toList=78 :: e.data.toList)/\w=w':=by
 have z:¬ (9223372036854775807<(⟨#[78]⟩:ByteArray).size+e.size):=by show ¬ _<1+e.size;omega
 have z':¬ (9223372036854775807<1+e.size):=by omega
 go_enter func39,ntmps39;go_wp2;go_ret;refine⟨_,rfl,?_,?_,rfl⟩
 ·rw[ByteArray.size_append];show 1+e.size<=_;omega
 ·show (_:List UInt8)=_;rw[ByteArray.data_append];simp
theorem row_take {w:World}{base g n cap:Nat}{xs:List Value}(h:Row w base g n cap xs)(k:Nat)(hk:k<=n):Row w base g k cap (xs.take k) :=
 ⟨h.ge,h.lt,by rw[List.length_take,h.len];exact Nat.min_eq_left hk,Nat.le_trans hk h.le,λj hj=>by rw[h.cell j (by omega),List.getElem?_take,if_pos hj],h.room,h.free⟩
theorem ehash_any (s:ByteArray)(w:World)(hs:s.size<=1048576)(hK:∀j,j<64->w.cell? ⟨0,j,none⟩=some (.int .u32 ((kTab.getD j 0).toNat:Int))) : Calls prog 175 #[.string s] w λe w'=>e=.returned (.agg ((sha (78 :: s.data.toList)).map B).toArray)/\Below w.heap.size w w':=by
 have hl0:0<w.heap.size:=World.block_lt_of_cell? w _ (hK 0 (by omega));have HK:Hid (∀w':World,Below w.heap.size w w'->∀j,j<64->w'.cell? ⟨0,j,none⟩=some (.int .u32 ((kTab.getD j 0).toNat:Int))):=λw' hb j hj=>(hb.cell (by exact hl0)).trans (hK j hj);clear hK;have hsl:(78 :: s.data.toList).length=1+s.size:=by rw[List.length_cons];show s.size+1=_;omega
 go_enter func175,ntmps175;go_wp2_with (refine qam _ rfl (some 2) rfl 247 247 rfl (zeros8.map B) alloc32 ?_;intro g2 w2 hr2 hb2);have hr2':Row w2 w.heap.size g2 32 32 (zeros8.map B):=hr2;have hge:=hr2.ge;have hlt:=hr2.lt;have hs2:=hb2.size;clear hr2;refine(new_any w2).mono ?_;rintro e w3 ⟨rfl,hw3⟩;have F3:Fed w3 w2.heap.size [] (List.replicate 64 0) 0:=by rw[hw3];exact fed_new w2
 have hb3:Below w2.heap.size w2 w3:=by rw[hw3];exact(Below.refl _ _).alloc (Nat.le_refl _) _
 clear hw3;obtain⟨b,hb⟩:=eX (w2.heap.size);rw[hb] at F3;rw[hb];have hs3:=hb3.size;have hbw3:Below w.heap.size w w3:=hb2.trans (hb3.mono hs2);have hR3:Row w3 w.heap.size g2 32 32 (zeros8.map B):=hr2'.below hb3;have hb0:b ≠ 0:=by omega
 have hgb:g2<b:=by omega
 have hwb:w.heap.size<=b:=by omega
 clear hr2' hb3 hb2;go_wp2_with fail;refine(feed_any b [] (List.replicate 64 0) ⟨#[78]⟩ w3 F3 (by simp;show 1<=_;omega) hb0 (HK.out w3 hbw3)).mono ?_;rintro e w3' ⟨rfl,⟨k3,F3'⟩,hg3⟩;have hs3':=hg3.size;have hbw3':Below w.heap.size w w3':=hbw3.trans (qah hg3 hwb (by omega));have hR3':Row w3' w.heap.size g2 32 32 (zeros8.map B):=hR3.kept hg3 (by simp;omega);have F3n:Fed w3' b [78] k3 [78].length:=F3';clear F3 F3' hg3 hR3 hbw3;go_wp2_with fail;refine(feed_any b [78] k3 s w3' F3n (by simp;omega) hb0 (HK.out w3' hbw3')).mono ?_;rintro e w4 ⟨rfl,⟨k4,F4⟩,hg4⟩;have hs4:=hg4.size;have hbw4:Below w.heap.size w w4:=hbw3'.trans (qah hg4 hwb (by omega));have hR4:Row w4 w.heap.size g2 32 32 (zeros8.map B):=hR3'.kept hg4 (by simp;omega);have F4n:Fed w4 b (78 :: s.data.toList) k4 (1+s.size):=F4;clear F3n F4 hg4 hR3' hbw3';have hfs:=fin_sha (78 :: s.data.toList) k4 F4n.H.kl F4n.tk;have H4:=F4n.H;rw[hsl] at H4 hfs;clear F4n;go_wp2_with fail;refine(finish_any b _ k4 _ (1+s.size) w4 H4 (by omega) (by omega) hb0 (HK.out w4 hbw4)).mono ?_;rintro e w5 ⟨rfl,hg5⟩;rw[hfs];clear hfs H4;have hbw5:Below w.heap.size w w5:=hbw4.trans (qah hg5 hwb (by omega));have hR5:Row w5 w.heap.size g2 32 32 (zeros8.map B):=hR4.kept hg5 (by simp;omega);have hln:((sha (78 :: s.data.toList)).map B).length=32:=by rw[List.length_map];unfold sha;rw[qar]
 have h1c:∀v ∈ (sha (78 :: s.data.toList)).map B,v.oneCell'=true:=by
  intro v hv;obtain⟨x,_,rfl⟩:=List.mem_map.1 hv;rfl
 obtain⟨L,hL⟩:=eX ((sha (78 :: s.data.toList)).map B);rw[hL] at hln h1c;rw[hL];have HL:Hid ((sha (78 :: s.data.toList)).map B=L):=hL;clear hL;go_wp2_with (refine qan _ rfl rfl 247 (.tmp 2) (.tmp 11) rfl w.heap.size g2 32 (zeros8.map B) L rfl rfl hR5 hln size32 h1c ?_;intro w8 hR8 hg8);refine qdv _ (p:=2) (ty:=247) rfl w.heap.size g2 32 32 L 5 rfl hR8 Tryz.underlying247 size32 rfl ?_;refine⟨?_,?_⟩
 ·rw[HL.out]
 ·exact hbw5.trans (qah hg8 hge (by have:=hbw5.size;omega))
end Go.Proofs.YtibjhkpgaaapaaaGreatDoor
