import Derived.Test.YtibjhkpgaaapaaaGreatDoorZiav
import Derived.Test.YtibjhkpgaaapaaaGreatDoorZian
import Derived.Test.YtibjhkpgaaapaaaGreatDoorZiak
import Derived.Test.YtibjhkpgaaapaaaGreatDoorZiap
import Derived.Deep.AppendLies
import Derived.Deep.Cut
import Derived.Test.YtibjhkpgaaapaaaGreatDoorZiar
import Derived.Laws.MakeOwn
import Derived.Laws.OwnMore
import Derived.Test.YtibjhkpgaaapaaaGreatDoorZiag
import Derived.Test.YtibjhkpgaaapaaaGreatDoorZias
import Derived.Test.YtibjhkpgaaapaaaGreatDoorZiao
set_option maxRecDepth 100000
set_option maxHeartbeats 2000000
namespace Go.Proofs.YtibjhkpgaaapaaaGreatDoor
open Go.RowKit Go.Proofs.Sha Tryz
def cP:PT->Nat
 | .f _ _ l r=>cP l+1+cP r
 | _=>0
def shP (lo hi:ByteArray):PT->List PairT
 | .f k v l r=>shP lo hi l++(if hasW lo hi k=true then [(k,v)] else [])++shP lo hi r
 | _=>[]
theorem shP_len (lo hi:ByteArray):∀t:PT,(shP lo hi t).length<=cP t
 | .e=>Nat.le_refl _
 | .s _=>Nat.le_refl _
 | .f k v l r=>by
  have h1:=shP_len lo hi l
  have h2:=shP_len lo hi r
  have h3:(if hasW lo hi k=true then [(k,v)] else []).length<=1:=by split <;> simp
  rw[shP,cP,List.length_append,List.length_append]
  omega
theorem qdn {s lo hi:ByteArray}{wd:Nat}:∀ (f a:Nat) (over under par:ByteArray) (cnt:Nat) (t:PT) (a' c':Nat),rdP s lo hi wd f a over under par cnt=some (t,a',c')->c'=cnt+cP t
 | 0,_,_,_,_,_,_,_,_,h=>by cases h
 | f+1,a,over,under,par,cnt,t,a',c',h=>by
  rw[rdP] at h
  split at h
  ·split at h
   ·cases h;rfl
   ·split at h
    ·split at h
     ·cases h;rfl
     ·cases h
    ·split at h
     ·split at h
      ·split at h
       ·cases h
       ·rename_i l a3 c3 hl
        split at h
        ·cases h
        ·rename_i r a4 c4 hr
         cases h
         have il:=qdn f _ _ _ _ _ _ _ _ hl
         have ir:=qdn f _ _ _ _ _ _ _ _ hr
         rw[cP]
         omega
      ·cases h
     ·cases h
  ·cases h
theorem qcU {n:Int}{root lo hi s:ByteArray}{t:PT}(h:accP n root lo hi s=some t):cP t<=500:=by
 unfold accP at h
 split at h
 ·cases hr:rdP s lo hi n.toNat 501 0 ⟨#[]⟩ ⟨#[]⟩ ⟨#[]⟩ 0 with
  | none=>rw[hr] at h;cases h
  | some Y =>
   obtain⟨t',a',c'⟩:=Y;rw[hr] at h;unfold accQ at h;simp only at h
   split at h
   ·cases h;have h1:=qdn 501 _ _ _ _ _ _ _ _ hr;have h2:=rdP_ok 501 _ _ _ _ _ _ _ _ (by omega) hr;omega
   ·cases h
 ·cases h
theorem walk_shown (wd n0 gb c base:Nat)(lo hi:ByteArray)(hgc:gb ≠ c):∀ (t:PT) (p:Option Addr) (ps:List PairT) (a:Option Addr) (cap:Nat) (w:World),PB wd n0 t p w->w.heap[gb]?=some (.cells #[.string lo,.string hi] 75)->LS c base ps a cap w->ps.length+cP t<=100000 → Calls prog 98 #[.pointer p,.func (.func 99) #[] #[],.func (.func 100) #[] #[.pointer (some ⟨gb,0,none⟩),.pointer (some ⟨c,0,none⟩)]] w λe w'=>e=.returned (.bool true)/\(∃a' cap',LS c base (ps++shP lo hi t) a' cap' w')/\Fr base (λq=>q=c) w w':=by
 have hleaf:∀ (t:PT),isF t=false->∀ (p:Option Addr) (ps:List PairT) (a:Option Addr) (cap:Nat) (w:World),PB wd n0 t p w->LS c base ps a cap w->shP lo hi t=[] →
  Calls prog 98 #[.pointer p,.func (.func 99) #[] #[],.func (.func 100) #[] #[.pointer (some ⟨gb,0,none⟩),.pointer (some ⟨c,0,none⟩)]] w λe w'=>e=.returned (.bool true)/\(∃a' cap',LS c base (ps++shP lo hi t) a' cap' w')/\Fr base (λq=>q=c) w w':=by
  intro t ht p ps a cap w hB hL hs;have HU:=qcl wd n0 t p w hB;rw[ht] at HU;have HP:Hid (∃a' cap',LS c base (ps++shP lo hi t) a' cap' w):=⟨a,cap,by rw[hs,List.append_nil];exact hL⟩;clear ht hB hL hs;go_enter func98,ntmps98;go_wp2_with (go_at_call 99;refine HU.mono ?_;rintro e w1 ⟨rfl,rfl⟩);go_ret;exact⟨rfl,HP.out,Fr.refl _ _ _⟩
 intro t
 induction t with
 | e=>intro p ps a cap w hB hg hL hn;exact hleaf .e rfl p ps a cap w hB hL rfl
 | s hh=>intro p ps a cap w hB hg hL hn;exact hleaf (.s hh) rfl p ps a cap w hB hL rfl
 | f k v l r ihl ihr =>
  intro p ps a cap w hB hg hL hn;have HU:=qcl wd n0 (.f k v l r) p w hB;rw[show isF (.f k v l r)=true from rfl] at HU;obtain⟨b,lv,rv,rfl,hnb,hb,hl,hr⟩:=hB;have hm : ∀ w' : World, (method 427 84 (.pointer (some ⟨b, 0, none⟩)) "loop.example/s03048/impl.subtrees").run prog w' = .ok (222, .pointer (some ⟨b, 0, none⟩)) w' := fun _ => by kernel_rfl
  generalize encS k v (hashP wd l) (hashP wd r) wd=E at hb;rw[cP] at hn;have hll:=shP_len lo hi l;have kept:Hid (∀w',Fr base (λq=>q=c) w w'->w'.heap[b]?=some (.cells #[.string k,.string v,lv,rv,.string E] 151)/\w'.heap[gb]?=some (.cells #[.string lo,.string hi] 75)/\PA wd n0 l lv w'/\PA wd n0 r rv w'):=λw' f=>by
   have hN:∀q,q=c->∃cs t,w.heap[q]?=some (.cells cs t)/\t ≠ 151:=λq e=>(by subst e;exact⟨_,_,hL.blk,by decide⟩);exact⟨f.keep hb (λe=>qai hb hL.blk (by decide) e) (.inl (by decide)),f.keep hg (λe=>hgc e) (.inl (by decide)),hl.fr f hN,hr.fr f hN⟩
  have H0:Hid (∀w',Fr base (λq=>q=c) w w'->Calls prog 100 #[.pointer (some ⟨b,0,none⟩),.int .i64 0,.pointer (some ⟨gb,0,none⟩),.pointer (some ⟨c,0,none⟩)] w' λe w''=>e=.returned (.bool true)/\Below w'.heap.size w' w''):=λw' f=>sh_no _ 0 (.inl rfl) gb c lo hi w' (kept.out w' f).2.1;have H2:Hid (∀w',Fr base (λq=>q=c) w w'->Calls prog 100 #[.pointer (some ⟨b,0,none⟩),.int .i64 2,.pointer (some ⟨gb,0,none⟩),.pointer (some ⟨c,0,none⟩)] w' λe w''=>e=.returned (.bool true)/\Below w'.heap.size w' w''):=λw' f=>sh_no _ 2 (.inr rfl) gb c lo hi w' (kept.out w' f).2.1;have HS:Hid (∀w',Fr base (λq=>q=c) w w'->Calls prog 222 #[.pointer (some ⟨b,0,none⟩)] w' λe w''=>e=.returned (.tuple #[.pointer (ptrV lv),.pointer (ptrV rv)])/\Below w'.heap.size w' w''):=λw' f=>subsP_any wd n0 b l r lv rv _ _ _ w' (kept.out w' f).1 (kept.out w' f).2.2.1 (kept.out w' f).2.2.2;obtain⟨pl,hpl⟩:=eX (ptrV lv);obtain⟨pr,hpr⟩:=eX (ptrV rv);have HL:Hid (∀w0,Below w.heap.size w w0->Calls prog 98 #[.pointer pl,.func (.func 99) #[] #[],.func (.func 100) #[] #[.pointer (some ⟨gb,0,none⟩),.pointer (some ⟨c,0,none⟩)]] w0 λe w'=>e=.returned (.bool true)/\(∃a' cap',LS c base (ps++shP lo hi l) a' cap' w')/\Fr base (λq=>q=c) w w'):=λw0 hb0=>by
   obtain⟨_,k2,k3,_⟩:=kept.out w0 (Fr.of_below hb0);rw[<-hpl];refine(ihl _ ps a cap w0 k3.pb k2 (hL.below hb0) (by omega)).mono ?_;rintro e w' ⟨he,hT,hU⟩;exact⟨he,hT,(Fr.of_below hb0).trans hU (λ_ _ x=>x)⟩
  have H1:Hid (∀w1,Fr base (λq=>q=c) w w1->(∃a' cap',LS c base (ps++shP lo hi l) a' cap' w1)->Calls prog 100 #[.pointer (some ⟨b,0,none⟩),.int .i64 1,.pointer (some ⟨gb,0,none⟩),.pointer (some ⟨c,0,none⟩)] w1 λe w'=>e=.returned (.bool true)/\(∃a' cap',LS c base (ps++shP lo hi l++(if hasW lo hi k=true then [(k,v)] else [])) a' cap' w')/\Fr base (λq=>q=c) w w'):=λw1 f1 ⟨a1,c1,hp1⟩=>by
   obtain⟨k1,k2,_,_⟩:=kept.out w1 f1;refine(sh_any b k v _ _ _ gb c base lo hi _ a1 c1 w1 k1 k2 hp1 (by rw[List.length_append];omega)).mono ?_;rintro e w' ⟨he,hp2,f2⟩;exact⟨he,hp2,f1.trans f2 (λ_ _ x=>x)⟩
  have HR:Hid (∀w1,Fr base (λq=>q=c) w w1->(∃a' cap',LS c base (ps++shP lo hi l++(if hasW lo hi k=true then [(k,v)] else [])) a' cap' w1)->Calls prog 98 #[.pointer pr,.func (.func 99) #[] #[],.func (.func 100) #[] #[.pointer (some ⟨gb,0,none⟩),.pointer (some ⟨c,0,none⟩)]] w1 λe w'=>e=.returned (.bool true)/\(∃a' cap',LS c base (ps++shP lo hi (.f k v l r)) a' cap' w')/\Fr base (λq=>q=c) w w'):=λw1 f1 ⟨a1,c1,hp1⟩=>by
   obtain⟨_,k2,_,k4⟩:=kept.out w1 f1;have h3:(if hasW lo hi k=true then [(k,v)] else []).length<=1:=(by split <;> simp);rw[<-hpr];refine(ihr _ _ a1 c1 w1 k4.pb k2 hp1 (by rw[List.length_append,List.length_append];omega)).mono ?_;rintro e w' ⟨he,hT,hU⟩;refine⟨he,?_,f1.trans hU (λ_ _ x=>x)⟩;have e2:ps++shP lo hi l++(if hasW lo hi k=true then [(k,v)] else [])++shP lo hi r=ps++shP lo hi (.f k v l r):=(by rw[shP];simp only[List.append_assoc]);rw[<-e2];exact hT
  rw[hpl,hpr] at HS;generalize ps++shP lo hi (.f k v l r)=PX at HR⊢;generalize ps++shP lo hi l++(if hasW lo hi k=true then [(k,v)] else [])=PY at HR H1;generalize ps++shP lo hi l=PZ at HL H1;have f0:Fr base (λq=>q=c) w w:=Fr.refl _ _ _;clear hb hl hr ihl ihr hL hg hn hll kept hpl hpr;go_enter func98,ntmps98;go_wp2_with (first|(go_at_call 99;refine HU.mono ?_;rintro e w1 ⟨rfl,rfl⟩)|(go_at_call_of 100 (Value.int .i64 0);refine(H0.out _ f0).mono ?_;rintro e wa ⟨rfl,hba⟩;have fa:Fr base (λq=>q=c) w wa:=Fr.of_below hba)|(go_at_call_of 100 (Value.int .i64 1);refine(H1.out _ hu1 hp1).mono ?_;rintro e w2 ⟨rfl,hp2,hu2⟩)|(go_at_call 222;refine(HS.out _ fa).mono ?_;rintro e w0 ⟨rfl,hb0'⟩;have hb0:=hba.trans (hb0'.mono hba.size))|(go_at_call_of 98 (Value.pointer pl);refine(HL.out _ hb0).mono ?_;rintro e w1 ⟨rfl,hp1,hu1⟩)|(go_at_call_of 98 (Value.pointer pr);refine(HR.out _ hu2 hp2).mono ?_;rintro e w3 ⟨rfl,⟨a3,cap3,hp3⟩,hu3⟩)|(go_at_call_of 100 (Value.int .i64 2);refine(H2.out _ hu3).mono ?_;rintro e w4 ⟨rfl,hb4⟩));go_ret;exact⟨rfl,⟨a3,cap3,hp3.below hb4⟩,hu3.trans (Fr.of_below hb4) (λ_ _ x=>x)⟩
def VerAt (lo hi:ByteArray) (R:Option PT) (w:World) (e:Ending) (w':World):Prop :=
 (∀t,R=some t->∃a c,e=.returned (.tuple #[.slice a (shP lo hi t).length c,.bool true])/\w'.ownsRow w.heap.size 81 2 (.slice a (shP lo hi t).length c) (shP lo hi t).length (flatP (shP lo hi t)))/\(R=none->e=.returned (.tuple #[.slice none 0 0,.bool false]))/\Below w.heap.size w w'
theorem qcH (wd n0:Nat)(lo hi:ByteArray)(t:PT)(x:Value)(w:World)(h:PA wd n0 t x w)(hn:cP t<=500) : Calls prog 43 #[x,.agg #[.string lo,.string hi]] w λe w'=>(∃a c,e=.returned (.slice a (shP lo hi t).length c)/\w'.ownsRow w.heap.size 81 2 (.slice a (shP lo hi t).length c) (shP lo hi t).length (flatP (shP lo hi t)))/\Below w.heap.size w w':=by
 have hW:Below w.heap.size w ((w.alloc (.cells #[.string lo,.string hi] 75)).alloc (.cells #[.slice none 0 0] 35)):=((Below.refl _ _).alloc (Nat.le_refl _) _).alloc (by simp) _;have nC:=heap_alloc_new (w.alloc (.cells #[.string lo,.string hi] 75)) (.cells #[.slice none 0 0] 35);have nG:=(Below.heap_alloc (w.alloc (.cells #[.string lo,.string hi] 75)) (.cells #[.slice none 0 0] 35) w.heap.size (by simp)).trans (heap_alloc_new w (.cells #[.string lo,.string hi] 75));rw[World.size_alloc] at nC;have hsz:((w.alloc (.cells #[.string lo,.string hi] 75)).alloc (.cells #[.slice none 0 0] 35)).heap.size=w.heap.size+2:=by simp
 have hLS:LS (w.heap.size+1) (w.heap.size+2) [] none 0 ((w.alloc (.cells #[.string lo,.string hi] 75)).alloc (.cells #[.slice none 0 0] 35)):=⟨nC,⟨rfl,.inl ⟨rfl,rfl⟩⟩,by omega⟩;have hx:=h.below hW;have HA:=qbH wd n0 t x _ hx;have HW:=walk_shown wd n0 w.heap.size (w.heap.size+1) (w.heap.size+2) lo hi (by omega) t (ptrV x) [] none 0 _ hx.pb nG hLS (by simp;omega);rw[List.nil_append] at HW;have hmf:∀ (fn:Fn) (first cap:Array Value) (w:World),(Instr.makeFunc fn first cap).run prog w=.ok (.func fn first cap) w:=λ_ _ _ _=>rfl;generalize shP lo hi t=PX at HW⊢;have HQ:Hid (∀w2,Fr (w.heap.size+2) (λq=>q=w.heap.size+1) ((w.alloc (.cells #[.string lo,.string hi] 75)).alloc (.cells #[.slice none 0 0] 35)) w2->Below w.heap.size w w2):=λw2 hf=>hW.trans (hf.below (by omega) (λq e=>by omega) hW.size);clear h nC nG hLS hx hn hW hsz;go_enter func43,ntmps43;go_wp2_with (first|(go_at_call 45;refine HA.mono ?_;rintro e w1 ⟨rfl,rfl⟩)|(go_at_call 98;refine HW.mono ?_;rintro e w1 ⟨rfl,⟨a1,c1,hp1⟩,hu1⟩;have hcell:=ZC hp1.blk 0;replace hu1:=HQ.out _ hu1));go_ret;exact⟨⟨a1,c1,rfl,qbd hp1.own (by omega)⟩,hu1⟩
theorem iverify_any (n:Int)(root lo hi s:ByteArray)(w:World)(hs:s.size<=1300000)(hr:root.size<=1048576)(hK:KT w) : Calls prog 17 #[.int .i64 n,.string root,.string lo,.string hi,.string s] w (VerAt lo hi (accP n root lo hi s) w):=by
 have hbA:=bA w (.cells #[.string lo,.string hi] 75);have nA:=heap_alloc_new w (.cells #[.string lo,.string hi] 75);have HA:=acc_any n root lo hi s (w.alloc (.cells #[.string lo,.string hi] 75)) hs hr (hK.below hbA);have hcn:=λt=>qcU (n:=n) (root:=root) (lo:=lo) (hi:=hi) (s:=s) (t:=t);generalize accP n root lo hi s=R at HA hcn⊢;have c0:=ZC nA 0;have c1:=ZC nA 1;cases R with
 | none =>
  have HA2:Calls prog 41 #[.int .i64 n,.string root,.agg #[.string lo,.string hi],.string s] (w.alloc (.cells #[.string lo,.string hi] 75)) λe w'=>e=.returned (.tuple #[.nilIface,.bool false])/\Below w.heap.size w w':=by
   refine HA.mono ?_;rintro e w' ⟨_,he,hb⟩;exact⟨he rfl,hbA.trans (hb.mono hbA.size)⟩
  have HP:Hid (∀w',Below w.heap.size w w'->VerAt lo hi none w (.returned (.tuple #[.slice none 0 0,.bool false])) w'):=λw' hb=>⟨λt h=>(by cases h),λ_=>rfl,hb⟩;clear HA hcn nA hK;go_enter func17,ntmps17;go_wp2_with (first|(go_at_call 41;refine HA2.mono ?_;rintro e w2 ⟨rfl,hb2⟩));go_ret2;exact HP.out _ hb2
 | some t =>
  have hct:=hcn t rfl;have HA2:Calls prog 41 #[.int .i64 n,.string root,.agg #[.string lo,.string hi],.string s] (w.alloc (.cells #[.string lo,.string hi] 75)) λe w'=>∃T y,e=.returned (.tuple #[.iface T y,.bool true])/\PA n.toNat (w.alloc (.cells #[.string lo,.string hi] 75)).heap.size t (.iface T y) w'/\Below w.heap.size w w'/\w'.cell? ⟨w.heap.size,0,none⟩=some (.string lo)/\w'.cell? ⟨w.heap.size,1,none⟩=some (.string hi):=by
   refine HA.mono ?_;rintro e w' ⟨hy,_,hb⟩;obtain⟨T,y,he,hp⟩:=hy t rfl;have n2:=qab hb nA;exact⟨T,y,he,hp,hbA.trans (hb.mono hbA.size),ZC n2 0,ZC n2 1⟩
  have HS:Hid (∀T y w',PA n.toNat (w.alloc (.cells #[.string lo,.string hi] 75)).heap.size t (.iface T y) w'->Below w.heap.size w w'->Calls prog 43 #[.iface T y,.agg #[.string lo,.string hi]] w' λe w''=>∃a c,e=.returned (.slice a (shP lo hi t).length c)/\VerAt lo hi (some t) w (.returned (.tuple #[.slice a (shP lo hi t).length c,.bool true])) w''):=λT y w' hp hb=>by
   refine(qcH n.toNat _ lo hi t _ w' hp hct).mono ?_;rintro e w'' ⟨⟨a,c,he,ho⟩,hb2⟩;exact⟨a,c,he,λt' h'=>(by cases h';exact⟨a,c,rfl,qbd ho hb.size⟩),λh'=>(by cases h'),hb.trans (hb2.mono hb.size)⟩
  generalize (shP lo hi t).length=N at HS;clear HA hcn nA hK hct;go_enter func17,ntmps17;go_wp2_with (first|(go_at_call 41;refine HA2.mono ?_;rintro e w2 ⟨tx,yx,rfl,hp2,hb2,d0,d1⟩)|(go_at_call 43;refine(HS.out _ _ _ hp2 hb2).mono ?_;rintro e w3 ⟨a3,c3,rfl,hv3⟩));go_ret2;exact hv3
def KeysUp:List ByteArray->Prop
 | []=>True
 | k :: ks=>(∀x ∈ ks,lessB k x=true)/\KeysUp ks
theorem bl_irr (a:List UInt8):Op.bytesLess a a=false:=by
 induction a with
 | nil=>rfl
 | cons x y ih=>rw[Op.bytesLess];simp[ih]
theorem bl_tr:∀ (a b c:List UInt8),Op.bytesLess a b=true->Op.bytesLess b c=true->Op.bytesLess a c=true
 | [],[],_,h,_=>by simp[Op.bytesLess] at h
 | [],_ :: _,[],_,k=>by simp[Op.bytesLess] at k
 | [],_ :: _,_ :: _,_,_=>by simp[Op.bytesLess]
 | _ :: _,[],_,h,_=>by simp[Op.bytesLess] at h
 | _ :: _,_ :: _,[],_,k=>by simp[Op.bytesLess] at k
 | x :: xs,y :: ys,z :: zs,h,k=>by
  rw[Op.bytesLess] at h k⊢
  simp only[Bool.or_eq_true,Bool.and_eq_true,decide_eq_true_eq,beq_iff_eq] at h k⊢
  rcases h with h|⟨rfl,h⟩
  ·rcases k with k|⟨rfl,k⟩
   ·exact .inl (by rw[UInt8.lt_iff_toNat_lt] at *;omega)
   ·exact .inl h
  ·rcases k with k|⟨rfl,k⟩
   ·exact .inl k
   ·exact .inr ⟨rfl,bl_tr xs ys zs h k⟩
theorem lessB_irr (a:ByteArray):lessB a a=false:=bl_irr _
theorem qaT {a b c:ByteArray}(h:lessB a b=true)(k:lessB b c=true):lessB a c=true:=bl_tr _ _ _ h k
theorem lessB_or (a b:ByteArray)(h:lessB a b=false)(hne:a ≠ b):lessB b a=true:=by
 rw[qbk] at h;rcases(Bool.or_eq_true _ _).mp (by cases hq:(lessB b a || (b.toList == a.toList)) with|true=>rfl|false=>rw[hq] at h;cases h) with h|h
 ·exact h
 ·have e:b.toList=a.toList:=(by simpa using h);rw[ByteArray.toList_eq,ByteArray.toList_eq] at e;exact absurd (ByteArray.ext (Array.toList_inj.1 e.symm)) hne
def wout (ps:List PairT) (k:ByteArray):List PairT:=ps.filter λp=>decide (p.1 ≠ k)
def ins (k v:ByteArray):List PairT->List PairT
 | []=>[(k,v)]
 | p :: ps=>if lessB k p.1=true then (k,v) :: p :: ps else p :: ins k v ps
def wth (ps:List PairT) (k v:ByteArray):List PairT:=ins k v (wout ps k)
abbrev keys (ps:List PairT):List ByteArray:=ps.map Prod.fst
theorem ku_wout {ps:List PairT}(h:KeysUp (keys ps))(k:ByteArray):KeysUp (keys (wout ps k)):=by
 induction ps with
 | nil=>exact h
 | cons p ps ih =>
  unfold wout at ih⊢;rw[List.filter_cons]
  split
  ·refine⟨λx hx=>?_,ih h.2⟩;obtain⟨y,hy,rfl⟩:=List.mem_map.1 hx;exact h.1 _ (List.mem_map.2 ⟨y,(List.mem_filter.1 hy).1,rfl⟩)
  ·exact ih h.2
theorem mem_wout {ps:List PairT}{k x:ByteArray}:x ∈ keys (wout ps k) ↔ x ∈ keys ps/\x ≠ k:=by
 unfold wout;constructor
 ·intro h;obtain⟨y,hy,rfl⟩:=List.mem_map.1 h;obtain⟨h1,h2⟩:=List.mem_filter.1 hy;exact⟨List.mem_map.2 ⟨y,h1,rfl⟩,by simpa using h2⟩
 ·rintro⟨h,hn⟩;obtain⟨y,hy,rfl⟩:=List.mem_map.1 h;exact List.mem_map.2 ⟨y,List.mem_filter.2 ⟨hy,by simpa using hn⟩,rfl⟩
theorem mem_ins {k v x:ByteArray}:∀ {ps:List PairT},x ∈ keys (ins k v ps) ↔ x=k\/x ∈ keys ps
 | []=>by simp[ins]
 | p :: ps=>by
  rw[ins]
  split
  ·simp
  ·have ih:=mem_ins (k:=k) (v:=v) (x:=x) (ps:=ps)
   simp only[keys,List.map_cons,List.mem_cons] at ih⊢
   rw[ih]
   constructor
   ·rintro(h|h|h)
    ·exact .inr (.inl h)
    ·exact .inl h
    ·exact .inr (.inr h)
   ·rintro(h|h|h)
    ·exact .inr (.inl h)
    ·exact .inl h
    ·exact .inr (.inr h)
theorem ku_ins {k v:ByteArray}:∀ {ps:List PairT},KeysUp (keys ps)->(∀x ∈ keys ps,x ≠ k)->KeysUp (keys (ins k v ps))
 | [],_,_=>⟨λ_ h=>by simp at h,trivial⟩
 | p :: ps,h,hn=>by
  rw[ins]
  split
  ·rename_i hl
   refine⟨λx hx=>?_,h⟩
   rcases List.mem_cons.1 hx with e|hx
   ·rw[e];exact hl
   ·exact qaT hl (h.1 x hx)
  ·rename_i hl
   refine⟨λx hx=>?_,ku_ins h.2 (λx hx=>hn x (List.mem_cons_of_mem _ hx))⟩
   rcases mem_ins.1 hx with e|hx
   ·rw[e]
    exact lessB_or _ _ (by simpa using hl) (λe=>hn p.1 List.mem_cons_self e.symm)
   ·exact h.1 x hx
theorem ku_wth {ps:List PairT}(h:KeysUp (keys ps))(k v:ByteArray):KeysUp (keys (wth ps k v)):=ku_ins (ku_wout h k) (λ_ hx=>(mem_wout.1 hx).2)
theorem mem_wth {ps:List PairT}{k v x:ByteArray}:x ∈ keys (wth ps k v) ↔ x=k\/x ∈ keys ps:=by
 unfold wth;rw[mem_ins,mem_wout];constructor
 ·rintro(h|h)
  ·exact .inl h
  ·exact .inr h.1
 ·rintro(h|h)
  ·exact .inl h
  ·by_cases e:x=k
   ·exact .inl e
   ·exact .inr ⟨h,e⟩
abbrev ChT:=ByteArray × Bool × ByteArray × Bool × ByteArray
def kU:List PairT->List PairT->List ByteArray
 | [],[]=>[]
 | p :: ps,[]=>p.1 :: kU ps []
 | [],q :: qs=>q.1 :: kU [] qs
 | p :: ps,q :: qs=>if p.1=q.1 then p.1 :: kU ps qs else if lessB p.1 q.1=true then p.1 :: kU ps (q :: qs) else q.1 :: kU (p :: ps) qs
termination_by ps qs=>ps.length+qs.length
theorem drop_getD (ps:List PairT)(i:Nat)(h:i<ps.length):ps.drop i=ps.getD i noPair :: ps.drop (i+1):=by
 rw[List.drop_eq_getElem_cons h];congr 1;simp[List.getD_eq_getElem?_getD,List.getElem?_eq_getElem h]
theorem qcD {a b:ByteArray}:(a.toList == b.toList)=decide (a=b):=by
 by_cases e:a=b
 ·subst e;simp
 ·rw[decide_eq_false e,beq_eq_false_iff_ne];intro h;rw[ByteArray.toList_eq,ByteArray.toList_eq] at h;exact e (ByteArray.ext (Array.toList_inj.1 h))
structure OwnP (w:World) (xs:List PairT) (a:Option Addr) (m c:Nat) (W:World):Prop where
 own:W.ownsRow w.heap.size 81 2 (.slice a m c) m (flatP xs)
 bel:Below w.heap.size w W
 len:xs.length=m
theorem OwnP.below {w W W':World}{xs:List PairT}{a:Option Addr}{m c:Nat}(h:OwnP w xs a m c W)(hb:Below W.heap.size W W'):OwnP w xs a m c W' :=
 ⟨qbb h.own (λq _ hq=>hb.block q hq),h.bel.trans (hb.mono h.bel.size),h.len⟩
theorem OwnP.more {w W W':World}{xs:List PairT}{a:Option Addr}{m c m' g cap:Nat}{y:PairT}{o:Obj}(h:OwnP w xs a m c W)(hown:W'.ownsRow w.heap.size 81 2 (.slice (some ⟨g,0,none⟩) m' cap) m' (flatP xs++[.string y.1,.string y.2]))(hgrow:(W.alloc o).grownBy W' (Value.slice a m c).ownBlock)(hm:m'=m+1):OwnP w (xs++[y]) (some ⟨g,0,none⟩) m' cap W':=by
 have ha:=h.below ((Below.refl W.heap.size W).alloc (Nat.le_refl _) o);refine⟨by rw[qcV];exact hown,ha.bel.grown hgrow ha.bel.size (λq hq=>(qaI ha.own hq).1),by rw[List.length_append,h.len,hm];rfl⟩
def PairsAt (xs:List PairT) (w:World) (e:Ending) (w':World):Prop:=∃a c,e=.returned (.slice a xs.length c)/\OwnP w xs a xs.length c w'
theorem take_getD (ps:List PairT)(i:Nat)(h:i<ps.length):ps.take (i+1)=ps.take i++[ps.getD i noPair]:=by
 rw[List.take_add_one,List.getElem?_eq_getElem h];simp[List.getD_eq_getElem?_getD,List.getElem?_eq_getElem h]
theorem wout_app (a b:List PairT)(k:ByteArray):wout (a++b) k=wout a k++wout b k:=List.filter_append ..
theorem qdp (ps:List PairT)(k:ByteArray):(wout ps k).length<=ps.length:=List.length_filter_le ..
theorem OwnP.nil (w:World):OwnP w [] (some ⟨w.heap.size,0,none⟩) 0 0 (w.alloc (.cells #[] 81)) :=
 ⟨qdH (Nat.le_refl _) (heap_alloc_new w _),(Below.refl _ _).alloc (Nat.le_refl _) _,rfl⟩
theorem without_any (a:Option Addr)(ps:List PairT)(c:Nat)(key:ByteArray)(w:World)(h:PArg a ps w):Calls prog 137 #[.slice a ps.length c,.string key] w (PairsAt (wout ps key) w):=by
 obtain⟨i0,hi0,hz0,hz1,hz2⟩:=qaB info37;have hn:=h.le;obtain⟨N,hN⟩:=eX (ps.length);rw[hN] at hn⊢;have hNl:Hid (ps.length=N):=hN;clear hN;have hO:=OwnP.nil w;go_enter func137,ntmps137;go_wp2_with fail;go_loopw [5,6] (λt5 t6 wr=>∃k:Nat,k<=N/\t6=.int .i64 (k:Int)/\∃ (a':Option Addr) (m d':Nat),t5=.slice a' m d'/\OwnP w (wout (ps.take k) key) a' m d' wr) (λ_ t6 _=>N-(intOf t6).toNat)
 case atStart=>exact⟨0,Nat.zero_le _,rfl,_,_,_,rfl,hO⟩
 case round =>
  obtain⟨k,hk,rfl,a',m,d',rfl,hW⟩:=hrel;by_cases hlt:k<N
  ·have z1:decide ((k:Int)<(N:Int))=true:=(by simp;omega);have hx0:(0:Int)<=(k:Int):=Int.natCast_nonneg _;have hx1:(k:Int)<(N:Int):=(by omega);obtain⟨b1,off1,rfl,hbl1,hc⟩:=(h.below hW.bel).at_ (by rw[hNl.out];omega);obtain⟨hc1,hc2⟩:=hc k (by rw[hNl.out];exact hlt);have hml:m<=1048576:=(by have:=hW.len;have:=qdp (ps.take k) key;rw[List.length_take] at this;omega);have htk:Hid (wout (ps.take (k+1)) key=wout (ps.take k) key++wout [ps.getD k noPair] key):=by
    show _=_;rw[take_getD ps k (by rw[hNl.out];exact hlt),wout_app]
   generalize ps.getD k noPair=p at hc1 hc2 htk;obtain⟨pk,pv⟩:=p;simp only at hc1 hc2;have hbs:=hW.bel.size;by_cases e:pk=key
   ·have z2:(pk.toList == key.toList)=true:=(by rw[qcD,decide_eq_true e]);have hf:Hid (wout [(pk,pv)] key=[]):=(by show _=_;simp[wout,e]);clear e hc;go_wp2_with fail;go_roundw
    case rel=>exact⟨k+1,hlt,by go_num,_,_,_,rfl,by rw[htk.out,hf.out,List.append_nil];exact hW⟩
    case measure=>simp[intOf];omega
   ·have z2:(pk.toList == key.toList)=false:=(by rw[qcD,decide_eq_false e]);have hf:Hid (wout [(pk,pv)] key=[(pk,pv)]):=(by show _=_;simp[wout,e]);have own:=hW.own;clear e hc;go_wp2_with (at_builtin;refine wpList_append_lies _ rfl (.tmp 21) (.tmp 26) 35 rfl w.heap.size 81 i0 (.agg #[.string ⟨#[]⟩,.string ⟨#[]⟩]) 2 32 Tryz.underlying35 hi0 hz0 hz1 hz2 rfl (by decide) (.slice a' m d') m (flatP (wout (ps.take k) key)) rfl (own.alloc _) ⟨wr.heap.size,0,none⟩ 1 1 [.string pk,.string pv] rfl rfl (World.news_of_block (heap_alloc_new wr _)) (by simp[Value.oneCell']) (by decide) (by unfold maxLen;omega) (by omega) (by simp;omega) (wr.heap.size+1) (by simp) ?_;intro g5 c5 w5 hown5 hgrow5 hat5 hlt5);go_roundw
    case rel=>exact⟨k+1,hlt,by go_num,_,_,_,rfl,by rw[htk.out,hf.out];exact hW.more hown5 hgrow5 rfl⟩
    case measure=>simp[intOf];omega
  ·obtain rfl:k=N:=by omega
   have z1:decide ((k:Int)<(k:Int))=false:=(by simp);rw[List.take_of_length_le (by rw[hNl.out];exact Nat.le_refl _)] at hW;have hl:=hW.len;subst hl;go_wp2_with fail;go_ret;exact⟨_,_,rfl,hW⟩
def PRow (w:World) (base:Nat) (a:Option Addr) (n _c:Nat) (xs:List Value):Prop:=n=0\/∃g,a=some ⟨g,0,none⟩/\Row w base g (n*2) (n*2) xs
theorem own_prow {w:World}{base n c:Nat}{a:Option Addr}{xs:List Value}(h:w.ownsRow base 81 2 (.slice a n c) n xs):PRow w base a n c xs:=by
 by_cases hn:n=0
 ·exact .inl hn
 ·right;rcases h.2 with ⟨e,h0⟩|⟨g,cap,cur,e,hb,hg,q1,q2,q3,q4⟩
  ·omega
  ·simp only[Value.slice.injEq,true_and] at e;obtain⟨rfl,rfl⟩:=e;refine⟨g,rfl,hb,(zG hg).1,by have:=h.1;omega,Nat.le_refl _,λj hj=>?_,λj hj=>?_,λj _=>?_⟩
   ·rw[cell_of_row w g j cur 81 (0,0) hg,<-q4,List.getElem?_take,if_pos (by omega)];simp
   ·rw[cell_of_row w g j cur 81 (0,0) hg,Array.getElem?_eq_getElem (by omega)];rfl
   ·rw[World.frozen?,hg];rfl
theorem qap {g:Nat}{o:Obj}{w w':World}(hb:Below w.heap.size w w')(h:w.heap[g]?=some o):w'.heap[g]?=some o:=(hb.block g (zG h).1).trans h
theorem retP {fn:Func}{R:Ending->World->Prop}{A:Act}{p:Tmp}{gb:Nat}{n:Int}{a:Option Addr}{m c:Nat}{W:World}(hres:fn.results=#[.cell p 31])(hp:A.tmps.getD p undef=.pointer (some ⟨gb,0,none⟩))(hd:A.defers=[])(hn:W.heap[gb]?=some (.cells #[.int .i64 n,.slice a m c] 31))(h:R (.returned (.agg #[.int .i64 n,.slice a m c])) W):bodyPost prog fn R Exit.ret A W:=by
 have c0:=ZC hn 0;have c1:=ZC hn 1;have hp':A.tmps[p]?.getD undef=.pointer (some ⟨gb,0,none⟩):=by simpa using hp
 refine bodyPost_ret (v:=.agg #[.int .i64 n,.slice a m c]) ?_ hd h;simp[results,hres,go_sem,asAddr,hp',c0,c1]
theorem PArg.grown {a:Option Addr}{ps:List PairT}{w w':World}{row:Option Nat}(h:PArg a ps w)(hg:w.grownBy w' row)(hn:∀b off,a=some ⟨b,off,none⟩->0<ps.length->some b ≠ row):PArg a ps w':=by
 refine⟨h.le,h.sz,λh0=>?_⟩;obtain⟨b,off,ha,hlt,hc⟩:=h.at_ h0;have hne:=hn b off ha h0;exact⟨b,off,ha,Nat.lt_of_lt_of_le hlt hg.size,λj hj=>⟨(hg.cell_far ⟨b,off+j*2,none⟩ hlt hne).trans (hc j hj).1,(hg.cell_far ⟨b,off+j*2+1,none⟩ hlt hne).trans (hc j hj).2⟩⟩
theorem own_parg {w:World}{base c:Nat}{a:Option Addr}{ps:List PairT}(h:w.ownsRow base 81 2 (.slice a ps.length c) ps.length (flatP ps))(hs:SmallP ps):PArg a ps w:=by
 rcases own_prow h with h0|⟨g,rfl,hr⟩
 ·exact⟨hs.1,hs.2,λq=>by omega⟩
 ·exact Row.parg hr hs
def Mid (rest:List PairT) (key val:ByteArray) (k:Nat) (out:List PairT):Bool->Prop
 | true=>out++rest.drop k=ins key val rest
 | false=>out=rest.take k/\ins key val rest=rest.take k++ins key val (rest.drop k)
theorem qaV (w:World)(q:Nat):Below w.heap.size w (w.drewN q):=qaa _ (Below.refl _ _)
theorem Mid.start (rest:List PairT)(key val:ByteArray):Mid rest key val 0 [] false:=⟨rfl,rfl⟩
theorem Mid.done {rest:List PairT}{key val:ByteArray}{k:Nat}{out:List PairT}(h:Mid rest key val k out true)(hk:k<rest.length):Mid rest key val (k+1) (out++[rest.getD k noPair]) true:=by
 unfold Mid at h⊢;rw[<-h,drop_getD rest k hk];simp
theorem Mid.now {rest:List PairT}{key val:ByteArray}{k:Nat}{out:List PairT}(h:Mid rest key val k out false)(hk:k<rest.length)(hl:lessB key (rest.getD k noPair).1=true):Mid rest key val (k+1) (out++[(key,val)]++[rest.getD k noPair]) true:=by
 unfold Mid at h⊢;obtain⟨h1,h2⟩:=h;rw[h2,drop_getD rest k hk,ins,if_pos hl,h1];simp
theorem Mid.past {rest:List PairT}{key val:ByteArray}{k:Nat}{out:List PairT}(h:Mid rest key val k out false)(hk:k<rest.length)(hl:lessB key (rest.getD k noPair).1=false):Mid rest key val (k+1) (out++[rest.getD k noPair]) false:=by
 unfold Mid at h⊢;obtain⟨h1,h2⟩:=h;rw[take_getD rest k hk,h1];refine⟨rfl,?_⟩;rw[h2,drop_getD rest k hk,ins,if_neg (by rw[hl];decide)];simp
theorem OwnP.up {w w1 W:World}{xs:List PairT}{a:Option Addr}{m c:Nat}(h:OwnP w1 xs a m c W)(hb:Below w.heap.size w w1):OwnP w xs a m c W :=
 ⟨qbd h.own hb.size,hb.trans (h.bel.mono hb.size),h.len⟩
theorem qau {w W:World}{c m:Nat}{a:Option Addr}{ps:List PairT}(h:OwnP w ps a m c W)(hs:SmallP ps):PArg a ps W:=by
 have hl:=h.len;subst hl;exact own_parg h.own hs
theorem Mid.len {rest:List PairT}{key val:ByteArray}{k:Nat}{out:List PairT}{d:Bool}(h:Mid rest key val k out d):out.length<=rest.length+1:=by
 have hi:∀l:List PairT,(ins key val l).length=l.length+1:=λl=>by
  induction l with
  | nil=>rfl
  | cons p l ih=>rw[ins];split <;> simp[ih]
 cases d with
 | true =>
  have:=congrArg List.length h;rw[List.length_append,hi] at this;omega
 | false =>
  rw[h.1,List.length_take];omega
theorem with_any (a:Option Addr)(ps:List PairT)(c:Nat)(key val:ByteArray)(w:World)(h:PArg a ps w)(hks:key.size<=1048576)(hpl:ps.length<=100000):Calls prog 86 #[.slice a ps.length c,.string key,.string val] w (PairsAt (wth ps key val) w):=by
 obtain⟨i0,hi0,hz0,hz1,hz2⟩:=qaB info37;have HO:=without_any a ps c key w h;have hrs:SmallP (wout ps key):=by
  refine⟨Nat.le_trans (qdp ps key) h.le,λj=>?_⟩;by_cases hj:j<(wout ps key).length
  ·have hm:(wout ps key)[j] ∈ ps:=(List.mem_filter.1 (List.getElem_mem hj)).1;obtain⟨i,hi,e⟩:=List.getElem_of_mem hm;have:=h.sz i;rw[zL,List.getElem?_eq_getElem hi,Option.getD_some,e] at this;rw[zL,List.getElem?_eq_getElem hj,Option.getD_some];exact this
  ·rw[pget_out _ _ (by omega)];exact⟨Nat.zero_le _,Nat.zero_le _⟩
 have hrl:(wout ps key).length<=100000:=Nat.le_trans (qdp ps key) hpl;unfold wth;generalize wout ps key=rest at HO hrs hrl⊢;go_enter func86,ntmps86;go_upto_region 2 with (first|(go_at_call 137;refine HO.mono ?_;rintro e w1 ⟨a1,c1,rfl,hO1⟩));have hb1:=hO1.bel;have hp1:=qau hO1 hrs;have hO2:=OwnP.nil w1;obtain⟨N,hN⟩:=eX (rest.length);rw[hN] at hrl⊢;have hNl:Hid (rest.length=N):=hN;clear hN hO1 HO;go_wp2_with fail;go_loopw [8,9,10] (λt8 t9 t10 wr=>∃k:Nat,k<=N/\t10=.int .i64 (k:Int)/\∃ (d:Bool) (a':Option Addr) (m d':Nat) (out:List PairT),t9=.bool d/\t8=.slice a' m d'/\OwnP w1 out a' m d' wr/\Hid (Mid rest key val k out d)) (λ_ _ t10 _=>N-(intOf t10).toNat)
 case atStart=>exact⟨0,Nat.zero_le _,rfl,false,_,_,_,[],rfl,rfl,hO2,Mid.start rest key val⟩
 case round =>
  obtain⟨k,hk,rfl,d,a',m,d',out,rfl,rfl,hW,hM⟩:=hrel;have hml:m<=100001:=by have:=hW.len;have:=hM.out.len;rw[hNl.out] at this;omega
  have hbs:=hW.bel.size;have own:=hW.own;by_cases hlt:k<N
  ·have z1:decide ((k:Int)<(N:Int))=true:=(by simp;omega);have hx0:(0:Int)<=(k:Int):=Int.natCast_nonneg _;have hx1:(k:Int)<(N:Int):=(by omega);have hkr:Hid (k<rest.length):=(by show _<_;rw[hNl.out];exact hlt);obtain⟨b1,off1,rfl,hbl1,hc⟩:=(hp1.below hW.bel).at_ (by rw[hNl.out];omega);obtain⟨hc1,hc2⟩:=hc k hkr.out;have hsz:=(hrs.2 k).1;have Mdone:Hid (d=true->Mid rest key val (k+1) (out++[rest.getD k noPair]) true):=λe=>by subst e;exact hM.out.done hkr.out
   have Mnow:Hid (d=false->lessB key (rest.getD k noPair).1=true->Mid rest key val (k+1) (out++[(key,val)]++[rest.getD k noPair]) true):=λe=>by subst e;exact hM.out.now hkr.out
   have Mpast:Hid (d=false->lessB key (rest.getD k noPair).1=false->Mid rest key val (k+1) (out++[rest.getD k noPair]) false):=λe=>by subst e;exact hM.out.past hkr.out
   obtain⟨p,hpp⟩:=eX (rest.getD k noPair);have hpe:Hid (rest.getD k noPair=p):=hpp;rw[hpp] at hc1 hc2 hsz Mdone Mnow Mpast;clear hpp;obtain⟨pk,pv⟩:=p;simp only at hc1 hc2 hsz;have hbl2:b1<wr.heap.size:=hbl1;clear hc hM;cases d with
   | true =>
    go_wp2_with (at_builtin;refine wpList_append_lies _ rfl (.tmp 38) (.tmp 43) 35 rfl w1.heap.size 81 i0 (.agg #[.string ⟨#[]⟩,.string ⟨#[]⟩]) 2 32 Tryz.underlying35 hi0 hz0 hz1 hz2 rfl (by decide) (.slice a' m d') m (flatP out) rfl (own.alloc _) ⟨wr.heap.size,0,none⟩ 1 1 [.string pk,.string pv] rfl rfl (World.news_of_block (heap_alloc_new wr _)) (by simp[Value.oneCell']) (by decide) (by unfold maxLen;omega) (by omega) (by simp;omega) (wr.heap.size+1) (by simp) ?_;intro g5 c5 w5 hown5 hgrow5 hat5 hlt5);go_roundw
    case rel=>exact⟨k+1,hlt,by go_num,true,_,_,_,_,rfl,rfl,hW.more hown5 hgrow5 rfl,Mdone.out (by first|rfl|trivial)⟩
    case measure=>simp[intOf];omega
   | false =>
    have HL:=qbl key pk wr hks hsz;cases hl:lessB key pk with
    | false =>
     rw[hl] at HL;go_upto_region 10 with (first|(go_at_call 85;refine HL.mono ?_;rintro e w3 ⟨rfl,q,rfl⟩));have hW3:=hW.below (qaV wr q);have own3:=hW3.own;have hd1:=((qaV wr q).cell (p:=⟨b1,off1+k*2,none⟩) hbl2).trans hc1;have hd2:=((qaV wr q).cell (p:=⟨b1,off1+k*2+1,none⟩) hbl2).trans hc2;have hbs3:=hW3.bel.size;clear own hc1 hc2 HL;generalize wr.drewN q=w3 at *;go_wp2_with (at_builtin;refine wpList_append_lies _ rfl (.tmp 38) (.tmp 43) 35 rfl w1.heap.size 81 i0 (.agg #[.string ⟨#[]⟩,.string ⟨#[]⟩]) 2 32 Tryz.underlying35 hi0 hz0 hz1 hz2 rfl (by decide) (.slice a' m d') m (flatP out) rfl (own3.alloc _) ⟨w3.heap.size,0,none⟩ 1 1 [.string pk,.string pv] rfl rfl (World.news_of_block (heap_alloc_new w3 _)) (by simp[Value.oneCell']) (by decide) (by unfold maxLen;omega) (by omega) (by simp;omega) (w3.heap.size+1) (by simp) ?_;intro g5 c5 w5 hown5 hgrow5 hat5 hlt5);go_roundw
     case rel=>exact⟨k+1,hlt,by go_num,false,_,_,_,_,rfl,rfl,hW3.more hown5 hgrow5 rfl,Mpast.out (by first|rfl|trivial) hl⟩
     case measure=>simp[intOf];omega
    | true =>
     rw[hl] at HL;go_upto_region 8 with (first|(go_at_call 85;refine HL.mono ?_;rintro e w3 ⟨rfl,q,rfl⟩));have hW3:=hW.below (qaV wr q);have own3:=hW3.own;have hd1:=((qaV wr q).cell (p:=⟨b1,off1+k*2,none⟩) hbl2).trans hc1;have hd2:=((qaV wr q).cell (p:=⟨b1,off1+k*2+1,none⟩) hbl2).trans hc2;have hbs3:=hW3.bel.size;clear own hc1 hc2 HL;generalize wr.drewN q=w3 at *;go_upto_region 9 with (at_builtin;refine wpList_append_lies _ rfl (.tmp 32) (.tmp 36) 35 rfl w1.heap.size 81 i0 (.agg #[.string ⟨#[]⟩,.string ⟨#[]⟩]) 2 32 Tryz.underlying35 hi0 hz0 hz1 hz2 rfl (by decide) (.slice a' m d') m (flatP out) rfl (own3.alloc _) ⟨w3.heap.size,0,none⟩ 1 1 [.string key,.string val] rfl rfl (World.news_of_block (heap_alloc_new w3 _)) (by simp[Value.oneCell']) (by decide) (by unfold maxLen;omega) (by omega) (by simp;omega) (w3.heap.size+1) (by simp) ?_;intro g5 c5 w5 hown5 hgrow5 hat5 hlt5);have hW5:=hW3.more (y:=(key,val)) hown5 hgrow5 rfl;have hp5:=hp1.below hW5.bel;have own5:=hW5.own;have hbs5:=hW5.bel.size;obtain⟨b2,off2,e2,hbl5,hc5⟩:=hp5.at_ (by rw[hNl.out];omega);cases e2;obtain⟨hd1,hd2⟩:=hc5 k hkr.out;have Mn:=Mnow.out (by first|rfl|trivial) hl
     replace Mn:Hid _:=Mn
     have hgd:(rest.getD k noPair)=(pk,pv):=hpe.out;rw[hgd] at hd1 hd2;simp only at hd1 hd2;clear own3 hc5 hgd;go_wp2_with (at_builtin;refine wpList_append_lies _ rfl (.tmp 38) (.tmp 43) 35 rfl w1.heap.size 81 i0 (.agg #[.string ⟨#[]⟩,.string ⟨#[]⟩]) 2 32 Tryz.underlying35 hi0 hz0 hz1 hz2 rfl (by decide) (.slice (some ⟨g5,0,none⟩) (m+1) c5) (m+1) (flatP (out++[(key,val)])) rfl (own5.alloc _) ⟨w5.heap.size,0,none⟩ 1 1 [.string pk,.string pv] rfl rfl (World.news_of_block (heap_alloc_new w5 _)) (by simp[Value.oneCell']) (by decide) (by unfold maxLen;omega) (by omega) (by simp;omega) (w5.heap.size+1) (by simp) ?_;intro g6 c6 w6 hown6 hgrow6 hat6 hlt6);go_roundw
     case rel=>exact⟨k+1,hlt,by go_num,true,_,_,_,_,rfl,rfl,hW5.more hown6 hgrow6 rfl,Mn.out⟩
     case measure=>simp[intOf];omega
  ·obtain rfl:k=N:=by omega
   have z1:decide ((k:Int)<(k:Int))=false:=(by simp);cases d with
   | true =>
    have hfin:Hid (out=ins key val rest):=by
     have:=hM.out;unfold Mid at this;rw[List.drop_of_length_le (by rw[hNl.out];exact Nat.le_refl _),List.append_nil] at this;exact this
    have HF:Hid (PairsAt (ins key val rest) w (.returned (.slice a' m d')) wr):=by
     have hl:=hW.len;subst hl;rw[<-hfin.out];exact⟨_,_,rfl,hW.up hb1⟩
    clear hM hfin own;go_wp2_with fail;go_ret;exact HF.out
   | false =>
    have hfin:Hid (out++[(key,val)]=ins key val rest):=by
     have:=hM.out;unfold Mid at this;obtain⟨h1,h2⟩:=this;rw[List.drop_of_length_le (by rw[hNl.out];exact Nat.le_refl _),ins] at h2;show _=_;rw[h2,h1]
    clear hM;go_wp2_with (at_builtin;refine wpList_append_lies _ rfl (.tmp 47) (.tmp 51) 35 rfl w1.heap.size 81 i0 (.agg #[.string ⟨#[]⟩,.string ⟨#[]⟩]) 2 32 Tryz.underlying35 hi0 hz0 hz1 hz2 rfl (by decide) (.slice a' m d') m (flatP out) rfl (own.alloc _) ⟨wr.heap.size,0,none⟩ 1 1 [.string key,.string val] rfl rfl (World.news_of_block (heap_alloc_new wr _)) (by simp[Value.oneCell']) (by decide) (by unfold maxLen;omega) (by omega) (by simp;omega) (wr.heap.size+1) (by simp) ?_;intro g5 c5 w5 hown5 hgrow5 hat5 hlt5);go_ret;have hW5:=hW.more (y:=(key,val)) hown5 hgrow5 rfl;rw[hfin.out] at hW5;have hl:=hW5.len;exact⟨some ⟨g5,0,none⟩,c5,by rw[hl];rfl,by rw[hl];exact hW5.up hb1⟩
end Go.Proofs.YtibjhkpgaaapaaaGreatDoor
