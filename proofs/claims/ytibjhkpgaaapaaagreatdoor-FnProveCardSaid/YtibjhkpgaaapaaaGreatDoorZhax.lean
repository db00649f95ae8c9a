import Derived.Test.YtibjhkpgaaapaaaGreatDoorZhaw
import Derived.Test.YtibjhkpgaaapaaaGreatDoorZhap
import Derived.Test.YtibjhkpgaaapaaaGreatDoorZhau
import Derived.Test.YtibjhkpgaaapaaaGreatDoorZhac
import Derived.Test.YtibjhkpgaaapaaaGreatDoorZhak
import Derived.Test.YtibjhkpgaaapaaaGreatDoorZhat
import Derived.Test.YtibjhkpgaaapaaaGreatDoorZhai
set_option maxRecDepth 100000
set_option maxHeartbeats 1000000
namespace Go.Proofs.YtibjhkpgaaapaaaGreatDoor
open Go.RowKit Go.Proofs.Sha Tryz
theorem ex_list (s:ByteArray) (a n:Nat):(s.extract a (a + n)).data.toList=(s.data.toList.drop a).take n:=by
 conv=>lhs;rw [<- T_of s,T_extract]
 rw [T_data,Nat.add_sub_cancel_left]
theorem ex_size (s:ByteArray) (a n:Nat) (h:a + n <= s.size):(s.extract a (a + n)).size=n:=by
 rw [ByteArray.size_extract];omega
theorem byteAt_ex (s:ByteArray) (a n i:Nat) (hi:i < n):byteAt (s.extract a (a + n)) i=(s.data.toList.getD (a + i) 0).toNat:=by
 unfold byteAt
 rw [ex_list,List.getD_eq_getElem?_getD,List.getD_eq_getElem?_getD,List.getElem?_take_of_lt hi,List.getElem?_drop]
theorem or_add (x y k:Nat) (h:y < 2 ^ k):x * 2 ^ k ||| y=x * 2 ^ k + y:=by
 rw [Nat.mul_comm,<- Nat.two_pow_add_eq_or_of_lt h]
theorem val1 (b:Nat -> Nat):valTo 1 false b 1=b 0:=by simp [valTo]
theorem val2 (b:Nat -> Nat) (hb:∀ i,b i < 256):valTo 2 false b 2=b 0 * 256 + b 1:=by
 have e:valTo 2 false b 2=b 0 * 2 ^ 8 ||| b 1:=by simp [valTo]
 rw [e,or_add _ _ 8 (hb 1)]
theorem SX2 {s:ByteArray} {a:Nat} {f:Bool} {t:ByteArray} {a':Nat} {f':Bool} (h:SX 2 false s a f t a' f') :
 (f=false /\ pieceOk s a /\ t=s.extract (a + 2) (a + 2 + szAt s a) /\ a'=a + 2 + szAt s a /\ f'=false) \/ ((f=true \/ ¬ pieceOk s a) /\ f'=true):=by
 obtain ⟨t1,a1,f1,h1,h2⟩:=h
 rcases h1 with ⟨hf,hle,ht1,ha1,hf1⟩ | ⟨hf,ht1,ha1,hf1⟩
 · have hv:valTo 2 false (byteAt t1) t1.size=szAt s a:=by
    rw [ht1,ex_size s a 2 hle,val2 _ (byteAt_lt _),byteAt_ex s a 2 0 (by omega),byteAt_ex s a 2 1 (by omega)]
    rfl
   rw [hv] at h2
   rcases h2 with ⟨_,hle2,ht,ha',hf'⟩ | ⟨hf2,_,_,hf'⟩
   · subst ha1
     exact .inl ⟨hf,⟨hle,hle2⟩,ht,ha',hf'⟩
   · subst ha1
     refine .inr ⟨.inr fun hp=>?_,hf'⟩
     rcases hf2 with h | h
     · rw [hf1] at h;cases h
     · exact h hp.2
 · rcases h2 with ⟨hf2,_⟩ | ⟨_,_,_,hf'⟩
   · rw [hf1] at hf2;cases hf2
   · refine .inr ⟨?_,hf'⟩
     rcases hf with h | h
     · exact .inl h
     · exact .inr fun hp=>h hp.1
theorem NX1 {s:ByteArray} {a:Nat} {f:Bool} {t:ByteArray} {a':Nat} {f':Bool} (h:NX s a f 1 t a' f') :
 (f=false /\ a + 1 <= s.size /\ valTo 1 false (byteAt t) t.size=(s.data.toList.getD a 0).toNat /\ a'=a + 1 /\ f'=false) \/ ((f=true \/ ¬ a + 1 <= s.size) /\ f'=true):=by
 rcases h with ⟨hf,hle,ht,ha',hf'⟩ | ⟨hf,_,_,hf'⟩
 · refine .inl ⟨hf,hle,?_,ha',hf'⟩
   rw [ht,ex_size s a 1 hle,val1,byteAt_ex s a 1 0 (by omega)]
   rfl
 · exact .inr ⟨hf,hf'⟩
theorem NR.ok {n:Nat} {s k v l x:ByteArray} {a':Nat} (h:NR n s 0 false k v l x a' false) :
 ∃ a1 a2 fl,pieceOk s 0 /\ k=s.extract (0 + 2) (0 + 2 + szAt s 0) /\ a1=0 + 2 + szAt s 0 /\ pieceOk s a1 /\ v=s.extract (a1 + 2) (a1 + 2 + szAt s a1) /\ a2=a1 + 2 + szAt s a1 /\ a2 + 1 <= s.size /\ fl=(s.data.toList.getD a2 0).toNat ∧
  a2 + 1 + (if fl &&& 1=0 then 0 else n) + (if fl &&& 2=0 then 0 else n) <= s.size /\ l=s.extract (a2 + 1) (a2 + 1 + (if fl &&& 1=0 then 0 else n)) ∧
  x=s.extract (a2 + 1 + (if fl &&& 1=0 then 0 else n)) (a2 + 1 + (if fl &&& 1=0 then 0 else n) + (if fl &&& 2=0 then 0 else n)) /\ a'=a2 + 1 + (if fl &&& 1=0 then 0 else n) + (if fl &&& 2=0 then 0 else n) /\ fl <= 3 /\ nodeOk k.size v.size l.size x.size (n:Int)=true:=by
 obtain ⟨a1,f1,a2,f2,fl,t3,a3,f3,a4,f4,f5,h1,h2,h3,hfl,h4,h5,hf⟩:=h
 have hf5:f5=false /\ ¬ 3 < fl /\ nodeOk k.size v.size l.size x.size (n:Int)=true:=by
  cases f5
  · simp at hf;exact ⟨rfl,by omega,hf.2⟩
  · simp at hf
 rcases h5 with ⟨g4,hle5,hx,ha',_⟩ | ⟨_,_,_,g⟩
 rotate_left
 · rw [hf5.1] at g;cases g
 rcases h4 with ⟨g3,hle4,hl,ha4,_⟩ | ⟨_,_,_,g⟩
 rotate_left
 · rw [g4] at g;cases g
 rcases NX1 h3 with ⟨g2,hle3,hv3,ha3,_⟩ | ⟨_,g⟩
 rotate_left
 · rw [g3] at g;cases g
 rcases SX2 h2 with ⟨g1,hp2,hv,ha2,_⟩ | ⟨_,g⟩
 rotate_left
 · rw [g2] at g;cases g
 rcases SX2 h1 with ⟨_,hp1,hk,ha1,_⟩ | ⟨_,g⟩
 rotate_left
 · rw [g1] at g;cases g
 subst ha4 ha3
 exact ⟨a1,a2,fl,hp1,hk,ha1,hp2,hv,ha2,hle3,by rw [hfl,hv3],hle5,hl,hx,ha',by omega,hf5.2.2⟩
theorem seg_add (L:List UInt8) (a m p:Nat):(L.drop a).take m ++ (L.drop (a + m)).take p=(L.drop a).take (m + p):=by
 rw [List.take_add,List.drop_drop]
theorem seg_two (L:List UInt8) (a:Nat) (h:a + 2 <= L.length):(L.drop a).take 2=[L.getD a 0,L.getD (a + 1) 0]:=by
 rw [List.getD_eq_getElem?_getD,List.getD_eq_getElem?_getD,List.getElem?_eq_getElem (by omega),List.getElem?_eq_getElem (by omega),List.drop_eq_getElem_cons (by omega),List.take_succ_cons,List.drop_eq_getElem_cons (by omega),List.take_succ_cons,List.take_zero]
 rfl
theorem seg_one (L:List UInt8) (a:Nat) (h:a + 1 <= L.length):(L.drop a).take 1=[L.getD a 0]:=by
 rw [List.getD_eq_getElem?_getD,List.getElem?_eq_getElem (by omega),List.drop_eq_getElem_cons (by omega),List.take_succ_cons,List.take_zero]
 rfl
theorem sized_seg (s:ByteArray) (a:Nat) (h:pieceOk s a):sized (s.extract (a + 2) (a + 2 + szAt s a)).data.toList=(s.data.toList.drop a).take (2 + szAt s a):=by
 have hL:s.data.toList.length=s.size:=rfl
 have hlen:((s.data.toList.drop (a + 2)).take (szAt s a)).length=szAt s a:=by
  have:=h.2
  rw [List.length_take,List.length_drop];omega
 rw [ex_list,<- seg_add,seg_two _ _ (by rw [hL];exact h.1),sized,hlen]
 have h0:=(s.data.toList.getD a 0).toNat_lt
 have h1:=(s.data.toList.getD (a + 1) 0).toNat_lt
 have e0:szAt s a / 256=(s.data.toList.getD a 0).toNat:=by unfold szAt;omega
 have e1:szAt s a % 256=(s.data.toList.getD (a + 1) 0).toNat:=by unfold szAt;omega
 rw [e0,e1]
 simp
theorem flag_eq (fl n l x:Nat) (hfl:fl <= 3) (hn:1 <= n) (hl:l=if fl &&& 1=0 then 0 else n) (hx:x=if fl &&& 2=0 then 0 else n):flagOf l x=fl:=by
 subst hl hx
 have:fl=0 \/ fl=1 \/ fl=2 \/ fl=3:=by omega
 have h0:¬ n=0:=by omega
 rcases this with rfl | rfl | rfl | rfl <;> simp [flagOf,h0]
theorem flag_back (fl n l x:Nat) (hn:1 <= n) (hfl:fl=flagOf l x) (hl:l=0 \/ l=n) (hx:x=0 \/ x=n):(if fl &&& 1=0 then 0 else n)=l /\ (if fl &&& 2=0 then 0 else n)=x /\ fl <= 3:=by
 subst hfl
 unfold flagOf
 rcases hl with rfl | rfl <;> rcases hx with rfl | rfl
 · simp
 · have h:¬ x=0:=by omega
   simp [h]
 · have h:¬ l=0:=by omega
   simp [h]
 · have h:¬ x=0:=by omega
   simp [h]
theorem NR.enc {n:Nat} {s k v l x:ByteArray} (h:NR n s 0 false k v l x s.size false):IsEnc s (n:Int) k v l x:=by
 obtain ⟨a1,a2,fl,hp0,hk,ha1,hp1,hv,ha2,hle,hfl,hle2,hl,hx,hend,hfl3,hok⟩:=h.ok
 have ho:=nodeOk_out hok
 refine ⟨hok,?_⟩
 have hL:s.data.toList.length=s.size:=rfl
 obtain ⟨n1,hn1⟩:∃ m,(if fl &&& 1=0 then 0 else n)=m:=⟨_,rfl⟩
 obtain ⟨n2,hn2⟩:∃ m,(if fl &&& 2=0 then 0 else n)=m:=⟨_,rfl⟩
 rw [hn1,hn2] at hle2 hx hend
 rw [hn1] at hl
 have hls:l.size=n1:=by rw [hl];exact ex_size s _ _ (by omega)
 have hxs:x.size=n2:=by rw [hx];exact ex_size s _ _ (by omega)
 have hf:flagOf l.size x.size=fl:=flag_eq fl n _ _ hfl3 (by omega) (by rw [hls,hn1]) (by rw [hxs,hn2])
 refine of_list ?_
 unfold encL
 rw [show l.data.toList.length=l.size from rfl,show x.data.toList.length=x.size from rfl,hf]
 have e4:x.data.toList=(s.data.toList.drop (a2 + 1 + n1)).take n2:=by rw [hx];exact ex_list _ _ _
 have e3:l.data.toList=(s.data.toList.drop (a2 + 1)).take n1:=by rw [hl];exact ex_list _ _ _
 have e2:[UInt8.ofNat fl]=(s.data.toList.drop a2).take 1:=by rw [seg_one _ _ (by rw [hL];exact hle),hfl];simp
 have e1:sized v.data.toList=(s.data.toList.drop a1).take (2 + szAt s a1):=by rw [hv];exact sized_seg s a1 hp1
 have e0:sized k.data.toList=(s.data.toList.drop 0).take (2 + szAt s 0):=by rw [hk];exact sized_seg s 0 hp0
 rw [e0,e1,e2,e3,e4]
 obtain ⟨z0,hz0⟩:∃ z,szAt s 0=z:=⟨_,rfl⟩
 obtain ⟨z1,hz1⟩:∃ z,szAt s a1=z:=⟨_,rfl⟩
 rw [hz0,hz1]
 rw [show a1=0 + (2 + z0) by omega,seg_add,show a2=0 + (2 + z0 + (2 + z1)) by omega,seg_add,show 0 + (2 + z0 + (2 + z1)) + 1=0 + (2 + z0 + (2 + z1) + 1) by omega,seg_add,show 0 + (2 + z0 + (2 + z1) + 1) + n1=0 + (2 + z0 + (2 + z1) + 1 + n1) by omega,seg_add]
 rw [List.drop_zero,List.take_of_length_le (by rw [hL];omega)]
theorem NR.no {n:Nat} {s k v l x:ByteArray} {a':Nat} {f':Bool} (h:NR n s 0 false k v l x a' f') (hno:¬ (f'=false /\ a'=s.size)) (k' v' l' x':ByteArray):¬ IsEnc s (n:Int) k' v' l' x':=by
 intro hE
 obtain ⟨p1,p2,p3⟩:=hE.parts
 obtain ⟨q1,q2,q3⟩:=p3 _ rfl
 obtain ⟨r1,r2⟩:=q3 _ rfl
 have ho:=nodeOk_out hE.1
 obtain ⟨a1,f1,a2,f2,fl,t3,a3,f3,a4,f4,f5,h1,h2,h3,hfl,h4,h5,hf⟩:=h
 rcases SX2 h1 with ⟨_,hp1,hk,ha1,hf1⟩ | ⟨g,_⟩
 rotate_left
 · rcases g with g | g
   · cases g
   · exact g ⟨by omega,by omega⟩
 rcases SX2 h2 with ⟨_,hp2,hv,ha2,hf2⟩ | ⟨g,_⟩
 rotate_left
 · rcases g with g | g
   · rw [hf1] at g;cases g
   · subst ha1;exact g ⟨by omega,by omega⟩
 rcases NX1 h3 with ⟨_,hle3,hv3,ha3,hf3⟩ | ⟨g,_⟩
 rotate_left
 · rcases g with g | g
   · rw [hf2] at g;cases g
   · subst ha1 ha2;exact g (by omega)
 have hflv:fl=flagOf l'.size x'.size:=by subst ha1 ha2;rw [hfl,hv3,r1]
 have hb:=flag_back fl n l'.size x'.size (by omega) hflv (by omega) (by omega)
 have hsz:s.size - (a2 + 1)=l'.size + x'.size:=by
  subst ha1 ha2
  have:=congrArg ByteArray.size r2
  rw [ByteArray.size_extract,ByteArray.size_append] at this
  omega
 rw [hb.1] at h4
 rw [hb.2.1] at h5
 rcases h4 with ⟨_,hle4,hl,ha4,hf4⟩ | ⟨g,_⟩
 rotate_left
 · rcases g with g | g
   · rw [hf3] at g;cases g
   · exact g (by omega)
 rcases h5 with ⟨_,hle5,hx,ha5,hf5⟩ | ⟨g,_⟩
 rotate_left
 · rcases g with g | g
   · rw [hf4] at g;cases g
   · exact g (by omega)
 apply hno
 have hks:k=k':=by rw [hk,p2]
 have hvs:v=v':=by subst ha1;rw [hv,q2]
 have hls:l.size=l'.size:=by rw [hl];exact ex_size s _ _ (by omega)
 have hxs:x.size=x'.size:=by rw [hx];exact ex_size s _ _ (by omega)
 refine ⟨?_,by omega⟩
 rw [hf,hf5,hks,hvs,hls,hxs,hE.1,decide_eq_false (by omega)]
 rfl
theorem ret11 {w:World} {g:Nat} {k v l r:ByteArray} (h:NB g k v l r w) {a:Act} {R:Ending -> World -> Prop} (b:Bool) (h4:a.tmps.getD 4 undef=.pointer (some ⟨g,0,none⟩)) (h5:a.tmps.getD 5 undef=.bool b) (hd:a.defers=[])
 (hR:R (.returned (.tuple #[nodeV k v l r,.bool b])) w):bodyPost prog Tryz.f198 R .ret a w:=by
 have c0:w.cell? ⟨g,0,none⟩=some (.string k):=ZC h 0
 have c1:w.cell? ⟨g,1,none⟩=some (.string v):=ZC h 1
 have c2:w.cell? ⟨g,2,none⟩=some (.string l):=ZC h 2
 have c3:w.cell? ⟨g,3,none⟩=some (.string r):=ZC h 3
 have h4':a.tmps[4]?.getD undef=.pointer (some ⟨g,0,none⟩):=by simpa using h4
 have h5':a.tmps[5]?.getD undef=.bool b:=by simpa using h5
 exact bodyPost_ret (v:=.tuple #[nodeV k v l r,.bool b]) (by simp [results,Tryz.results198,go_sem,h4',h5',asAddr,c0,c1,c2,c3]) hd hR
theorem dec_impl (s:ByteArray) (n:Int) (w:World) (hs:s.size <= 1048576) :
 Calls prog 198 #[.string s,.int .i64 n] w fun e w'=>decPost s n e /\ Below w.heap.size w w':=by
 by_cases hw:1 <= n /\ n <= 32
 · obtain ⟨m,rfl⟩:=Int.eq_ofNat_of_zero_le (show 0 <= n by omega)
   have z1:decide ((1:Int) <= (m:Int))=true:=by simp;omega
   have z2:decide ((m:Int) <= 32)=true:=by simp;omega
   have HC:Hid (∀ w',Calls prog 203 #[.string s,.iface 285 (.agg #[.int .i64 (m:Int)])] w' fun e w''=>∃ (k v l x:ByteArray) (b:Bool),e=.returned (.tuple #[nodeV k v l x,.bool b]) /\ Hid (decPost s (m:Int) (.returned (.tuple #[nodeV k v l x,.bool b]))) /\ Below w'.heap.size w' w''):=by
    intro w'
    refine (whole_node m s w' hs (by omega)).mono ?_
    rintro e w'' ⟨k,v,l,x,a',f',rfl,HNR,ha',hb⟩
    by_cases hc:f'=false /\ a'=s.size
    · refine ⟨k,v,l,x,true,by unfold wholeV;rw [if_pos hc],.inl ⟨k,v,l,x,?_,rfl⟩,hb⟩
      have:=HNR.out
      rw [hc.1,hc.2] at this
      exact this.enc
    · exact ⟨⟨#[]⟩,⟨#[]⟩,⟨#[]⟩,⟨#[]⟩,false,by unfold wholeV;rw [if_neg hc],.inr ⟨fun k' v' l' x'=>HNR.out.no hc k' v' l' x',rfl⟩,hb⟩
   obtain ⟨fb,hfb⟩:∃ fb,w.heap.size=fb:=⟨_,rfl⟩
   go_enter func198,ntmps198
   go_wp2_with (first | (go_at_call 203;refine (HC.out _).mono ?_;rintro e w1 ⟨k,v,l,x,b,rfl,HD,hb1⟩;have hn1:NB fb ⟨#[]⟩ ⟨#[]⟩ ⟨#[]⟩ ⟨#[]⟩ w1:=below_cells hb1 (by rw [<- hfb];exact heap_alloc_new _ _);have c0:w1.cell? ⟨fb,0,none⟩=some (.string ⟨#[]⟩):=ZC hn1 0;have c1:w1.cell? ⟨fb,1,none⟩=some (.string ⟨#[]⟩):=ZC hn1 1;have c2:w1.cell? ⟨fb,2,none⟩=some (.string ⟨#[]⟩):=ZC hn1 2;have c3:w1.cell? ⟨fb,3,none⟩=some (.string ⟨#[]⟩):=ZC hn1 3;have f0:w1.frozen? ⟨fb,0,none⟩=false:=frozen_of_heap hn1;have f1:w1.frozen? ⟨fb,1,none⟩=false:=frozen_of_heap hn1;have f2:w1.frozen? ⟨fb,2,none⟩=false:=frozen_of_heap hn1;have f3:w1.frozen? ⟨fb,3,none⟩=false:=frozen_of_heap hn1) | go_in)
   refine ret11 ((((hn1.s0 _).s1 _).s2 _).s3 _) b rfl rfl rfl ⟨HD.out,?_⟩
   have hb2:Below fb w w1:=((Below.refl _ w).alloc (by omega) _).trans (hb1.mono (by simp [hfb]))
   rw [hfb]
   exact (((hb2.setCell (Nat.le_refl _) _).setCell (Nat.le_refl _) _).setCell (Nat.le_refl _) _).setCell (Nat.le_refl _) _
 · have HN:Hid (∀ k v l r,¬ IsEnc s n k v l r):=fun k v l r hE=>by have:=nodeOk_out hE.1;omega
   by_cases h1:1 <= n
   · have z1:decide (1 <= n)=true:=by simp;omega
     have z2:decide (n <= 32)=false:=by simp;omega
     go_enter func198,ntmps198
     go_wp2_with go_in
     exact ret11 (heap_alloc_new _ _) false rfl rfl rfl ⟨.inr ⟨HN.out,rfl⟩,(Below.refl _ _).alloc (Nat.le_refl _) _⟩
   · have z1:decide (1 <= n)=false:=by simp;omega
     go_enter func198,ntmps198
     go_wp2_with go_in
     exact ret11 (heap_alloc_new _ _) false rfl rfl rfl ⟨.inr ⟨HN.out,rfl⟩,(Below.refl _ _).alloc (Nat.le_refl _) _⟩
theorem IsEnc.one {s:ByteArray} {n:Int} {k v l r k' v' l' r':ByteArray} (h:IsEnc s n k v l r) (h':IsEnc s n k' v' l' r'):k=k' /\ v=v' /\ l=l' /\ r=r':=by
 obtain ⟨_,p2,p3⟩:=h.parts
 obtain ⟨_,p2',p3'⟩:=h'.parts
 obtain ⟨_,q2,q3⟩:=p3 _ rfl
 obtain ⟨_,q2',q3'⟩:=p3' _ rfl
 obtain ⟨r1,r2⟩:=q3 _ rfl
 obtain ⟨r1',r2'⟩:=q3' _ rfl
 refine ⟨p2.trans p2'.symm,q2.trans q2'.symm,?_⟩
 have s1:=h.sides r1 r2
 have s2:=h'.sides r1' r2'
 by_cases hf:(s.data.toList.getD (0 + 2 + szAt s 0 + 2 + szAt s (0 + 2 + szAt s 0)) 0).toNat % 2=1
 · have t1:=s1.1 hf
   have t2:=s2.1 hf
   exact ⟨t1.2.1.trans t2.2.1.symm,t1.2.2.trans t2.2.2.symm⟩
 · have t1:=s1.2 hf
   have t2:=s2.2 hf
   exact ⟨t1.1.trans t2.1.symm,t1.2.trans t2.2.symm⟩
theorem decPost.one {s:ByteArray} {n:Int} {e e':Ending} (h:decPost s n e) (h':decPost s n e'):e=e':=by
 rcases h with ⟨k,v,l,r,hE,rfl⟩ | ⟨hN,rfl⟩ <;> rcases h' with ⟨k',v',l',r',hE',rfl⟩ | ⟨hN',rfl⟩
 · obtain ⟨rfl,rfl,rfl,rfl⟩:=hE.one hE'
   rfl
 · exact absurd hE (hN' _ _ _ _)
 · exact absurd hE' (hN _ _ _ _)
 · rfl
theorem dec_ex (n:Int) (s:ByteArray):∃ x:ByteArray × ByteArray × ByteArray × ByteArray × Bool,decPost s n (.returned (.tuple #[nodeV x.1 x.2.1 x.2.2.1 x.2.2.2.1,.bool x.2.2.2.2])):=by
 by_cases hE:∃ k v l r,IsEnc s n k v l r
 · obtain ⟨k,v,l,r,hE⟩:=hE
   exact ⟨(k,v,l,r,true),.inl ⟨k,v,l,r,hE,rfl⟩⟩
 · exact ⟨(⟨#[]⟩,⟨#[]⟩,⟨#[]⟩,⟨#[]⟩,false),.inr ⟨fun k v l r h=>hE ⟨k,v,l,r,h⟩,rfl⟩⟩
def PRow (w:World) (base:Nat) (a:Option Addr) (n _c:Nat) (xs:List Value):Prop:=n=0 \/ ∃ g,a=some ⟨g,0,none⟩ /\ Row w base g (n * 2) (n * 2) xs
theorem own_prow {w:World} {base n c:Nat} {a:Option Addr} {xs:List Value} (h:w.ownsRow base 81 2 (.slice a n c) n xs):PRow w base a n c xs:=by
 by_cases hn:n=0
 · exact .inl hn
 · right
   rcases h.2 with ⟨e,h0⟩ | ⟨g,cap,cur,e,hb,hg,q1,q2,q3,q4⟩
   · omega
   · simp only [Value.slice.injEq,true_and] at e
     obtain ⟨rfl,rfl⟩:=e
     refine ⟨g,rfl,hb,(Array.getElem?_eq_some_iff.1 hg).1,by have:=h.1;omega,Nat.le_refl _,fun j hj=>?_,fun j hj=>?_,fun j _=>?_⟩
     · rw [cell_of_row w g j cur 81 (0,0) hg,<- q4,List.getElem?_take,if_pos (by omega)];simp
     · rw [cell_of_row w g j cur 81 (0,0) hg,Array.getElem?_eq_getElem (by omega)];rfl
     · rw [World.frozen?,hg];rfl
theorem PArg.grown {a:Option Addr} {ps:List PairT} {w w':World} {row:Option Nat} (h:PArg a ps w) (hg:w.grownBy w' row) (hn:∀ b off,a=some ⟨b,off,none⟩ -> 0 < ps.length -> some b ≠ row):PArg a ps w':=by
 refine ⟨h.le,h.sz,fun h0=>?_⟩
 obtain ⟨b,off,ha,hlt,hc⟩:=h.at_ h0
 have hne:=hn b off ha h0
 exact ⟨b,off,ha,Nat.lt_of_lt_of_le hlt hg.size,fun j hj=>⟨(hg.cell_far ⟨b,off + j * 2,none⟩ hlt hne).trans (hc j hj).1,(hg.cell_far ⟨b,off + j * 2 + 1,none⟩ hlt hne).trans (hc j hj).2⟩⟩
theorem own_parg {w:World} {base c:Nat} {a:Option Addr} {ps:List PairT} (h:w.ownsRow base 81 2 (.slice a ps.length c) ps.length (flatP ps)) (hs:SmallP ps):PArg a ps w:=by
 rcases own_prow h with h0 | ⟨g,rfl,hr⟩
 · exact ⟨hs.1,hs.2,fun q=>by omega⟩
 · exact Row.parg hr hs
theorem goF_ok {fnd:ByteArray -> FN} {hg:ByteArray -> ByteArray -> Bool} {lo hi:ByteArray} {wd:Nat} (hfo:FndOk wd fnd):∀ (f:Nat) (hash over under par:ByteArray) (cnt:Nat),∀ p ∈ (goF fnd hg lo hi f hash over under par cnt).2.2,okKey p.1=true /\ okVal p.2=true
 | 0,_,_,_,_,_,p,hp=>by rw [goF] at hp;cases hp
 | f + 1,hash,over,under,par,cnt,p,hp=>by
  cases h1:(emp hash || !canW over under lo hi) with
  | true=>rw [goF_skip h1] at hp;cases hp
  | false =>
   by_cases h2:(fnd hash).2=2
   · rw [goF_missing h1 h2] at hp;cases hp
   · by_cases h20:(fnd hash).2=0
     · cases h3:(insW over under (fnd hash).1.1 && parW hg par (fnd hash).1.1) with
       | false=>rw [goF_place h1 h20 h3] at hp;cases hp
       | true =>
        by_cases h4:500 < cnt + 1
        · rw [goF_many h1 h20 h3 h4] at hp;cases hp
        · have e:fnd hash=(((fnd hash).1.1,(fnd hash).1.2.1,(fnd hash).1.2.2.1,(fnd hash).1.2.2.2),0):=by rw [<- h20]
          rw [goF_node h1 e h3 (by omega) rfl rfl] at hp
          split at hp
          · cases hp
          · split at hp
            · cases hp
            · rcases List.mem_append.1 hp with hp | hp
              · rcases List.mem_append.1 hp with hp | hp
                · exact goF_ok hfo f _ _ _ _ _ p hp
                · split at hp
                  · rw [List.mem_singleton] at hp
                    subst hp
                    exact ⟨(hfo.node hash h20).1,(hfo.node hash h20).2.1⟩
                  · cases hp
              · exact goF_ok hfo f _ _ _ _ _ p hp
     · rw [goF,if_neg (by rw [h1];decide),if_neg h2,if_pos h20] at hp;cases hp
theorem noP_small:noPair.1.size <= 1048576 /\ noPair.2.size <= 1048576:=⟨Nat.zero_le _,Nat.zero_le _⟩
theorem nil_small:SmallP []:=⟨by decide,fun j=>by rw [pget_out _ _ (Nat.zero_le _)];exact noP_small⟩
theorem rangeM_small {fnd:ByteArray -> FN} {wd:Nat} (hfo:FndOk wd fnd) (n:Int) (m:Nat) (root lo hi:ByteArray):(rangeM fnd n m root lo hi).1.length <= 500 /\ SmallP (rangeM fnd n m root lo hi).1:=by
 have hnil:([]:List PairT).length <= 500 /\ SmallP []:=⟨by decide,nil_small⟩
 unfold rangeM
 split
 · split
   · rename_i h0
     have h1:=goF_cnt 501 root ⟨#[]⟩ ⟨#[]⟩ ⟨#[]⟩ 0 (by decide) h0
     have h2:=goF_len 501 root ⟨#[]⟩ ⟨#[]⟩ ⟨#[]⟩ 0 h0
     have h3:=goF_ok hfo 501 root ⟨#[]⟩ ⟨#[]⟩ ⟨#[]⟩ 0 (hg:=hgW) (lo:=lo) (hi:=hi)
     generalize goF fnd hgW lo hi 501 root ⟨#[]⟩ ⟨#[]⟩ ⟨#[]⟩ 0=R at h0 h1 h2 h3 ⊢
     refine ⟨by simp only;omega,by simp only;omega,fun j=>?_⟩
     by_cases hj:j < R.2.2.length
     · obtain ⟨q1,q2⟩:=h3 _ (List.getElem_mem hj)
       simp only [List.getD_eq_getElem?_getD,List.getElem?_eq_getElem hj,Option.getD_some]
       unfold okKey at q1
       unfold okVal at q2
       have q1:=of_decide_eq_true q1
       have q2:=of_decide_eq_true q2
       omega
     · rw [pget_out _ _ (by simp only;omega)]
       exact noP_small
   · exact hnil
 · exact hnil
theorem decOk_of {n:Int} {s k v l r:ByteArray} (h:decPost s n (.returned (.tuple #[nodeV k v l r,.bool true]))):nodeOk k.size v.size l.size r.size n=true:=by
 rcases h with ⟨k',v',l',r',hE,e⟩ | ⟨_,e⟩
 · simp only [nodeV,Ending.returned.injEq,Value.tuple.injEq,Array.mk.injEq,List.cons.injEq,Value.agg.injEq,Value.string.injEq] at e
   obtain ⟨⟨rfl,rfl,rfl,rfl,_⟩,_⟩:=e
   exact hE.1
 · simp at e
theorem srange_any (HD:Hid DigSaid) (D:Dec) (n:Int) (HD2:Hid (∀ wd:Nat,(wd:Int)=n -> 1 <= wd -> wd <= 32 -> DecSaid 146 wd D)) (hdo:∀ wd:Nat,(wd:Int)=n -> DecOk wd D) (a:Option Addr) (ss:List ByteArray) (c:Nat) (root lo hi:ByteArray) (w:World) (h:SArg a ss w) (hs:Hid (∀ j,(ss.getD j ⟨#[]⟩).size <= 1048575)) (hr:root.size <= 1048576) (hlo:lo.size <= 1048576) (hhi:hi.size <= 1048576) :
 Calls prog 48 #[.agg #[.int .i64 n,.slice a ss.length c],.string root,.string lo,.string hi] w (RangeAt (rangeM (fndD D n.toNat ss) n ss.length root lo hi) w):=by
 cases hp:(poolOk n ss.length && hashOk root.size n) with
 | false=>rw [rangeM_bad hp];exact srange_bad n _ ss.length c root lo hi w h.le hr hp
 | true =>
  have hp2:=(Bool.and_eq_true _ _).mp hp
  have hp':1 <= n /\ n <= 32 /\ ss.length <= 20000:=of_decide_eq_true hp2.1
  obtain ⟨wd,rfl⟩:∃ wd:Nat,n=(wd:Int):=⟨n.toNat,by omega⟩
  rw [Int.toNat_natCast]
  exact srange_good HD D wd (HD2.out wd rfl (by omega) (by omega)) (hdo wd rfl) _ ss c root lo hi w h hs (by omega) (by omega) hr hlo hhi hp2.1 hp2.2
theorem proveM_code (fnd:ByteArray -> FN) (n:Int) (m:Nat) (root lo hi:ByteArray) (h1:poolOk n m=true -> 0 <= n):(rangeM fnd n m root lo hi).2=(proveM fnd n m root lo hi).2 /\ ((rangeM fnd n m root lo hi).2 ≠ 0 -> (proveM fnd n m root lo hi).1=⟨#[]⟩) /\ ((rangeM fnd n m root lo hi).2=0 -> poolOk n m=true /\ hashOk root.size n=true /\ (goF fnd hgW lo hi 501 root ⟨#[]⟩ ⟨#[]⟩ ⟨#[]⟩ 0).1=0 /\ (proveM fnd n m root lo hi).1=⟨(prL fnd lo hi 501 root ⟨#[]⟩ ⟨#[]⟩).toArray⟩):=by
 unfold rangeM proveM proveX
 cases hp:poolOk n m with
 | false=>refine ⟨rfl,fun _=>rfl,fun h=>?_⟩;simp at h
 | true =>
  have e:((n.toNat:Nat):Int)=n:=by have:=h1 hp;omega
  rw [e]
  cases hh:hashOk root.size n with
  | false=>refine ⟨rfl,fun _=>rfl,fun h=>?_⟩;simp at h
  | true =>
   simp only [Bool.and_self,if_true]
   by_cases h0:(goF fnd hgW lo hi 501 root ⟨#[]⟩ ⟨#[]⟩ ⟨#[]⟩ 0).1=0
   · rw [if_pos h0,if_pos h0]
     exact ⟨rfl,fun h=>absurd rfl h,fun _=>⟨trivial,trivial,h0,rfl⟩⟩
   · rw [if_neg h0,if_neg h0]
     exact ⟨rfl,fun _=>rfl,fun h=>absurd h h0⟩
theorem sprove_any (HD:Hid DigSaid) (D:Dec) (n:Int) (HD2:Hid (∀ wd:Nat,(wd:Int)=n -> 1 <= wd -> wd <= 32 -> DecSaid 146 wd D)) (hdo:∀ wd:Nat,(wd:Int)=n -> DecOk wd D) (a:Option Addr) (ss:List ByteArray) (c:Nat) (root lo hi:ByteArray) (w:World) (h:SArg a ss w) (hs:Hid (∀ j,(ss.getD j ⟨#[]⟩).size <= 1048575)) (hr:root.size <= 1048576) (hlo:lo.size <= 1048576) (hhi:hi.size <= 1048576) :
 Calls prog 12 #[.agg #[.int .i64 n,.slice a ss.length c],.string root,.string lo,.string hi] w fun e w'=>e=.returned (.tuple #[.string (proveM (fndD D n.toNat ss) n ss.length root lo hi).1,.int .i64 (proveM (fndD D n.toNat ss) n ss.length root lo hi).2]) /\ Below w.heap.size w w':=by
 have hpo:poolOk n ss.length=true -> 1 <= n /\ n <= 32 /\ ss.length <= 20000:=fun hp=>of_decide_eq_true hp
 obtain ⟨q1,q2,q3⟩:=proveM_code (fndD D n.toNat ss) n ss.length root lo hi (fun hp=>by have:=hpo hp;omega)
 have HR:Hid (∀ w',Below w.heap.size w w' -> Calls prog 48 #[.agg #[.int .i64 n,.slice a ss.length c],.string root,.string lo,.string hi] w' fun e w''=>∃ a' c',e=.returned (.tuple #[.slice a' (rangeM (fndD D n.toNat ss) n ss.length root lo hi).1.length c',.int .i64 (rangeM (fndD D n.toNat ss) n ss.length root lo hi).2]) /\ Below w'.heap.size w' w''):=fun w' hb=>by
  refine (srange_any HD D n HD2 hdo a ss c root lo hi w' (h.below hb) hs hr hlo hhi).mono ?_
  rintro e w'' ⟨⟨a',c',he,_⟩,hb2⟩
  exact ⟨a',c',he,hb2⟩
 have hA:Below w.heap.size w (w.alloc (.cells #[.int .i64 n,.slice a ss.length c] 31)):=(Below.refl _ _).alloc (Nat.le_refl _) _
 have nA:=heap_alloc_new w (.cells #[.int .i64 n,.slice a ss.length c] 31)
 obtain ⟨RM,hRM⟩:∃ RM,rangeM (fndD D n.toNat ss) n ss.length root lo hi=RM:=⟨_,rfl⟩
 obtain ⟨PM,hPM⟩:∃ PM,proveM (fndD D n.toNat ss) n ss.length root lo hi=PM:=⟨_,rfl⟩
 rw [hRM] at q1 q2 q3 HR
 rw [hPM] at q1 q2 q3 ⊢
 obtain ⟨ga,hga⟩:∃ ga,w.heap.size=ga:=⟨_,rfl⟩
 have nA':(w.alloc (.cells #[.int .i64 n,.slice a ss.length c] 31)).heap[ga]?=some (.cells #[.int .i64 n,.slice a ss.length c] 31):=by rw [<- hga];exact nA
 clear nA
 have z0:=ZC nA' 0
 have z1:=ZC nA' 1
 by_cases h0:RM.2=0
 · obtain ⟨hp,hh,hg0,hX⟩:=q3 h0
   obtain ⟨p1,p2,p3⟩:=hpo hp
   obtain ⟨wd,rfl⟩:∃ wd:Nat,n=(wd:Int):=⟨n.toNat,by omega⟩
   rw [Int.toNat_natCast] at hg0 hX
   have hsz:root.size=0 \/ root.size=wd:=by
    unfold hashOk at hh
    rcases (Bool.or_eq_true _ _).mp hh with h | h
    · exact .inl (of_decide_eq_true h)
    · exact .inr (by have:=of_decide_eq_true h;omega)
   obtain ⟨N,hN⟩:∃ N,ss.length=N:=⟨_,rfl⟩
   have HHS:Hid (∀ w',Below w.heap.size w w' -> Calls prog 50 #[.agg #[.int .i64 (wd:Int),.slice a N c]] w' fun e w''=>∃ g c',e=.returned (.slice (some ⟨g,0,none⟩) N c') /\ (∀ W,Below w''.heap.size w'' W -> Calls prog 49 #[.agg #[.int .i64 (wd:Int),.slice a N c],.slice (some ⟨g,0,none⟩) N c',.string root,.agg #[.string ⟨#[]⟩,.string ⟨#[]⟩],.string lo,.string hi] W fun e W'=>e=.returned (.string PM.1) /\ Below W.heap.size W W') /\ Below w'.heap.size w' w''):=by
    intro w' hb
    have hA:=h.below hb
    rw [<- hN]
    refine (hashes_any HD wd a ss c w' hA hs (by omega) (by omega)).mono ?_
    rintro e w'' ⟨g,c',rfl,hrow,hb2⟩
    refine ⟨g,c',rfl,fun W hW=>?_,hb2⟩
    have hA2:=hA.below hb2
    have HDd:=HD2.out wd rfl (by omega) (by omega)
    refine (lp_all (fndD D wd ss) wd (fndD_ok D wd ss (hdo wd rfl)) (by omega) a ss.length c g c' lo hi hlo hhi w'' (fun w3 hash hb3=>?_) 501 root ⟨#[]⟩ ⟨#[]⟩ ⟨#[]⟩ 0 W (by omega) hsz hg0 hW (by decide) (by decide)).mono ?_
    · have:=lfind_any D wd HDd a ss c g c' (ss.map (hashT wd)) hash w3 (hA2.below hb3) (by rw [List.length_map]) (Nat.lt_of_lt_of_le hrow.lt hb3.size) (fun j hj=>by
       have e:=(hrow.below hb3).cell j hj
       rw [e,List.getElem?_map,List.getD_eq_getElem?_getD,List.getElem?_eq_getElem (by rw [List.length_map];exact hj)]
       rfl)
      rw [first_hash] at this
      exact this
    · rintro e W' ⟨⟨t,rfl,_,ht⟩,hb4⟩
      refine ⟨?_,hb4⟩
      rw [hX,<- ht.out]
   have e0:Hid (PM.2=0):=by show _=_;rw [<- q1];exact h0
   have HR':Hid (∀ w',Below w.heap.size w w' -> Calls prog 48 #[.agg #[.int .i64 (wd:Int),.slice a N c],.string root,.string lo,.string hi] w' fun e w''=>∃ a' c',e=.returned (.tuple #[.slice a' RM.1.length c',.int .i64 0]) /\ Below w'.heap.size w' w''):=fun w' hb=>by rw [<- hN,<- h0];exact HR.out w' hb
   rw [hN] at hA nA' z0 z1 ⊢
   rw [show PM.2=0 from e0.out]
   have hg1:ga < (w.alloc (.cells #[.int .i64 (wd:Int),.slice a N c] 31)).heap.size:=(Array.getElem?_eq_some_iff.1 nA').1
   clear HR q1 q2 q3 h0 hN hX hg0 hp hh hRM hPM h hs hsz
   go_enter func12,ntmps12
   go_upto_region 1 with fail
   generalize w.alloc (.cells #[.int .i64 (wd:Int),.slice a N c] 31)=W at hA nA' z0 z1 hg1 ⊢
   go_upto_region 4 with (first | (go_at_call 48;refine (HR'.out _ hA).mono ?_;rintro e w1 ⟨a',c',rfl,hb1⟩;have hw1:=hA.trans (hb1.mono hA.size);have n1:=below_cells hb1 nA'))
   clear hb1 z0 z1
   have z0:w1.cell? ⟨ga,0,none⟩=some (.int .i64 (wd:Int)):=ZC n1 0
   have z1:w1.cell? ⟨ga,1,none⟩=some (.slice a N c):=ZC n1 1
   go_region_held3 (fun W=>W.cell? ⟨ga,0,none⟩=some (.int .i64 (wd:Int)) /\ W.cell? ⟨ga,1,none⟩=some (.slice a N c)) (first | exact ⟨z0,z1⟩ | exact ⟨ZC n2 0,ZC n2 1⟩ | exact ⟨ZC n3 0,ZC n3 1⟩) (first | (go_at_call 50;refine (HHS.out w1.drew hw1.drew).mono ?_;rintro e w2 ⟨g,c',rfl,HGG,hb2⟩;have hb2':Below w1.heap.size w1 w2:=(Below.refl w1.heap.size w1).drew.trans hb2;have n2:=below_cells hb2' n1;have hw2:=hw1.trans (hb2'.mono hw1.size)) | (go_at_call 49;refine (HGG w2 (Below.refl _ _)).mono ?_;rintro e w3 ⟨rfl,hb3⟩;have n3:=below_cells hb3 n2;have hw3:=hw2.trans (hb3.mono hw2.size)))
   go_wp2_with fail
   go_ret2
   exact ⟨rfl,hw3⟩
 · have e0:=q2 h0
   have HR':Hid (∀ w',Below w.heap.size w w' -> Calls prog 48 #[.agg #[.int .i64 n,.slice a ss.length c],.string root,.string lo,.string hi] w' fun e w''=>∃ a' c',e=.returned (.tuple #[.slice a' RM.1.length c',.int .i64 PM.2]) /\ Below w'.heap.size w' w''):=fun w' hb=>by rw [<- q1];exact HR.out w' hb
   rw [q1] at h0
   rw [e0]
   have zz:(PM.2 == 0)=false:=by simp [h0]
   clear HR q1 q2 q3 hRM hPM h hs e0
   go_enter func12,ntmps12
   go_wp2_with (first | (go_at_call 48;refine (HR'.out _ hA).mono ?_;rintro e w1 ⟨a',c',rfl,hb1⟩))
   go_ret2
   exact ⟨rfl,hA.trans (hb1.mono hA.size)⟩
def KeysUp:List ByteArray -> Prop
 | []=>True
 | k :: ks=>(∀ x ∈ ks,lessB k x=true) /\ KeysUp ks
theorem bl_irr (a:List UInt8):Op.bytesLess a a=false:=by
 induction a with
 | nil=>rfl
 | cons x y ih=>rw [Op.bytesLess];simp [ih]
theorem bl_tr:∀ (a b c:List UInt8),Op.bytesLess a b=true -> Op.bytesLess b c=true -> Op.bytesLess a c=true
 | [],[],_,h,_=>by simp [Op.bytesLess] at h
 | [],_ :: _,[],_,k=>by simp [Op.bytesLess] at k
 | [],_ :: _,_ :: _,_,_=>by simp [Op.bytesLess]
 | _ :: _,[],_,h,_=>by simp [Op.bytesLess] at h
 | _ :: _,_ :: _,[],_,k=>by simp [Op.bytesLess] at k
 | x :: xs,y :: ys,z :: zs,h,k=>by
  rw [Op.bytesLess] at h k ⊢
  simp only [Bool.or_eq_true,Bool.and_eq_true,decide_eq_true_eq,beq_iff_eq] at h k ⊢
  rcases h with h | ⟨rfl,h⟩
  · rcases k with k | ⟨rfl,k⟩
    · exact .inl (by rw [UInt8.lt_iff_toNat_lt] at *;omega)
    · exact .inl h
  · rcases k with k | ⟨rfl,k⟩
    · exact .inl k
    · exact .inr ⟨rfl,bl_tr xs ys zs h k⟩
theorem lessB_irr (a:ByteArray):lessB a a=false:=bl_irr _
theorem lessB_tr {a b c:ByteArray} (h:lessB a b=true) (k:lessB b c=true):lessB a c=true:=bl_tr _ _ _ h k
theorem lessB_or (a b:ByteArray) (h:lessB a b=false) (hne:a ≠ b):lessB b a=true:=by
 rw [lessB_tri] at h
 rcases (Bool.or_eq_true _ _).mp (by cases hq:(lessB b a || (b.toList == a.toList)) with | true=>rfl | false=>rw [hq] at h;cases h) with h | h
 · exact h
 · have e:b.toList=a.toList:=by simpa using h
   rw [ByteArray.toList_eq,ByteArray.toList_eq] at e
   exact absurd (ByteArray.ext (Array.toList_inj.1 e.symm)) hne
def wout (ps:List PairT) (k:ByteArray):List PairT:=ps.filter fun p=>decide (p.1 ≠ k)
def ins (k v:ByteArray):List PairT -> List PairT
 | []=>[(k,v)]
 | p :: ps=>if lessB k p.1=true then (k,v) :: p :: ps else p :: ins k v ps
def wth (ps:List PairT) (k v:ByteArray):List PairT:=ins k v (wout ps k)
abbrev keys (ps:List PairT):List ByteArray:=ps.map Prod.fst
theorem ku_wout {ps:List PairT} (h:KeysUp (keys ps)) (k:ByteArray):KeysUp (keys (wout ps k)):=by
 induction ps with
 | nil=>exact h
 | cons p ps ih =>
  unfold wout at ih ⊢
  rw [List.filter_cons]
  split
  · refine ⟨fun x hx=>?_,ih h.2⟩
    obtain ⟨y,hy,rfl⟩:=List.mem_map.1 hx
    exact h.1 _ (List.mem_map.2 ⟨y,(List.mem_filter.1 hy).1,rfl⟩)
  · exact ih h.2
theorem mem_wout {ps:List PairT} {k x:ByteArray}:x ∈ keys (wout ps k) ↔ x ∈ keys ps /\ x ≠ k:=by
 unfold wout
 constructor
 · intro h
   obtain ⟨y,hy,rfl⟩:=List.mem_map.1 h
   obtain ⟨h1,h2⟩:=List.mem_filter.1 hy
   exact ⟨List.mem_map.2 ⟨y,h1,rfl⟩,by simpa using h2⟩
 · rintro ⟨h,hn⟩
   obtain ⟨y,hy,rfl⟩:=List.mem_map.1 h
   exact List.mem_map.2 ⟨y,List.mem_filter.2 ⟨hy,by simpa using hn⟩,rfl⟩
theorem mem_ins {k v x:ByteArray}:∀ {ps:List PairT},x ∈ keys (ins k v ps) ↔ x=k \/ x ∈ keys ps
 | []=>by simp [ins]
 | p :: ps=>by
  rw [ins]
  split
  · simp
  · have ih:=mem_ins (k:=k) (v:=v) (x:=x) (ps:=ps)
    simp only [keys,List.map_cons,List.mem_cons] at ih ⊢
    rw [ih]
    constructor
    · rintro (h | h | h)
      · exact .inr (.inl h)
      · exact .inl h
      · exact .inr (.inr h)
    · rintro (h | h | h)
      · exact .inr (.inl h)
      · exact .inl h
      · exact .inr (.inr h)
theorem ku_ins {k v:ByteArray}:∀ {ps:List PairT},KeysUp (keys ps) -> (∀ x ∈ keys ps,x ≠ k) -> KeysUp (keys (ins k v ps))
 | [],_,_=>⟨fun _ h=>by simp at h,trivial⟩
 | p :: ps,h,hn=>by
  rw [ins]
  split
  · rename_i hl
    refine ⟨fun x hx=>?_,h⟩
    rcases List.mem_cons.1 hx with e | hx
    · rw [e];exact hl
    · exact lessB_tr hl (h.1 x hx)
  · rename_i hl
    refine ⟨fun x hx=>?_,ku_ins h.2 (fun x hx=>hn x (List.mem_cons_of_mem _ hx))⟩
    rcases mem_ins.1 hx with e | hx
    · rw [e]
      exact lessB_or _ _ (by simpa using hl) (fun e=>hn p.1 List.mem_cons_self e.symm)
    · exact h.1 x hx
theorem ku_wth {ps:List PairT} (h:KeysUp (keys ps)) (k v:ByteArray):KeysUp (keys (wth ps k v)):=ku_ins (ku_wout h k) (fun _ hx=>(mem_wout.1 hx).2)
theorem mem_wth {ps:List PairT} {k v x:ByteArray}:x ∈ keys (wth ps k v) ↔ x=k \/ x ∈ keys ps:=by
 unfold wth
 rw [mem_ins,mem_wout]
 constructor
 · rintro (h | h)
   · exact .inl h
   · exact .inr h.1
 · rintro (h | h)
   · exact .inl h
   · by_cases e:x=k
     · exact .inl e
     · exact .inr ⟨h,e⟩
end Go.Proofs.YtibjhkpgaaapaaaGreatDoor
