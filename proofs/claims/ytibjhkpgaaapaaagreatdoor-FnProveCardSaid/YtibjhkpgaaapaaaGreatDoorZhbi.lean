import Derived.Test.YtibjhkpgaaapaaaGreatDoorZhbh
import Derived.Test.YtibjhkpgaaapaaaGreatDoorZhau
import Derived.Test.YtibjhkpgaaapaaaGreatDoorZhbd
set_option maxRecDepth 100000
set_option maxHeartbeats 1000000
namespace Go.Proofs.YtibjhkpgaaapaaaGreatDoor
open Go.RowKit Go.Proofs.Sha Tryz
def commitRec (v:Int) (root:ByteArray):ByteArray:=if 1 <= v /\ v <= 1000000 /\ root.size <= 32 then T (marked (four v.toNat ++ [UInt8.ofNat root.size] ++ root.data.toList) [67] []) else ⟨#[]⟩
theorem commitRec_any (v:Int) (root:ByteArray) (w:World) (hs:root.size <= 1048576) :
 Calls prog 167 #[.int .i64 v,.string root] w fun e w'=>∃ t,e=.returned (.string t) /\ Hid (t=commitRec v root) /\ Below w.heap.size w w':=by
 by_cases h:1 <= v /\ v <= 1000000 /\ root.size <= 32
 · obtain ⟨n,rfl⟩:=Int.eq_ofNat_of_zero_le (show 0 <= v by omega)
   have z1:decide ((n:Int) < 1)=false:=by simp;omega
   have z2:decide ((1000000:Int) < (n:Int))=false:=by simp;omega
   have z3:decide ((32:Int) < (root.size:Int))=false:=by simp;omega
   go_enter func167,ntmps167
   go_wp2_with fail
   refine (four_any n (by omega) _).mono ?_
   rintro e w1 ⟨t,rfl,ht,HT,hb⟩
   go_wp2_with fail
   refine (byte_i _ (by omega) (by omega) _).mono ?_
   rintro e w2 ⟨t2,rfl,ht2,HT2,hb2⟩
   have z4:¬ (9223372036854775807 < t.size + t2.size):=by omega
   have z5:¬ (9223372036854775807 < t.size + t2.size + root.size):=by omega
   go_wp2_with fail
   refine (marked_any _ ⟨#[67]⟩ ⟨#[]⟩ _ (by rw [ByteArray.size_append,ByteArray.size_append];omega) (Nat.le_refl _) (Nat.zero_le _)).mono ?_
   rintro e w3 ⟨x,rfl,HX,hb3⟩
   go_wp2
   go_ret
   refine ⟨x,rfl,?_,(hb.trans (hb2.mono hb.size)).trans (hb3.mono (Nat.le_trans hb.size hb2.size))⟩
   show x=_
   rw [HX.out,HT.out,HT2.out,byteS_T,commitRec,if_pos h]
   conv=>lhs;rw [<- T_of root,T_append,T_append]
   rw [T_of,Int.toNat_natCast,Int.toNat_natCast];rfl
 · have HR:Hid (commitRec v root=⟨#[]⟩):=by show commitRec v root=_;rw [commitRec,if_neg h]
   by_cases h1:v < 1
   · have z1:decide (v < 1)=true:=by simpa using h1
     go_enter func167,ntmps167
     go_wp2
     go_ret
     exact ⟨_,rfl,HR.out.symm,Below.refl _ _⟩
   by_cases h2:1000000 < v
   · have z1:decide (v < 1)=false:=by simpa using h1
     have z2:decide (1000000 < v)=true:=by simpa using h2
     go_enter func167,ntmps167
     go_wp2
     go_ret
     exact ⟨_,rfl,HR.out.symm,Below.refl _ _⟩
   · have z1:decide (v < 1)=false:=by simpa using h1
     have z2:decide (1000000 < v)=false:=by simpa using h2
     have z3:decide ((32:Int) < (root.size:Int))=true:=by simp;omega
     go_enter func167,ntmps167
     go_wp2
     go_ret
     exact ⟨_,rfl,HR.out.symm,Below.refl _ _⟩
theorem commitRec_le (v:Int) (root:ByteArray):(commitRec v root).size <= 64:=by
 unfold commitRec
 split
 · rename_i h
   rw [T_size]
   have hl:(four v.toNat ++ [UInt8.ofNat root.size] ++ root.data.toList).length=5 + root.size:=by rw [List.length_append,List.length_append];rfl
   unfold marked
   rw [show ((four v.toNat ++ [UInt8.ofNat root.size] ++ root.data.toList).length + 62) / 63=1 by omega,markedTo,markedTo,List.nil_append,if_pos rfl,List.length_append,part63_length]
   exact Nat.le_refl _
 · exact Nat.zero_le _
theorem long_d (c:UInt8) (m:Int) (n:Nat) (hm:m=(n:Int)) (h1:n <= 1048576) (w:World) :
 Calls prog 134 #[.int .i64 m,.string ⟨#[c]⟩] w fun e w'=>e=.returned (.string (reps n c)) /\ Below w.heap.size w w':=by
 subst hm
 exact (long_any c n h1 w).mono (by rintro e w' ⟨t,rfl,hz,HT,hb⟩;exact ⟨by rw [HT.out],hb⟩)
theorem byte_d (m:Int) (n:Nat) (hm:m=(n:Int)) (h1:n <= 1048576) (w:World) :
 Calls prog 91 #[.int .i64 m] w fun e w'=>e=.returned (.string (byteS n)) /\ Below w.heap.size w w':=by
 subst hm
 exact byte_any n h1 w
theorem commit_d (v:Int) (root:ByteArray) (hs:root.size <= 1048576) (w:World) :
 Calls prog 167 #[.int .i64 v,.string root] w fun e w'=>e=.returned (.string (commitRec v root)) /\ Below w.heap.size w w' :=
 (commitRec_any v root w hs).mono (by rintro e w' ⟨t,rfl,HT,hb⟩;exact ⟨by rw [HT.out],hb⟩)
theorem key_det (a:Option Addr) (xs:List Nat) (cap:Nat) (p:Nat) (hX:Code8 xs) (hp:p <= 100000) :
 ∃ t:ByteArray,t.size <= 70 /\ ∀ w,BL a xs w -> Calls prog 135 #[.slice a xs.length cap,.int .i64 (p:Int)] w fun e w'=>e=.returned (.tuple #[.string t,.int .i64 ((p + 1:Nat):Int)]) /\ Below w.heap.size w w':=by
 obtain ⟨x,hx,HT⟩:=take_det a xs cap p 24 hX hp (by omega) (by omega)
 replace HT:Hid _:=HT
 by_cases h1:x < 20
 · have z1:decide ((x:Int) < 20)=true:=by simp;omega
   have y1:IntKind.i64.wrap ((x:Int) + 1)=(x:Int) + 1:=wrap_i64_in _ (by omega) (by omega)
   have y2:(x:Int) <= (x:Int) + 1:=by omega
   have y3:(x:Int) + 1 <= 20:=by omega
   refine ⟨(⟨#[97,98,99,100,101,102,103,104,105,106,107,108,109,110,111,112,113,114,115,116]⟩:ByteArray).extract x (x + 1),by rw [ByteArray.size_extract];omega,fun w h=>?_⟩
   go_enter func135,ntmps135
   go_wp2_with fail
   refine (HT.out w h).mono ?_
   rintro e w1 ⟨rfl,hb⟩
   go_wp2_with fail
   go_ret2
   exact ⟨rfl,hb⟩
 have z1:decide ((x:Int) < 20)=false:=by simp;omega
 by_cases h2:x=20
 · subst h2
   refine ⟨⟨#[97,98]⟩,by decide,fun w h=>?_⟩
   go_enter func135,ntmps135
   go_wp2_with fail
   refine (HT.out w h).mono ?_
   rintro e w1 ⟨rfl,hb⟩
   go_wp2_with fail
   go_ret2
   exact ⟨rfl,hb⟩
 have z2:((x:Int) == 20)=false:=by rw [beq_eq_false_iff_ne];omega
 by_cases h3:x=21
 · subst h3
   refine ⟨⟨#[98,0]⟩,by decide,fun w h=>?_⟩
   go_enter func135,ntmps135
   go_wp2_with fail
   refine (HT.out w h).mono ?_
   rintro e w1 ⟨rfl,hb⟩
   go_wp2_with fail
   go_ret2
   exact ⟨rfl,hb⟩
 have z3:((x:Int) == 21)=false:=by rw [beq_eq_false_iff_ne];omega
 by_cases h4:x=22
 · subst h4
   refine ⟨⟨#[255,0,107]⟩,by decide,fun w h=>?_⟩
   go_enter func135,ntmps135
   go_wp2_with fail
   refine (HT.out w h).mono ?_
   rintro e w1 ⟨rfl,hb⟩
   go_wp2_with fail
   go_ret2
   exact ⟨rfl,hb⟩
 have z4:((x:Int) == 22)=false:=by rw [beq_eq_false_iff_ne];omega
 refine ⟨reps 70 107,by rw [reps_size];omega,fun w h=>?_⟩
 go_enter func135,ntmps135
 go_wp2_with fail
 refine (HT.out w h).mono ?_
 rintro e w1 ⟨rfl,hb⟩
 go_wp2_with fail
 refine (long_d _ 70 70 rfl (by omega) _).mono ?_
 rintro e w2 ⟨rfl,hb2⟩
 go_wp2_with fail
 go_ret2
 exact ⟨rfl,hb.trans (hb2.mono hb.size)⟩
theorem val_det (a:Option Addr) (xs:List Nat) (cap:Nat) (p:Nat) (hX:Code8 xs) (hp:p <= 90000) :
 ∃ t:ByteArray,t.size <= 300 /\ ∀ w,BL a xs w -> Calls prog 136 #[.slice a xs.length cap,.int .i64 (p:Int)] w fun e w'=>e=.returned (.tuple #[.string t,.int .i64 ((p + 2:Nat):Int)]) /\ Below w.heap.size w w':=by
 obtain ⟨x,hx,HT⟩:=take_det a xs cap p 16 hX (by omega) (by omega) (by omega)
 obtain ⟨y,hy,HT2⟩:=take_det a xs cap (p + 1) 120 hX (by omega) (by omega) (by omega)
 replace HT:Hid _:=HT
 replace HT2:Hid _:=HT2
 obtain ⟨p1,hp1⟩:∃ p1,p + 1=p1:=⟨_,rfl⟩
 obtain ⟨p2,hp2⟩:∃ p2,p + 2=p2:=⟨_,rfl⟩
 rw [show p + 1 + 1=p2 by omega] at HT2
 rw [hp1] at HT HT2
 rw [hp2]
 clear hp1 hp2
 by_cases h1:x < 2
 · have z1:decide ((x:Int) < 2)=true:=by simp;omega
   refine ⟨⟨#[]⟩,by decide,fun w h=>?_⟩
   go_enter func136,ntmps136
   go_wp2_with fail
   refine (HT.out w h).mono ?_
   rintro e w1 ⟨rfl,hb1⟩
   go_wp2_with fail
   refine (HT2.out _ (h.below hb1)).mono ?_
   rintro e w2 ⟨rfl,hb2⟩
   have hb:Below w.heap.size w w2:=hb1.trans (hb2.mono hb1.size)
   go_wp2_with fail
   go_ret2
   exact ⟨rfl,hb⟩
 have z1:decide ((x:Int) < 2)=false:=by simp;omega
 by_cases h2:x=14
 · subst h2
   refine ⟨reps (y * 2) 118,by rw [reps_size];omega,fun w h=>?_⟩
   go_enter func136,ntmps136
   go_wp2_with fail
   refine (HT.out w h).mono ?_
   rintro e w1 ⟨rfl,hb1⟩
   go_wp2_with fail
   refine (HT2.out _ (h.below hb1)).mono ?_
   rintro e w2 ⟨rfl,hb2⟩
   have hb:Below w.heap.size w w2:=hb1.trans (hb2.mono hb1.size)
   go_wp2_with fail
   refine (long_d _ _ (y * 2) (by omega) (by omega) _).mono ?_
   rintro e w3 ⟨rfl,hb3⟩
   go_wp2_with fail
   go_ret2
   exact ⟨rfl,hb.trans (hb3.mono hb.size)⟩
 have z2:((x:Int) == 14)=false:=by rw [beq_eq_false_iff_ne];omega
 by_cases h3:x=15
 · subst h3
   obtain ⟨t3,ht3⟩:∃ t,reps (y % 63) 0=t:=⟨_,rfl⟩
   obtain ⟨t4,ht4⟩:∃ t,commitRec ((y % 4 + 1:Nat):Int) ⟨#[]⟩=t:=⟨_,rfl⟩
   obtain ⟨t6,ht6⟩:∃ t,commitRec ((y % 3 + 1:Nat):Int) (reps 1 114)=t:=⟨_,rfl⟩
   have k3:t3.size <= 63:=by rw [<- ht3,reps_size];omega
   have k4:t4.size <= 64:=by rw [<- ht4];exact commitRec_le _ _
   have k6:t6.size <= 64:=by rw [<- ht6];exact commitRec_le _ _
   have f1:¬ (9223372036854775807 < t3.size + t4.size):=by omega
   have f2:¬ (9223372036854775807 < t3.size + t4.size + t6.size):=by omega
   have H3:Hid (∀ w m,m=((y % 63:Nat):Int) -> Calls prog 134 #[.int .i64 m,.string ⟨#[0]⟩] w fun e w'=>e=.returned (.string t3) /\ Below w.heap.size w w'):=fun w m hm=>by rw [<- ht3];exact long_d 0 m (y % 63) hm (by omega) w
   have H4:Hid (∀ w m,m=((y % 4 + 1:Nat):Int) -> Calls prog 167 #[.int .i64 m,.string ⟨#[]⟩] w fun e w'=>e=.returned (.string t4) /\ Below w.heap.size w w'):=fun w m hm=>by rw [<- ht4,hm];exact commit_d _ _ (by decide) w
   have H6:Hid (∀ w m,m=((y % 3 + 1:Nat):Int) -> Calls prog 167 #[.int .i64 m,.string (reps 1 114)] w fun e w'=>e=.returned (.string t6) /\ Below w.heap.size w w'):=fun w m hm=>by rw [<- ht6,hm];exact commit_d _ _ (by rw [reps_size];omega) w
   clear ht3 ht4 ht6
   refine ⟨t3 ++ t4 ++ t6,by rw [ByteArray.size_append,ByteArray.size_append];omega,fun w h=>?_⟩
   go_enter func136,ntmps136
   go_wp2_with fail
   refine (HT.out w h).mono ?_
   rintro e w1 ⟨rfl,hb1⟩
   go_wp2_with fail
   refine (HT2.out _ (h.below hb1)).mono ?_
   rintro e w2 ⟨rfl,hb2⟩
   have hb:Below w.heap.size w w2:=hb1.trans (hb2.mono hb1.size)
   go_wp2_with fail
   refine (H3.out _ _ (by omega)).mono ?_
   rintro e w3 ⟨rfl,hb3⟩
   have hB3:=hb.trans (hb3.mono hb.size)
   go_wp2_with fail
   refine (H4.out _ _ (by omega)).mono ?_
   rintro e w4 ⟨rfl,hb4⟩
   have hB4:=hB3.trans (hb4.mono hB3.size)
   go_wp2_with fail
   refine (long_d _ _ 1 (by omega) (by omega) _).mono ?_
   rintro e w5 ⟨rfl,hb5⟩
   have hB5:=hB4.trans (hb5.mono hB4.size)
   go_wp2_with fail
   refine (H6.out _ _ (by omega)).mono ?_
   rintro e w6 ⟨rfl,hb6⟩
   have hB6:=hB5.trans (hb6.mono hB5.size)
   clear hb hb3 hb4 hb5 hb6 hB3 hB4 hB5
   go_wp2_with fail
   go_ret2
   exact ⟨rfl,hB6⟩
 have z3:((x:Int) == 15)=false:=by rw [beq_eq_false_iff_ne];omega
 refine ⟨⟨#[118]⟩ ++ byteS (48 + y % 10) ++ byteS (48 + y / 10),by rw [ByteArray.size_append,ByteArray.size_append];show 1 + 1 + 1 <= 300;omega,fun w h=>?_⟩
 obtain ⟨t3,ht3⟩:∃ t,byteS (48 + y % 10)=t:=⟨_,rfl⟩
 obtain ⟨t4,ht4⟩:∃ t,byteS (48 + y / 10)=t:=⟨_,rfl⟩
 have k3:t3.size=1:=by rw [<- ht3];rfl
 have k4:t4.size=1:=by rw [<- ht4];rfl
 have H3:Hid (∀ w m,m=((48 + y % 10:Nat):Int) -> Calls prog 91 #[.int .i64 m] w fun e w'=>e=.returned (.string t3) /\ Below w.heap.size w w'):=fun w m hm=>by rw [<- ht3];exact byte_d m _ hm (by omega) w
 have H4:Hid (∀ w m,m=((48 + y / 10:Nat):Int) -> Calls prog 91 #[.int .i64 m] w fun e w'=>e=.returned (.string t4) /\ Below w.heap.size w w'):=fun w m hm=>by rw [<- ht4];exact byte_d m _ hm (by omega) w
 rw [ht3,ht4]
 clear ht3 ht4
 have f1:¬ (9223372036854775807 < 1 + t3.size):=by omega
 have f2:¬ (9223372036854775807 < 1 + t3.size + t4.size):=by omega
 go_enter func136,ntmps136
 go_wp2_with fail
 refine (HT.out w h).mono ?_
 rintro e w1 ⟨rfl,hb1⟩
 go_wp2_with fail
 refine (HT2.out _ (h.below hb1)).mono ?_
 rintro e w2 ⟨rfl,hb2⟩
 have hb:Below w.heap.size w w2:=hb1.trans (hb2.mono hb1.size)
 go_wp2_with fail
 refine (H3.out _ _ (by omega)).mono ?_
 rintro e w3 ⟨rfl,hb3⟩
 have hB3:=hb.trans (hb3.mono hb.size)
 go_wp2_with fail
 refine (H4.out _ _ (by omega)).mono ?_
 rintro e w4 ⟨rfl,hb4⟩
 have hB4:=hB3.trans (hb4.mono hB3.size)
 go_wp2_with fail
 go_ret2
 exact ⟨rfl,hB4⟩
theorem kv_det (a:Option Addr) (xs:List Nat) (cap:Nat) (hX:Code8 xs):∃ kf vf:Nat -> ByteArray,∀ p:Nat,p <= 80000 -> (kf p).size <= 70 /\ (vf p).size <= 300 /\ (∀ w,BL a xs w -> Calls prog 135 #[.slice a xs.length cap,.int .i64 (p:Int)] w fun e w'=>e=.returned (.tuple #[.string (kf p),.int .i64 ((p + 1:Nat):Int)]) /\ Below w.heap.size w w') /\ ∀ w,BL a xs w -> Calls prog 136 #[.slice a xs.length cap,.int .i64 (p:Int)] w fun e w'=>e=.returned (.tuple #[.string (vf p),.int .i64 ((p + 2:Nat):Int)]) /\ Below w.heap.size w w':=by
 have h:∀ p:Nat,∃ kv:ByteArray × ByteArray,p <= 80000 -> kv.1.size <= 70 /\ kv.2.size <= 300 /\ (∀ w,BL a xs w -> Calls prog 135 #[.slice a xs.length cap,.int .i64 (p:Int)] w fun e w'=>e=.returned (.tuple #[.string kv.1,.int .i64 ((p + 1:Nat):Int)]) /\ Below w.heap.size w w') /\ ∀ w,BL a xs w -> Calls prog 136 #[.slice a xs.length cap,.int .i64 (p:Int)] w fun e w'=>e=.returned (.tuple #[.string kv.2,.int .i64 ((p + 2:Nat):Int)]) /\ Below w.heap.size w w':=fun p=>by
  by_cases hp:p <= 80000
  · obtain ⟨k,hk,HK⟩:=key_det a xs cap p hX (by omega)
    obtain ⟨v,hv,HV⟩:=val_det a xs cap p hX (by omega)
    exact ⟨(k,v),fun _=>⟨hk,hv,HK,HV⟩⟩
  · exact ⟨(⟨#[]⟩,⟨#[]⟩),fun q=>absurd q hp⟩
 obtain ⟨f,hf⟩:=Classical.axiomOfChoice h
 exact ⟨fun p=>(f p).1,fun p=>(f p).2,hf⟩
def mapD (kf vf:Nat -> ByteArray) (p:Nat):Nat -> List PairT
 | 0=>[]
 | i + 1=>wth (mapD kf vf p i) (kf (p + 3 * i)) (vf (p + 3 * i + 1))
structure SmP (ps:List PairT) (n:Nat):Prop where
 len:ps.length <= n
 up:KeysUp (keys ps)
 sz:∀ q ∈ ps,q.1.size <= 70 /\ q.2.size <= 300
theorem SmP.small {ps:List PairT} {n:Nat} (h:SmP ps n) (hn:n <= 100000):SmallP ps:=smallP_of (by have:=h.len;omega) (fun q hq=>by have:=h.sz q hq;omega)
theorem SmP.wth {ps:List PairT} {n:Nat} (h:SmP ps n) {k v:ByteArray} (hk:k.size <= 70) (hv:v.size <= 300):SmP (wth ps k v) (n + 1) :=
 ⟨by have:=wthLen ps k v;have:=h.len;omega,ku_wth h.up k v,fun q hq=>by
  rcases wth_mem hq with e | e
  · rw [e];exact ⟨hk,hv⟩
  · exact h.sz q e⟩
theorem SmP.wout {ps:List PairT} {n:Nat} (h:SmP ps n) (k:ByteArray):SmP (wout ps k) n :=
 ⟨Nat.le_trans (wout_le ps k) h.len,ku_wout h.up k,fun q hq=>h.sz q (wout_mem hq)⟩
theorem map1_det (a:Option Addr) (xs:List Nat) (cap p n:Nat) (hX:Code8 xs) (hp:p <= 70000) (hn:n <= 100) :
 ∃ ps:List PairT,(SmP ps n /\ (0 < n -> 0 < ps.length)) /\ ∀ w,BL a xs w -> Calls prog 117 #[.slice a xs.length cap,.int .i64 (p:Int),.int .i64 (n:Int)] w fun e w'=>∃ a' c',e=.returned (.tuple #[.slice a' ps.length c',.int .i64 ((p + 3 * n:Nat):Int)]) /\ OwnP w ps a' ps.length c' w':=by
 obtain ⟨kf,vf,hkv⟩:=kv_det a xs cap hX
 have hsm:∀ i,i <= n -> SmP (mapD kf vf p i) i:=by
  intro i
  induction i with
  | zero=>intro _;exact ⟨Nat.le_refl _,trivial,fun q hq=>by cases hq⟩
  | succ i ih =>
   intro hi
   exact (ih (by omega)).wth (hkv _ (by omega)).1 (hkv _ (by omega)).2.1
 refine ⟨mapD kf vf p n,⟨hsm n (Nat.le_refl _),fun h0=>?_⟩,fun w hB=>?_⟩
 · obtain ⟨i,rfl⟩:∃ i,n=i + 1:=⟨n - 1,by omega⟩
   have hm:kf (p + 3 * i) ∈ keys (mapD kf vf p (i + 1)):=mem_wth.2 (.inl rfl)
   have h1:=List.length_pos_of_mem hm
   unfold keys at h1
   rwa [List.length_map] at h1
 have HKV:Hid (∀ i w',i <= n -> Below w.heap.size w w' -> Calls prog 135 #[.slice a xs.length cap,.int .i64 ((p + 3 * i:Nat):Int)] w' (fun e w''=>e=.returned (.tuple #[.string (kf (p + 3 * i)),.int .i64 ((p + 3 * i + 1:Nat):Int)]) /\ Below w'.heap.size w' w'') /\ Calls prog 136 #[.slice a xs.length cap,.int .i64 ((p + 3 * i + 1:Nat):Int)] w' (fun e w''=>e=.returned (.tuple #[.string (vf (p + 3 * i + 1)),.int .i64 ((p + 3 * i + 1 + 2:Nat):Int)]) /\ Below w'.heap.size w' w'')):=fun i w' hi hb=>⟨(hkv (p + 3 * i) (by omega)).2.2.1 w' (hB.below hb),(hkv (p + 3 * i + 1) (by omega)).2.2.2 w' (hB.below hb)⟩
 have HW:Hid (∀ i a3 c3 w',i < n -> PArg a3 (mapD kf vf p i) w' -> Calls prog 86 #[.slice a3 (mapD kf vf p i).length c3,.string (kf (p + 3 * i)),.string (vf (p + 3 * i + 1))] w' (PairsAt (mapD kf vf p (i + 1)) w')):=fun i a3 c3 w' hi hP=>with_any a3 _ c3 _ _ w' hP (by have:=(hkv (p + 3 * i) (by omega)).1;omega) (by have:=(hsm i (by omega)).len;omega)
 have hO:OwnP w [] (some ⟨w.heap.size,0,none⟩) 0 0 (w.alloc (.cells #[] 81)):=OwnP.nil w
 have HP:Hid (∀ i a3 m c3 W,i <= n -> OwnP w (mapD kf vf p i) a3 m c3 W -> PArg a3 (mapD kf vf p i) W):=fun i a3 m c3 W hi h=>ownp_parg h ((hsm i hi).small (by omega))
 clear hB hkv hsm
 obtain ⟨L,hL⟩:∃ L,xs.length=L:=⟨_,rfl⟩
 rw [hL] at HKV ⊢
 clear hL
 go_enter func117,ntmps117
 go_wp2_with fail
 generalize w.alloc (.cells #[] 81)=W0 at hO ⊢
 obtain ⟨g0,hg0⟩:∃ g,w.heap.size=g:=⟨_,rfl⟩
 have hO':OwnP w [] (some ⟨g0,0,none⟩) 0 0 W0:=by rw [<- hg0];exact hO
 try rw [hg0]
 clear hO hg0
 go_loopw [1,8,9] (fun t1 t8 t9 wr=>∃ (i:Nat) (a3:Option Addr) (c3:Nat),i <= n /\ t9=.int .i64 (i:Int) /\ t1=.int .i64 ((p + 3 * i:Nat):Int) /\ t8=.slice a3 (mapD kf vf p i).length c3 /\ OwnP w (mapD kf vf p i) a3 (mapD kf vf p i).length c3 wr) (fun _ _ t9 _=>n - (intOf t9).toNat)
 case atStart=>exact ⟨0,some ⟨g0,0,none⟩,0,Nat.zero_le _,rfl,rfl,rfl,hO'⟩
 case round =>
  clear hO'
  obtain ⟨i,a3,c3,hi,rfl,rfl,rfl,hT⟩:=hrel
  by_cases hlt:i < n
  · have z1:decide ((i:Int) < (n:Int))=true:=by simp;omega
    have hP:=HP.out i a3 _ c3 wr hi hT
    have HW':Hid (∀ w',PArg a3 (mapD kf vf p i) w' -> Calls prog 86 #[.slice a3 (mapD kf vf p i).length c3,.string (kf (p + 3 * i)),.string (vf (p + 3 * i + 1))] w' (PairsAt (mapD kf vf p (i + 1)) w')):=fun w' q=>HW.out i a3 c3 w' hlt q
    unfold PairsAt at HW'
    have HKV':Hid (∀ w',Below w.heap.size w w' -> Calls prog 135 #[.slice a L cap,.int .i64 ((p + 3 * i:Nat):Int)] w' (fun e w''=>e=.returned (.tuple #[.string (kf (p + 3 * i)),.int .i64 ((p + 3 * i + 1:Nat):Int)]) /\ Below w'.heap.size w' w'') /\ Calls prog 136 #[.slice a L cap,.int .i64 ((p + 3 * i + 1:Nat):Int)] w' (fun e w''=>e=.returned (.tuple #[.string (vf (p + 3 * i + 1)),.int .i64 ((p + 3 * i + 1 + 2:Nat):Int)]) /\ Below w'.heap.size w' w'')):=fun w' hb=>HKV.out i w' hi hb
    have hbw:=hT.bel
    have hnx:Hid (p + 3 * i + 1 + 2=p + 3 * (i + 1)):=by show _=_;omega
    obtain ⟨X,hX'⟩:∃ X,mapD kf vf p i=X:=⟨_,rfl⟩
    obtain ⟨Y,hY⟩:∃ Y,mapD kf vf p (i + 1)=Y:=⟨_,rfl⟩
    have hYH:Hid (mapD kf vf p (i + 1)=Y):=hY
    rw [hX'] at HW' hP
    rw [hX']
    rw [hY] at HW'
    generalize kf (p + 3 * i)=ky at HKV' HW'
    generalize vf (p + 3 * i + 1)=vl at HKV' HW'
    obtain ⟨q0,hq0⟩:∃ q,p + 3 * i=q:=⟨_,rfl⟩
    rw [hq0] at HKV' hnx ⊢
    clear hT hX' hY hq0
    go_wp2_with (first | (go_at_call 135;refine (HKV'.out _ hbw).1.mono ?_;rintro e w1 ⟨rfl,hb1⟩;have hbw1:=hbw.trans (hb1.mono hbw.size)) | (go_at_call 136;refine (HKV'.out _ hbw1).2.mono ?_;rintro e w2 ⟨rfl,hb2⟩;have hbw2:=hbw1.trans (hb2.mono hbw1.size)) | (go_at_call 86;refine (HW'.out _ ((hP.below hb1).below hb2)).mono ?_;rintro e w3 ⟨a4,c4,rfl,hT4⟩;have hT4':=hT4.up hbw2))
    go_roundw
    case rel=>exact ⟨i + 1,a4,c4,hlt,by go_num,by rw [<- hnx.out];rfl,by rw [hYH.out],by rw [hYH.out];exact hT4'⟩
    case measure=>simp [intOf];omega
  · obtain rfl:i=n:=by omega
    have z1:decide ((i:Int) < (i:Int))=false:=by simp
    go_wp2_with fail
    go_ret2
    exact ⟨a3,c3,rfl,hT⟩
theorem map_det (a:Option Addr) (xs:List Nat) (cap p n:Nat) (hX:Code8 xs) (hp:p <= 70000) (hn:n <= 100) :
 ∃ ps:List PairT,SmP ps n /\ ∀ w,BL a xs w -> Calls prog 117 #[.slice a xs.length cap,.int .i64 (p:Int),.int .i64 (n:Int)] w fun e w'=>∃ a' c',e=.returned (.tuple #[.slice a' ps.length c',.int .i64 ((p + 3 * n:Nat):Int)]) /\ OwnP w ps a' ps.length c' w':=by
 obtain ⟨ps,⟨h1,_⟩,H⟩:=map1_det a xs cap p n hX hp hn
 exact ⟨ps,h1,H⟩
theorem take3_det (a:Option Addr) (xs:List Nat) (cap m:Nat) (hX:Code8 xs) (h1:1 <= m) (h2:m <= 100000):∃ af:Nat -> Nat,∀ p:Nat,p <= 80000 -> af p < m /\ ∀ w,BL a xs w -> Calls prog 58 #[.slice a xs.length cap,.int .i64 (p:Int),.int .i64 (m:Int)] w fun e w'=>e=.returned (.tuple #[.int .i64 (af p:Int),.int .i64 ((p + 1:Nat):Int)]) /\ Below w.heap.size w w':=by
 have h:∀ p:Nat,∃ x:Nat,p <= 80000 -> x < m /\ ∀ w,BL a xs w -> Calls prog 58 #[.slice a xs.length cap,.int .i64 (p:Int),.int .i64 (m:Int)] w fun e w'=>e=.returned (.tuple #[.int .i64 (x:Int),.int .i64 ((p + 1:Nat):Int)]) /\ Below w.heap.size w w':=fun p=>by
  by_cases hp:p <= 80000
  · obtain ⟨x,hx,HT⟩:=take_det a xs cap p m hX (by omega) h1 h2
    exact ⟨x,fun _=>⟨hx,HT⟩⟩
  · exact ⟨0,fun q=>absurd q hp⟩
 exact Classical.axiomOfChoice h
def nearD (af:Nat -> Nat) (kf vf:Nat -> ByteArray) (p:Nat) (ps:List PairT):Nat -> List PairT
 | 0=>ps
 | i + 1=>if af (p + 1 + 4 * i)=0 then wout (nearD af kf vf p ps i) (kf (p + 2 + 4 * i)) else wth (nearD af kf vf p ps i) (kf (p + 2 + 4 * i)) (vf (p + 3 + 4 * i))
def PGot (qs ps:List PairT) (z:Nat) (a3:Option Addr) (w:World) (e:Ending) (w':World):Prop:=∃ a' c',e=.returned (.tuple #[.slice a' qs.length c',.int .i64 (z:Int)]) /\ PArg a' qs w' /\ qs.length <= c' /\ (∀ b off,a'=some ⟨b,off,none⟩ -> w.heap.size <= b \/ (a'=a3 /\ qs=ps)) /\ Below w.heap.size w w'
theorem OwnP.ge {w W:World} {xs:List PairT} {a:Option Addr} {m c:Nat} (h:OwnP w xs a m c W):∀ b off,a=some ⟨b,off,none⟩ -> w.heap.size <= b:=fun b off e=>by
 subst e
 exact (own2_cells h.own (g:=b) rfl).1
theorem near_det (a:Option Addr) (xs:List Nat) (cap p:Nat) (ps:List PairT) (M:Nat) (hX:Code8 xs) (hp:p <= 70000) (hM:M <= 1000) (hS:SmP ps M) :
 ∃ (qs:List PairT) (z:Nat),(SmP qs (M + 3) /\ p <= z /\ z <= p + 13) /\ ∀ a3 c3 w,BL a xs w -> PArg a3 ps w -> ps.length <= c3 -> Calls prog 78 #[.slice a xs.length cap,.int .i64 (p:Int),.slice a3 ps.length c3] w (PGot qs ps z a3 w):=by
 obtain ⟨kf,vf,hkv⟩:=kv_det a xs cap hX
 obtain ⟨af,haf⟩:=take3_det a xs cap 3 hX (by omega) (by omega)
 obtain ⟨n,hn,Hn⟩:=take_det a xs cap p 4 hX (by omega) (by omega) (by omega)
 have hsm:∀ i,i <= n -> SmP (nearD af kf vf p ps i) (M + i):=by
  intro i
  induction i with
  | zero=>intro _;exact hS
  | succ i ih =>
   intro hi
   rw [nearD]
   split
   · have:=(ih (by omega)).wout (kf (p + 2 + 4 * i))
     exact ⟨by have:=this.len;omega,this.up,this.sz⟩
   · exact (ih (by omega)).wth (hkv _ (by omega)).1 (hkv _ (by omega)).2.1
 have hq:=hsm n (Nat.le_refl _)
 refine ⟨nearD af kf vf p ps n,p + 1 + 4 * n,⟨⟨by have:=hq.len;omega,hq.up,hq.sz⟩,by omega,by omega⟩,fun a3 c3 w hB hP hc3=>?_⟩
 have HTk:Hid (∀ i w',i <= n -> Below w.heap.size w w' -> Calls prog 58 #[.slice a xs.length cap,.int .i64 ((p + 1 + 4 * i:Nat):Int),.int .i64 ((3:Nat):Int)] w' fun e w''=>e=.returned (.tuple #[.int .i64 (af (p + 1 + 4 * i):Int),.int .i64 ((p + 1 + 4 * i + 1:Nat):Int)]) /\ Below w'.heap.size w' w''):=fun i w' hi hb=>(haf (p + 1 + 4 * i) (by omega)).2 w' (hB.below hb)
 have Hn':=Hn w hB
 have HK:Hid (∀ i w',i <= n -> Below w.heap.size w w' -> Calls prog 135 #[.slice a xs.length cap,.int .i64 ((p + 1 + 4 * i + 1:Nat):Int)] w' fun e w''=>e=.returned (.tuple #[.string (kf (p + 2 + 4 * i)),.int .i64 ((p + 3 + 4 * i:Nat):Int)]) /\ Below w'.heap.size w' w''):=fun i w' hi hb=>by
  have:=(hkv (p + 2 + 4 * i) (by omega)).2.2.1 w' (hB.below hb)
  rw [show p + 2 + 4 * i + 1=p + 3 + 4 * i by omega,show p + 2 + 4 * i=p + 1 + 4 * i + 1 by omega] at this
  rw [show p + 2 + 4 * i=p + 1 + 4 * i + 1 by omega]
  exact this
 have HV:Hid (∀ i w',i <= n -> Below w.heap.size w w' -> Calls prog 136 #[.slice a xs.length cap,.int .i64 ((p + 3 + 4 * i:Nat):Int)] w' fun e w''=>e=.returned (.tuple #[.string (vf (p + 3 + 4 * i)),.int .i64 ((p + 1 + 4 * (i + 1):Nat):Int)]) /\ Below w'.heap.size w' w''):=fun i w' hi hb=>by
  have:=(hkv (p + 3 + 4 * i) (by omega)).2.2.2 w' (hB.below hb)
  rw [show p + 3 + 4 * i + 2=p + 1 + 4 * (i + 1) by omega] at this
  exact this
 have HW:Hid (∀ i a3 c3 w',i < n -> PArg a3 (nearD af kf vf p ps i) w' -> (af (p + 1 + 4 * i)=0 -> Calls prog 137 #[.slice a3 (nearD af kf vf p ps i).length c3,.string (kf (p + 2 + 4 * i))] w' (PairsAt (nearD af kf vf p ps (i + 1)) w')) /\ (af (p + 1 + 4 * i) ≠ 0 -> Calls prog 86 #[.slice a3 (nearD af kf vf p ps i).length c3,.string (kf (p + 2 + 4 * i)),.string (vf (p + 3 + 4 * i))] w' (PairsAt (nearD af kf vf p ps (i + 1)) w'))):=fun i a3 c3 w' hi hP=>by
  refine ⟨fun h0=>?_,fun h0=>?_⟩
  · rw [nearD,if_pos h0]
    exact without_any a3 _ c3 _ w' hP
  · rw [nearD,if_neg h0]
    exact with_any a3 _ c3 _ _ w' hP (by have:=(hkv (p + 2 + 4 * i) (by omega)).1;omega) (by have:=(hsm i (by omega)).len;omega)
 have HPa:Hid (∀ i w' a4 c4 W,i <= n -> OwnP w' (nearD af kf vf p ps i) a4 (nearD af kf vf p ps i).length c4 W -> PArg a4 (nearD af kf vf p ps i) W /\ (nearD af kf vf p ps i).length <= c4):=fun i w' a4 c4 W hi h=>⟨ownp_parg h ((hsm i hi).small (by omega)),own2_le h.own⟩
 clear Hn hkv haf hsm hq hB
 obtain ⟨L,hL⟩:∃ L,xs.length=L:=⟨_,rfl⟩
 rw [hL] at Hn' HTk HK HV ⊢
 clear hL
 go_enter func78,ntmps78
 go_wp2_with (first | (go_at_call 58;refine Hn'.mono ?_;rintro e w1 ⟨rfl,hb1⟩))
 have hP1:=hP.below hb1
 have hM0:∀ b off,a3=some ⟨b,off,none⟩ -> w.heap.size <= b \/ (a3=a3 /\ nearD af kf vf p ps 0=ps):=fun _ _ _=>.inr ⟨rfl,rfl⟩
 go_loopw [1,2,9] (fun t1 t2 t10 wr=>∃ (i:Nat) (a4:Option Addr) (c4:Nat),i <= n /\ t10=.int .i64 (i:Int) /\ t1=.int .i64 ((p + 1 + 4 * i:Nat):Int) /\ t2=.slice a4 (nearD af kf vf p ps i).length c4 /\ PArg a4 (nearD af kf vf p ps i) wr /\ (nearD af kf vf p ps i).length <= c4 /\ (∀ b off,a4=some ⟨b,off,none⟩ -> w.heap.size <= b \/ (a4=a3 /\ nearD af kf vf p ps i=ps)) /\ Below w.heap.size w wr) (fun _ _ t10 _=>n - (intOf t10).toNat)
 case atStart=>exact ⟨0,a3,c3,Nat.zero_le _,rfl,rfl,rfl,hP1,hc3,hM0,hb1⟩
 case round =>
  clear hP1 hM0 hP hc3
  obtain ⟨i,a4,c4,hi,rfl,rfl,rfl,hPi,hci,hge,hbw⟩:=hrel
  by_cases hlt:i < n
  · have z1:decide ((i:Int) < (n:Int))=true:=by simp;omega
    have HT':Hid (∀ w',Below w.heap.size w w' -> Calls prog 58 #[.slice a L cap,.int .i64 ((p + 1 + 4 * i:Nat):Int),.int .i64 3] w' fun e w''=>e=.returned (.tuple #[.int .i64 (af (p + 1 + 4 * i):Int),.int .i64 ((p + 1 + 4 * i + 1:Nat):Int)]) /\ Below w'.heap.size w' w''):=fun w' hb=>HTk.out i w' hi hb
    have HK':Hid (∀ w',Below w.heap.size w w' -> Calls prog 135 #[.slice a L cap,.int .i64 ((p + 1 + 4 * i + 1:Nat):Int)] w' fun e w''=>e=.returned (.tuple #[.string (kf (p + 2 + 4 * i)),.int .i64 ((p + 3 + 4 * i:Nat):Int)]) /\ Below w'.heap.size w' w''):=fun w' hb=>HK.out i w' hi hb
    have HV':Hid (∀ w',Below w.heap.size w w' -> Calls prog 136 #[.slice a L cap,.int .i64 ((p + 3 + 4 * i:Nat):Int)] w' fun e w''=>e=.returned (.tuple #[.string (vf (p + 3 + 4 * i)),.int .i64 ((p + 1 + 4 * (i + 1):Nat):Int)]) /\ Below w'.heap.size w' w''):=fun w' hb=>HV.out i w' hi hb
    have HW':Hid (∀ w',PArg a4 (nearD af kf vf p ps i) w' -> (af (p + 1 + 4 * i)=0 -> Calls prog 137 #[.slice a4 (nearD af kf vf p ps i).length c4,.string (kf (p + 2 + 4 * i))] w' (PairsAt (nearD af kf vf p ps (i + 1)) w')) /\ (af (p + 1 + 4 * i) ≠ 0 -> Calls prog 86 #[.slice a4 (nearD af kf vf p ps i).length c4,.string (kf (p + 2 + 4 * i)),.string (vf (p + 3 + 4 * i))] w' (PairsAt (nearD af kf vf p ps (i + 1)) w'))):=fun w' q=>HW.out i a4 c4 w' hlt q
    have HF:Hid (∀ w' a5 c5 W,Below w.heap.size w w' -> OwnP w' (nearD af kf vf p ps (i + 1)) a5 (nearD af kf vf p ps (i + 1)).length c5 W -> ∃ (j:Nat) (b4:Option Addr) (d4:Nat),j <= n /\ Value.int .i64 ((i + 1:Nat):Int)=.int .i64 (j:Int) /\ Value.int .i64 ((p + 1 + 4 * (i + 1):Nat):Int)=.int .i64 ((p + 1 + 4 * j:Nat):Int) /\ Value.slice a5 (nearD af kf vf p ps (i + 1)).length c5=.slice b4 (nearD af kf vf p ps j).length d4 /\ PArg b4 (nearD af kf vf p ps j) W /\ (nearD af kf vf p ps j).length <= d4 /\ (∀ b off,b4=some ⟨b,off,none⟩ -> w.heap.size <= b \/ (b4=a3 /\ nearD af kf vf p ps j=ps)) /\ Below w.heap.size w W):=fun w' a5 c5 W hb ho=>⟨i + 1,a5,c5,hlt,rfl,rfl,rfl,(HPa.out (i + 1) w' a5 c5 W hlt ho).1,(HPa.out (i + 1) w' a5 c5 W hlt ho).2,fun b off e=>.inl (Nat.le_trans hb.size (ho.ge b off e)),hb.trans (ho.bel.mono hb.size)⟩
    unfold PairsAt at HW'
    generalize nearD af kf vf p ps i=X at HW' hPi ⊢
    obtain ⟨Y,hY⟩:∃ Y,nearD af kf vf p ps (i + 1)=Y:=⟨_,rfl⟩
    rw [hY] at HW'
    generalize kf (p + 2 + 4 * i)=ky at HK' HW'
    generalize vf (p + 3 + 4 * i)=vl at HV' HW'
    generalize p + 1 + 4 * i=q1 at HT' HK' HW' ⊢
    generalize p + 3 + 4 * i=q3 at HK' HV'
    obtain ⟨q4,hq4⟩:∃ q4,p + 1 + 4 * (i + 1)=q4:=⟨_,rfl⟩
    rw [hq4,hY] at HF
    rw [hq4] at HV'
    clear hq4 hY hci HTk HK HV HW HPa hge
    by_cases h0:af q1=0
    · rw [h0] at HT'
      have HW2:Hid (∀ w',PArg a4 X w' -> Calls prog 137 #[.slice a4 X.length c4,.string ky] w' fun e w''=>∃ a5 c5,e=.returned (.slice a5 Y.length c5) /\ OwnP w' Y a5 Y.length c5 w''):=fun w' q=>(HW'.out w' q).1 h0
      clear HW' h0
      go_wp2_with (first | (go_at_call 58;refine (HT'.out _ hbw).mono ?_;rintro e w2 ⟨rfl,hb2⟩;have hbw2:=hbw.trans (hb2.mono hbw.size);have hP2:=hPi.below hb2) | (go_at_call 135;refine (HK'.out _ hbw2).mono ?_;rintro e w3 ⟨rfl,hb3⟩;have hbw3:=hbw2.trans (hb3.mono hbw2.size);have hP3:=hP2.below hb3) | (go_at_call 136;refine (HV'.out _ hbw3).mono ?_;rintro e w4 ⟨rfl,hb4⟩;have hbw4:=hbw3.trans (hb4.mono hbw3.size);have hP4:=hP3.below hb4) | (go_at_call 137;refine (HW2.out _ hP4).mono ?_;rintro e w5 ⟨a5,c5,rfl,hT5⟩))
      have hfin:=HF.out _ _ _ _ hbw4 hT5
      go_roundw
      case rel =>
       obtain ⟨j,b4,d4,r1,r2,r3,r4,r5⟩:=hfin
       exact ⟨j,b4,d4,r1,by rw [<- r2];go_num,r3,r4,r5⟩
      case measure=>simp [intOf];omega
    · have HW2:Hid (∀ w',PArg a4 X w' -> Calls prog 86 #[.slice a4 X.length c4,.string ky,.string vl] w' fun e w''=>∃ a5 c5,e=.returned (.slice a5 Y.length c5) /\ OwnP w' Y a5 Y.length c5 w''):=fun w' q=>(HW'.out w' q).2 h0
      have z2:((af q1:Int) == 0)=false:=by simp;omega
      generalize af q1=av at HT' z2
      clear HW' h0
      go_wp2_with (first | (go_at_call 58;refine (HT'.out _ hbw).mono ?_;rintro e w2 ⟨rfl,hb2⟩;have hbw2:=hbw.trans (hb2.mono hbw.size);have hP2:=hPi.below hb2) | (go_at_call 135;refine (HK'.out _ hbw2).mono ?_;rintro e w3 ⟨rfl,hb3⟩;have hbw3:=hbw2.trans (hb3.mono hbw2.size);have hP3:=hP2.below hb3) | (go_at_call 136;refine (HV'.out _ hbw3).mono ?_;rintro e w4 ⟨rfl,hb4⟩;have hbw4:=hbw3.trans (hb4.mono hbw3.size);have hP4:=hP3.below hb4) | (go_at_call 86;refine (HW2.out _ hP4).mono ?_;rintro e w5 ⟨a5,c5,rfl,hT5⟩))
      have hfin:=HF.out _ _ _ _ hbw4 hT5
      go_roundw
      case rel =>
       obtain ⟨j,b4,d4,r1,r2,r3,r4,r5⟩:=hfin
       exact ⟨j,b4,d4,r1,by rw [<- r2];go_num,r3,r4,r5⟩
      case measure=>simp [intOf];omega
  · obtain rfl:i=n:=by omega
    have z1:decide ((i:Int) < (i:Int))=false:=by simp
    have hfin:Hid (PGot (nearD af kf vf p ps i) ps (p + 1 + 4 * i) a3 w (.returned (.tuple #[.slice a4 (nearD af kf vf p ps i).length c4,.int .i64 ((p + 1 + 4 * i:Nat):Int)])) wr):=⟨a4,c4,rfl,hPi,hci,hge,hbw⟩
    go_wp2_with fail
    go_ret2
    exact hfin.out
theorem count_any (a:Option Addr) (L cap per lo hi:Nat) (w:World) (hp:1 <= per) (hL:L <= 1048576) (hlo:lo <= 1000) (hhi:hi <= 1000):Calls prog 118 #[.slice a L cap,.int .i64 (per:Int),.int .i64 (lo:Int),.int .i64 (hi:Int)] w fun e w'=>e=.returned (.int .i64 ((if hi < lo + L / per then hi else lo + L / per:Nat):Int)) /\ w'=w:=by
 have hq:(L:Int).tdiv (per:Int)=((L / per:Nat):Int):=by rw [<- Int.ofNat_tdiv]
 have hle:L / per <= L:=Nat.div_le_self L per
 have hne:¬ ((per:Int)=0):=by omega
 have z0:((per:Int) == 0)=false:=by simp;omega
 obtain ⟨d,hd⟩:∃ d,L / per=d:=⟨_,rfl⟩
 rw [hd] at hq hle ⊢
 have w1:wrap64 ((lo:Int) + (d:Int))=(lo:Int) + (d:Int):=wr_in64 _ (by omega)
 by_cases h:hi < lo + d
 · rw [if_pos h]
   have z:decide ((hi:Int) < (lo:Int) + (d:Int))=true:=by rw [decide_eq_true_eq];omega
   go_enter func118,ntmps118
   go_wp2_with fail
   go_ret
   exact ⟨rfl,rfl⟩
 · rw [if_neg h]
   have z:decide ((hi:Int) < (lo:Int) + (d:Int))=false:=by rw [decide_eq_false_iff_not];omega
   go_enter func118,ntmps118
   go_wp2_with fail
   go_ret
   exact ⟨by first | rfl | (congr 2;omega),rfl⟩
end Go.Proofs.YtibjhkpgaaapaaaGreatDoor
