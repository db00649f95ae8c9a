import Derived.Test.YtibjhkpgaaapaaaGreatDoorZhbi
import Derived.Deep.Cut
import Derived.Test.YtibjhkpgaaapaaaGreatDoorZhbt
import Derived.Test.YtibjhkpgaaapaaaGreatDoorZhau
import Derived.Test.YtibjhkpgaaapaaaGreatDoorZhbr
set_option maxRecDepth 100000
set_option maxHeartbeats 4000000
namespace Go.Proofs.YtibjhkpgaaapaaaGreatDoor
open Go.RowKit Go.Proofs.Sha Tryz
theorem spoil_det (a:Option Addr) (xs:List Nat) (cap:Nat) (p:Nat) (s:ByteArray) (hX:Code8 xs) (hp:p <= 80000) (hs:s.size <= 50000) :
 ∃ t:ByteArray,t.size <= s.size + 1 /\ ∀ w,BL a xs w -> Calls prog 60 #[.slice a xs.length cap,.int .i64 (p:Int),.string s] w fun e w'=>e=.returned (.string t) /\ Below w.heap.size w w':=by
 obtain ⟨x,hx,HT1⟩:=take_det a xs cap p 6 hX (by omega) (by omega) (by omega)
 obtain ⟨y,hy,HT2'⟩:=take_det a xs cap (p + 1) (s.size + 1) hX (by omega) (by omega) (by omega)
 obtain ⟨z,hz,HT3⟩:=take_det a xs cap (p + 1 + 1) 256 hX (by omega) (by omega) (by omega)
 obtain ⟨p1,hp1⟩:∃ p1,p + 1=p1:=⟨_,rfl⟩
 obtain ⟨p2,hp2⟩:∃ p2,p1 + 1=p2:=⟨_,rfl⟩
 obtain ⟨p3,hp3⟩:∃ p3,p2 + 1=p3:=⟨_,rfl⟩
 rw [hp1] at HT1 HT2' HT3
 rw [hp2] at HT2' HT3
 rw [hp3] at HT3
 replace HT1:Hid _:=HT1
 replace HT3:Hid _:=HT3
 have HT2:Hid (∀ w,BL a xs w -> Calls prog 58 #[.slice a xs.length cap,.int .i64 (p1:Int),.int .i64 ((s.size:Int) + 1)] w fun e w'=>e=.returned (.tuple #[.int .i64 (y:Int),.int .i64 (p2:Int)]) /\ Below w.heap.size w w'):=fun w h=>HT2' w h
 clear HT2' hp1 hp2 hp3
 have HB:Hid (∀ w,Calls prog 91 #[.int .i64 (z:Int)] w fun e w'=>e=.returned (.string (byteS z)) /\ Below w.heap.size w w'):=fun w=>byte_any z (by omega) w
 obtain ⟨tb,htb⟩:∃ t,byteS z=t:=⟨_,rfl⟩
 have kb:tb.size=1:=by rw [<- htb];rfl
 rw [htb] at HB
 clear htb
 have e1:(s.extract 0 y).size=y:=by rw [ByteArray.size_extract];omega
 have e2:(s.extract (y + 1) s.size).size=s.size - (y + 1):=by rw [ByteArray.size_extract];omega
 have e3:(s.extract y s.size).size=s.size - y:=by rw [ByteArray.size_extract];omega
 have e4:(s.extract ((y:Int) + 1).toNat s.size).size=s.size - (y + 1):=by rw [ByteArray.size_extract];omega
 have f1:¬ (9223372036854775807 < (s.extract 0 y).size + tb.size):=by omega
 have f2:¬ (9223372036854775807 < (s.extract 0 y).size + (s.extract (y + 1) s.size).size):=by omega
 have f3:¬ (9223372036854775807 < (s.extract 0 y).size + tb.size + (s.extract (y + 1) s.size).size):=by omega
 have f4:¬ (9223372036854775807 < (s.extract 0 y).size + (s.extract ((y:Int) + 1).toNat s.size).size):=by omega
 have f5:¬ (9223372036854775807 < (s.extract 0 y).size + tb.size + (s.extract ((y:Int) + 1).toNat s.size).size):=by omega
 have f6:¬ (9223372036854775807 < (s.extract 0 y).size + (s.size - (y + 1))):=by omega
 have f7:¬ (9223372036854775807 < (s.extract 0 y).size + tb.size + (s.size - (y + 1))):=by omega
 have f8:¬ (9223372036854775807 < (s.extract 0 y).size + (s.size - ((y:Int) + 1).toNat)):=by omega
 have f9:¬ (9223372036854775807 < (s.extract 0 y).size + tb.size + (s.size - ((y:Int) + 1).toNat)):=by omega
 have f10:¬ (9223372036854775807 < (s.extract 0 y).size + tb.size + (s.extract y s.size).size):=by omega
 have f11:¬ (9223372036854775807 < (s.extract 0 y).size + tb.size + (s.size - y)):=by omega
 have f12:¬ (9223372036854775807 < min y s.size + tb.size):=by omega
 have f13:¬ (9223372036854775807 < min y s.size + (s.extract (y + 1) s.size).size):=by omega
 have f14:¬ (9223372036854775807 < min y s.size + tb.size + (s.extract (y + 1) s.size).size):=by omega
 have f15:¬ (9223372036854775807 < min y s.size + (s.extract ((y:Int) + 1).toNat s.size).size):=by omega
 have f16:¬ (9223372036854775807 < min y s.size + tb.size + (s.extract ((y:Int) + 1).toNat s.size).size):=by omega
 have f17:¬ (9223372036854775807 < min y s.size + (s.size - (y + 1))):=by omega
 have f18:¬ (9223372036854775807 < min y s.size + tb.size + (s.size - (y + 1))):=by omega
 have f19:¬ (9223372036854775807 < min y s.size + (s.size - ((y:Int) + 1).toNat)):=by omega
 have f20:¬ (9223372036854775807 < min y s.size + tb.size + (s.size - ((y:Int) + 1).toNat)):=by omega
 have f21:¬ (9223372036854775807 < min y s.size + tb.size + (s.extract y s.size).size):=by omega
 have f22:¬ (9223372036854775807 < min y s.size + tb.size + (s.size - y)):=by omega
 have f23:¬ (9223372036854775807 < y + tb.size):=by omega
 have f24:¬ (9223372036854775807 < y + (s.extract (y + 1) s.size).size):=by omega
 have f25:¬ (9223372036854775807 < y + tb.size + (s.extract (y + 1) s.size).size):=by omega
 have f26:¬ (9223372036854775807 < y + (s.extract ((y:Int) + 1).toNat s.size).size):=by omega
 have f27:¬ (9223372036854775807 < y + tb.size + (s.extract ((y:Int) + 1).toNat s.size).size):=by omega
 have f28:¬ (9223372036854775807 < y + (s.size - (y + 1))):=by omega
 have f29:¬ (9223372036854775807 < y + tb.size + (s.size - (y + 1))):=by omega
 have f30:¬ (9223372036854775807 < y + (s.size - ((y:Int) + 1).toNat)):=by omega
 have f31:¬ (9223372036854775807 < y + tb.size + (s.size - ((y:Int) + 1).toNat)):=by omega
 have f32:¬ (9223372036854775807 < y + tb.size + (s.extract y s.size).size):=by omega
 have f33:¬ (9223372036854775807 < y + tb.size + (s.size - y)):=by omega
 have q1:(y:Int) <= (s.size:Int):=by omega
 have x6:IntKind.i64.wrap ((y:Int) + 1)=(y:Int) + 1:=wrap_i64_in _ (by omega) (by omega)
 have x9:(0:Int) <= (y:Int) + 1:=by omega
 have x10:(0:Int) <= (y:Int):=by omega
 have kb':tb.size <= 1:=by omega
 have E1:Hid ((s.extract 0 y).size=y):=e1
 have E2:Hid ((s.extract (y + 1) s.size).size=s.size - (y + 1)):=e2
 have E3:Hid ((s.extract y s.size).size=s.size - y):=e3
 clear e1 e2 e3 e4 kb
 by_cases c1:x=0 /\ y < s.size
 · obtain ⟨rfl,c2⟩:=c1
   have z2:decide ((y:Int) < (s.size:Int))=true:=by simp;omega
   have q2:(y:Int) + 1 <= (s.size:Int):=by omega
   refine ⟨s.extract 0 y ++ s.extract (y + 1) s.size,by rw [ByteArray.size_append,E1.out,E2.out];omega,fun w h=>?_⟩
   go_enter func60,ntmps60
   go_wp2_with fail
   refine (HT1.out w h).mono ?_
   rintro e w1 ⟨rfl,hb1⟩
   have h1:=h.below hb1
   go_wp2_with fail
   refine (HT2.out w1 h1).mono ?_
   rintro e w2 ⟨rfl,hb2⟩
   have h2:=h1.below hb2
   have hB2:=hb1.trans (hb2.mono hb1.size)
   go_wp2_with fail
   refine (HT3.out w2 h2).mono ?_
   rintro e w3 ⟨rfl,hb3⟩
   have hB3:=hB2.trans (hb3.mono hB2.size)
   clear hb1 hb2 hb3 hB2 h h1 h2 HT1 HT2 HT3
   go_wp2_with fail
   go_region_held3 (fun _=>True) (exact trivial) (fail)
   go_wp2_with fail
   go_ret
   exact ⟨rfl,hB3.drew⟩
 by_cases c3:x < 4 /\ y < s.size
 · have z1:((x:Int) == 0)=false:=by rw [beq_eq_false_iff_ne];omega
   have z2:decide ((y:Int) < (s.size:Int))=true:=by simp;omega
   have z3:decide ((x:Int) < 4)=true:=by simp;omega
   have q2:(y:Int) + 1 <= (s.size:Int):=by omega
   refine ⟨s.extract 0 y ++ tb ++ s.extract (y + 1) s.size,by rw [ByteArray.size_append,ByteArray.size_append,E1.out,E2.out];omega,fun w h=>?_⟩
   go_enter func60,ntmps60
   go_wp2_with fail
   refine (HT1.out w h).mono ?_
   rintro e w1 ⟨rfl,hb1⟩
   have h1:=h.below hb1
   go_wp2_with fail
   refine (HT2.out w1 h1).mono ?_
   rintro e w2 ⟨rfl,hb2⟩
   have h2:=h1.below hb2
   have hB2:=hb1.trans (hb2.mono hb1.size)
   go_wp2_with fail
   refine (HT3.out w2 h2).mono ?_
   rintro e w3 ⟨rfl,hb3⟩
   have hB3:=hB2.trans (hb3.mono hB2.size)
   clear hb1 hb2 hb3 hB2 h h1 h2 HT1 HT2 HT3
   go_wp2_with fail
   go_region_held3 (fun _=>True) (exact trivial) (first | (go_at_call 91;refine (HB.out _).mono ?_;rintro e w4 ⟨rfl,hb4⟩))
   go_wp2_with fail
   go_ret
   exact ⟨rfl,hB3.drew.trans (hb4.mono hB3.size)⟩
 by_cases c4:x=4
 · subst c4
   have z2:(decide ((4:Int) < 4) && decide ((y:Int) < (s.size:Int)))=false:=by simp
   refine ⟨s.extract 0 y ++ tb ++ s.extract y s.size,by rw [ByteArray.size_append,ByteArray.size_append,E1.out,E3.out];omega,fun w h=>?_⟩
   go_enter func60,ntmps60
   go_wp2_with fail
   refine (HT1.out w h).mono ?_
   rintro e w1 ⟨rfl,hb1⟩
   have h1:=h.below hb1
   go_wp2_with fail
   refine (HT2.out w1 h1).mono ?_
   rintro e w2 ⟨rfl,hb2⟩
   have h2:=h1.below hb2
   have hB2:=hb1.trans (hb2.mono hb1.size)
   go_wp2_with fail
   refine (HT3.out w2 h2).mono ?_
   rintro e w3 ⟨rfl,hb3⟩
   have hB3:=hB2.trans (hb3.mono hB2.size)
   clear hb1 hb2 hb3 hB2 h h1 h2 HT1 HT2 HT3
   go_wp2_with fail
   go_region_held3 (fun _=>True) (exact trivial) (first | (go_at_call 91;refine (HB.out _).mono ?_;rintro e w4 ⟨rfl,hb4⟩))
   go_wp2_with fail
   go_ret
   exact ⟨rfl,hB3.drew.trans (hb4.mono hB3.size)⟩
 have z4:((x:Int) == 4)=false:=by rw [beq_eq_false_iff_ne];omega
 by_cases c5:y < s.size
 · have z1:((x:Int) == 0)=false:=by rw [beq_eq_false_iff_ne];omega
   have z2:decide ((y:Int) < (s.size:Int))=true:=by simp;omega
   have z3:decide ((x:Int) < 4)=false:=by simp;omega
   refine ⟨s.extract 0 y,by rw [E1.out];omega,fun w h=>?_⟩
   go_enter func60,ntmps60
   go_wp2_with fail
   refine (HT1.out w h).mono ?_
   rintro e w1 ⟨rfl,hb1⟩
   have h1:=h.below hb1
   go_wp2_with fail
   refine (HT2.out w1 h1).mono ?_
   rintro e w2 ⟨rfl,hb2⟩
   have h2:=h1.below hb2
   have hB2:=hb1.trans (hb2.mono hb1.size)
   go_wp2_with fail
   refine (HT3.out w2 h2).mono ?_
   rintro e w3 ⟨rfl,hb3⟩
   have hB3:=hB2.trans (hb3.mono hB2.size)
   clear hb1 hb2 hb3 hB2 h h1 h2 HT1 HT2 HT3
   go_wp2_with fail
   go_ret
   exact ⟨rfl,hB3⟩
 · have z2:decide ((y:Int) < (s.size:Int))=false:=by simp;omega
   refine ⟨s.extract 0 y,by rw [E1.out];omega,fun w h=>?_⟩
   by_cases c6:x=0
   · subst c6
     go_enter func60,ntmps60
     go_wp2_with fail
     refine (HT1.out w h).mono ?_
     rintro e w1 ⟨rfl,hb1⟩
     have h1:=h.below hb1
     go_wp2_with fail
     refine (HT2.out w1 h1).mono ?_
     rintro e w2 ⟨rfl,hb2⟩
     have h2:=h1.below hb2
     have hB2:=hb1.trans (hb2.mono hb1.size)
     go_wp2_with fail
     refine (HT3.out w2 h2).mono ?_
     rintro e w3 ⟨rfl,hb3⟩
     have hB3:=hB2.trans (hb3.mono hB2.size)
     clear hb1 hb2 hb3 hB2 h h1 h2 HT1 HT2 HT3
     go_wp2_with fail
     go_ret
     exact ⟨rfl,hB3⟩
   have z1:((x:Int) == 0)=false:=by rw [beq_eq_false_iff_ne];omega
   by_cases c7:x < 4
   · have z3:decide ((x:Int) < 4)=true:=by simp;omega
     go_enter func60,ntmps60
     go_wp2_with fail
     refine (HT1.out w h).mono ?_
     rintro e w1 ⟨rfl,hb1⟩
     have h1:=h.below hb1
     go_wp2_with fail
     refine (HT2.out w1 h1).mono ?_
     rintro e w2 ⟨rfl,hb2⟩
     have h2:=h1.below hb2
     have hB2:=hb1.trans (hb2.mono hb1.size)
     go_wp2_with fail
     refine (HT3.out w2 h2).mono ?_
     rintro e w3 ⟨rfl,hb3⟩
     have hB3:=hB2.trans (hb3.mono hB2.size)
     clear hb1 hb2 hb3 hB2 h h1 h2 HT1 HT2 HT3
     go_wp2_with fail
     go_ret
     exact ⟨rfl,hB3⟩
   have z3:decide ((x:Int) < 4)=false:=by simp;omega
   go_enter func60,ntmps60
   go_wp2_with fail
   refine (HT1.out w h).mono ?_
   rintro e w1 ⟨rfl,hb1⟩
   have h1:=h.below hb1
   go_wp2_with fail
   refine (HT2.out w1 h1).mono ?_
   rintro e w2 ⟨rfl,hb2⟩
   have h2:=h1.below hb2
   have hB2:=hb1.trans (hb2.mono hb1.size)
   go_wp2_with fail
   refine (HT3.out w2 h2).mono ?_
   rintro e w3 ⟨rfl,hb3⟩
   have hB3:=hB2.trans (hb3.mono hB2.size)
   clear hb1 hb2 hb3 hB2 h h1 h2 HT1 HT2 HT3
   go_wp2_with fail
   go_ret
   exact ⟨rfl,hB3⟩
theorem hashT_le (wd:Nat) (t:ByteArray):(hashT wd t).size <= wd:=List.length_take_le _ _
theorem hurt_det (HDg:Hid DigSaid) (a:Option Addr) (xs:List Nat) (cap p wd:Nat) (ss roots:List ByteArray) (hX:Code8 xs) (hp:p <= 60000) (hw1:1 <= wd) (hw2:wd <= 32) (hss:SmT ss 500 10000) (hr:SmT roots 4 32) :
 ∃ (ss' roots':List ByteArray) (z:Nat),(SmT ss' 501 10001 /\ SmT roots' 5 32 /\ z <= p + 3) /\ ∀ w0 w ap cp ar cr,BL a xs w0 -> SArg ap ss w -> OwnT w0 roots ar roots.length cr w -> Calls prog 157 #[.slice a xs.length cap,.int .i64 (p:Int),.agg #[.int .i64 (wd:Int),.slice ap ss.length cp],.slice ar roots.length cr] w (HGot (fun q=>w.heap[q]?) (Value.slice ar roots.length cr).ownBlock w.heap.size wd ss' roots' z w0):=by
 obtain ⟨x,hx,HT⟩:=take_det a xs cap p 6 hX (by omega) (by omega) (by omega)
 have hsl:=hss.len
 obtain ⟨y,hy1,hy2,HT2⟩:=take0_det a xs cap (p + 1) ss.length hX (by omega) (by omega)
 have hup:∀ {ys:List ByteArray} {n s:Nat},SmT ys n s -> n <= 501 -> s <= 10001 -> SmT ys 501 10001:=fun h h1 h2=>⟨Nat.le_trans h.len h1,fun x hx=>Nat.le_trans (h.sz x hx) h2⟩
 have hone:∀ t:ByteArray,SmT (roots ++ [hashT wd t]) 5 32:=fun t=>hr.app (m:=1) ⟨Nat.le_refl _,fun x hx=>by rw [List.mem_singleton.1 hx];have:=hashT_le wd t;omega⟩
 have hr5:SmT roots 5 32:=⟨Nat.le_trans hr.len (by omega),hr.sz⟩
 by_cases h0:ss.length=0
 · exact ⟨ss,roots,p + 1 + 1,⟨hup hss (by omega) (by omega),hr5,by omega⟩,hurt_all a xs cap p wd ss roots x y hss hr HT HT2 hw1 hw2 HDg _ _ _ (Or.inl ⟨h0,rfl,rfl,rfl⟩)⟩
 · have hy:=hy1 (by omega)
   by_cases h2:x < 2
   · exact ⟨butT ss y ss.length,roots,p + 1 + 1,⟨hup (butT_sm hss y ss.length) (by omega) (by omega),hr5,by omega⟩,hurt_all a xs cap p wd ss roots x y hss hr HT HT2 hw1 hw2 HDg _ _ _ (Or.inr ⟨by omega,hy,.inl ⟨h2,rfl,rfl,rfl⟩⟩)⟩
   · by_cases h3:x=2
     · have hu:=hss.getD y
       obtain ⟨t,ht,HSp⟩:=spoil_det a xs cap (p + 1 + 1) (ss.getD y ⟨#[]⟩) hX (by omega) (by omega)
       refine ⟨ss.set y t,roots ++ [hashT wd t],p + 1 + 1,⟨⟨by rw [List.length_set];omega,fun x hx=>?_⟩,hone t,by omega⟩,hurt_all a xs cap p wd ss roots x y hss hr HT HT2 hw1 hw2 HDg _ _ _ (Or.inr ⟨by omega,hy,.inr (.inl ⟨h3,t,by omega,HSp,rfl,rfl,rfl⟩)⟩)⟩
       rcases List.mem_or_eq_of_mem_set hx with q | q
       · have:=hss.sz x q;omega
       · rw [q];omega
     · obtain ⟨key,hk,HKy⟩:=key_det a xs cap (p + 1 + 1) hX (by omega)
       have hEn:∀ l r:ByteArray,l.size <= 32 -> r.size <= 32 -> Hid (∀ w',Calls prog 40 #[.agg #[.string key,.string ⟨#[]⟩,.string l,.string r],.int .i64 (wd:Int)] w' fun e w''=>e=.returned (.string (encS key ⟨#[]⟩ l r wd)) /\ Below w'.heap.size w' w''):=fun l r hl hr w'=>(enc_any key ⟨#[]⟩ l r wd w' (by omega) (Nat.zero_le _) (by omega) (by omega)).mono (by rintro e w'' ⟨t,rfl,HX,hb⟩;exact ⟨by rw [HX.out],hb⟩)
       have hh:∀ t,(hashT wd t).size <= 32:=fun t=>by have:=hashT_le wd t;omega
       have hE:∀ l r:ByteArray,(encS key ⟨#[]⟩ l r wd).size <= 10001:=fun l r=>by have:=(encS_size key ⟨#[]⟩ l r wd).1;omega
       have happ:∀ E:ByteArray,E.size <= 10001 -> SmT (ss ++ [E]) 501 10001:=fun E hE=>SmT.app (n:=500) (m:=1) ⟨hss.len,fun x hx=>by have:=hss.sz x hx;omega⟩ ⟨Nat.le_refl _,fun x hx=>by rw [List.mem_singleton.1 hx];exact hE⟩
       by_cases h4:x=3
       · exact ⟨_,_,p + 1 + 1 + 1,⟨happ _ (hE _ _),hone _,by omega⟩,hurt_all a xs cap p wd ss roots x y hss hr HT HT2 hw1 hw2 HDg _ _ _ (Or.inr ⟨by omega,hy,.inr (.inr ⟨key,_,_,_,hE _ _,HKy,rfl,hEn _ _ (hh _) (hh _),rfl,rfl,rfl,.inr ⟨h4,rfl⟩⟩)⟩)⟩
       · exact ⟨_,_,p + 1 + 1 + 1,⟨happ _ (hE _ _),hone _,by omega⟩,hurt_all a xs cap p wd ss roots x y hss hr HT HT2 hw1 hw2 HDg _ _ _ (Or.inr ⟨by omega,hy,.inr (.inr ⟨key,_,_,_,hE _ _,HKy,rfl,hEn _ ⟨#[]⟩ (hh _) (Nat.zero_le _),rfl,rfl,rfl,.inl ⟨by omega,rfl⟩⟩)⟩)⟩
theorem any_low (a:Option Addr) (xs:List Nat) (cap p x y wd z:Nat) (ss roots:List ByteArray) (_hz:z <= 100000) (_hss:SmT ss 500 10000) (hr:SmT roots 4 32)
 (HT:∀ w,BL a xs w -> Calls prog 58 #[.slice a xs.length cap,.int .i64 (p:Int),.int .i64 24] w fun e w'=>e=.returned (.tuple #[.int .i64 (x:Int),.int .i64 ((p + 1:Nat):Int)]) /\ Below w.heap.size w w')
 (HP:∀ w,BL a xs w -> Calls prog 156 #[.slice a xs.length cap,.int .i64 ((p + 1:Nat):Int)] w (PoolGot wd ss roots z w))
 (HA:∀ w,BL a xs w -> Calls prog 58 #[.slice a xs.length cap,.int .i64 (z:Int),.int .i64 (roots.length:Int)] w fun e w'=>e=.returned (.tuple #[.int .i64 (y:Int),.int .i64 ((z + 1:Nat):Int)]) /\ Below w.heap.size w w') (hx:x < 15) (hy:0 < roots.length -> y < roots.length) :
 ∀ w,BL a xs w -> Calls prog 124 #[.slice a xs.length cap,.int .i64 (p:Int)] w (AGot (wd:Int) ss roots (roots.getD y ⟨#[]⟩) (z + 1) w):=by
 intro w hB
 have HT':Hid (∀ w',Below w.heap.size w w' -> Calls prog 58 #[.slice a xs.length cap,.int .i64 (p:Int),.int .i64 24] w' fun e w''=>e=.returned (.tuple #[.int .i64 (x:Int),.int .i64 ((p + 1:Nat):Int)]) /\ Below w'.heap.size w' w''):=fun w' hb=>HT w' (hB.below hb)
 have HP':Hid (∀ w',Below w.heap.size w w' -> Calls prog 156 #[.slice a xs.length cap,.int .i64 ((p + 1:Nat):Int)] w' (PoolGot wd ss roots z w')):=fun w' hb=>HP w' (hB.below hb)
 have HA':Hid (∀ w',Below w.heap.size w w' -> Calls prog 58 #[.slice a xs.length cap,.int .i64 (z:Int),.int .i64 (roots.length:Int)] w' fun e w''=>e=.returned (.tuple #[.int .i64 (y:Int),.int .i64 ((z + 1:Nat):Int)]) /\ Below w'.heap.size w' w''):=fun w' hb=>HA w' (hB.below hb)
 unfold PoolGot at HP'
 clear HT HP HA hB
 have hrl:roots.length <= 4:=hr.len
 obtain ⟨L,hLL⟩:∃ L,xs.length=L:=⟨_,rfl⟩
 rw [hLL] at HT' HP' HA' ⊢
 obtain ⟨q1,hq1⟩:∃ q,p + 1=q:=⟨_,rfl⟩
 rw [hq1] at HT' HP'
 obtain ⟨q2,hq2⟩:∃ q,z + 1=q:=⟨_,rfl⟩
 rw [hq2] at HA'
 clear hq1 hLL
 obtain ⟨N,hN⟩:∃ N,ss.length=N:=⟨_,rfl⟩
 rw [hN] at HP'
 obtain ⟨R,hRn⟩:∃ R,roots.length=R:=⟨_,rfl⟩
 rw [hRn] at HP' HA' hrl
 have hA:Below w.heap.size w (w.alloc (.cells #[.int .i64 0,.slice none 0 0] 31)):=(Below.refl _ _).alloc (Nat.le_refl _) _
 have nA:=heap_alloc_new w (.cells #[.int .i64 0,.slice none 0 0] 31)
 have hgw:w.heap.size <= w.heap.size:=Nat.le_refl _
 go_enter func124,ntmps124
 go_upto_region 2 with fail
 generalize w.alloc (.cells #[.int .i64 0,.slice none 0 0] 31)=wA at hA nA ⊢
 obtain ⟨gr,hgr⟩:∃ g,w.heap.size=g:=⟨_,rfl⟩
 have hgl:w.heap.size <= gr:=Nat.le_of_eq hgr
 rw [hgr] at nA
 try rw [hgr]
 clear hgr hgw
 go_upto_region 3 with (first | (go_at_call 58;refine (HT'.out _ hA).mono ?_;rintro e w1 ⟨rfl,hb1⟩;have hbw1:=hA.trans (hb1.mono hA.size)))
 have nB:=pblk_below hb1 nA
 go_upto_region 4 with (first | (go_at_call 156;refine (HP'.out _ hbw1).mono ?_;rintro e w2 ⟨ap,cp,ar,cr,rfl,hS2,hO2,_⟩))
 have al:Below w2.heap.size w2 (w2.alloc (.cells #[.int .i64 (wd:Int),.slice ap N cp] 31)):=(Below.refl _ _).alloc (Nat.le_refl _) _
 have hbw2:=hbw1.trans (hO2.bel.mono hbw1.size)
 have nC:=pblk_below hO2.bel nB
 have hAP:AP w gr w2.heap.size (wd:Int) ss roots ap cp ar (w2.alloc (.cells #[.int .i64 (wd:Int),.slice ap N cp] 31)):=by
  refine ⟨pblk_below al nC,by rw [hN];exact heap_alloc_new w2 _,?_,hgl,hbw2.size,hS2.below al,?_,hbw2.trans (al.mono hbw2.size)⟩
  · have:=(Array.getElem?_eq_some_iff.1 nC).1
    omega
  · have h1:=hO2.below al
    rw [<- hRn] at h1
    exact h1.sarg hr (by omega) (by omega)
 generalize w2.alloc (.cells #[.int .i64 (wd:Int),.slice ap N cp] 31)=w3 at al hAP ⊢
 obtain ⟨gq,hgq⟩:∃ g,w2.heap.size=g:=⟨_,rfl⟩
 rw [hgq] at hAP
 try rw [hgq]
 clear hgq al hS2 hO2 nC nB nA hb1 hbw1 hbw2 hA HT' HP'
 have z1:decide ((15:Int) <= (x:Int))=false:=by simp;omega
 have z1':decide (15 <= x)=false:=by simp;omega
 have z2:decide ((17:Int) <= (x:Int))=false:=by simp;omega
 have z2':decide (17 <= x)=false:=by simp;omega
 have z3:((x:Int) == 22)=false:=by simp;omega
 have z4:((x:Int) == 23)=false:=by simp;omega
 by_cases hRR:R=0
 · have hg0:roots.getD y ⟨#[]⟩=⟨#[]⟩:=by rw [List.getD_eq_getElem?_getD,List.getElem?_eq_none (by omega)];rfl
   have zR:decide ((0:Int) < (R:Int))=false:=by simp;omega
   have zR':decide (0 < R)=false:=by simp;omega
   have hRh:Hid (R=0):=hRR
   clear hRR
   go_upto_region 7 with (first | (go_at_call 58;refine (HA'.out _ hAP.bel).mono ?_;rintro e w4 ⟨rfl,hb4⟩))
   have hP4:=hAP.below hb4
   clear hAP hb4 HA'
   have hus:=hr.getD y
   have c0:=ZC hP4.pool 0
   have c1:=ZC hP4.pool 1
   rw [hN] at c0 c1
   have hfin:Hid (AGot _ ss roots (roots.getD y ⟨#[]⟩) q2 w _ _):=hP4.fin (roots.getD y ⟨#[]⟩) q2 cr
   have m1:=hP4.m1
   rw [hN,hRn,hg0] at hfin
   rw [hN] at m1
   have e0:=ZC hP4.res 0
   have e1:=ZC hP4.res 1
   have ef:∀ j,w4.frozen? ⟨gr,j,none⟩=false:=fun j=>by rw [World.frozen?,hP4.res];rfl
   clear hP4
   go_wp2_with fail
   exact retPT4 Tryz.results124 rfl rfl rfl rfl rfl m1 (by rw [hq2,hg0];exact hfin.out)
 · go_upto_region 7 with (first | (go_at_call 58;refine (HA'.out _ hAP.bel).mono ?_;rintro e w4 ⟨rfl,hb4⟩))
   have hP4:=hAP.below hb4
   clear hAP hb4 HA'
   have hRp:0 < R:=by omega
   have zR:decide ((0:Int) < (R:Int))=true:=by simp;omega
   have zR':decide (0 < R)=true:=by simp;omega
   have hyR:y < R:=(by have:=hy (by omega);omega)
   have hx0:(0:Int) <= (y:Int):=Int.natCast_nonneg _
   have hx1:(y:Int) < (R:Int):=by omega
   obtain ⟨b1,off1,rfl,hbl1,hc⟩:=hP4.rarg.at_ (by omega)
   have hc1:=hc y (by omega)
   clear hc
   obtain ⟨u,hu⟩:∃ u,roots.getD y ⟨#[]⟩=u:=⟨_,rfl⟩
   rw [hu] at hc1
   have hus:=hr.getD y
   have c0:=ZC hP4.pool 0
   have c1:=ZC hP4.pool 1
   rw [hN] at c0 c1
   have hfin:Hid (AGot _ ss roots u q2 w _ _):=hP4.fin u q2 cr
   have m1:=hP4.m1
   rw [hN,hRn] at hfin
   rw [hN] at m1
   have e0:=ZC hP4.res 0
   have e1:=ZC hP4.res 1
   have ef:∀ j,w4.frozen? ⟨gr,j,none⟩=false:=fun j=>by rw [World.frozen?,hP4.res];rfl
   clear hP4
   go_wp2_with fail
   exact retPT4 Tryz.results124 rfl rfl rfl rfl rfl m1 (by rw [hq2,hu];exact hfin.out)
theorem any_x (a:Option Addr) (xs:List Nat) (cap p x y wd z:Nat) (ss roots:List ByteArray) (_hz:z <= 100000) (_hss:SmT ss 500 10000) (hr:SmT roots 4 32)
 (HT:∀ w,BL a xs w -> Calls prog 58 #[.slice a xs.length cap,.int .i64 (p:Int),.int .i64 24] w fun e w'=>e=.returned (.tuple #[.int .i64 (x:Int),.int .i64 ((p + 1:Nat):Int)]) /\ Below w.heap.size w w')
 (HP:∀ w,BL a xs w -> Calls prog 156 #[.slice a xs.length cap,.int .i64 ((p + 1:Nat):Int)] w (PoolGot wd ss roots z w))
 (HA:∀ w,BL a xs w -> Calls prog 58 #[.slice a xs.length cap,.int .i64 (z:Int),.int .i64 (roots.length:Int)] w fun e w'=>e=.returned (.tuple #[.int .i64 (y:Int),.int .i64 ((z + 1:Nat):Int)]) /\ Below w.heap.size w w') (hx:x=22) (hy:0 < roots.length -> y < roots.length) :
 ∀ w,BL a xs w -> Calls prog 124 #[.slice a xs.length cap,.int .i64 (p:Int)] w (AGot (wd:Int) ss roots (roots.getD y ⟨#[]⟩ ++ ⟨#[120]⟩) (z + 1) w):=by
 intro w hB
 have HT':Hid (∀ w',Below w.heap.size w w' -> Calls prog 58 #[.slice a xs.length cap,.int .i64 (p:Int),.int .i64 24] w' fun e w''=>e=.returned (.tuple #[.int .i64 (x:Int),.int .i64 ((p + 1:Nat):Int)]) /\ Below w'.heap.size w' w''):=fun w' hb=>HT w' (hB.below hb)
 have HP':Hid (∀ w',Below w.heap.size w w' -> Calls prog 156 #[.slice a xs.length cap,.int .i64 ((p + 1:Nat):Int)] w' (PoolGot wd ss roots z w')):=fun w' hb=>HP w' (hB.below hb)
 have HA':Hid (∀ w',Below w.heap.size w w' -> Calls prog 58 #[.slice a xs.length cap,.int .i64 (z:Int),.int .i64 (roots.length:Int)] w' fun e w''=>e=.returned (.tuple #[.int .i64 (y:Int),.int .i64 ((z + 1:Nat):Int)]) /\ Below w'.heap.size w' w''):=fun w' hb=>HA w' (hB.below hb)
 unfold PoolGot at HP'
 clear HT HP HA hB
 have hrl:roots.length <= 4:=hr.len
 obtain ⟨L,hLL⟩:∃ L,xs.length=L:=⟨_,rfl⟩
 rw [hLL] at HT' HP' HA' ⊢
 obtain ⟨q1,hq1⟩:∃ q,p + 1=q:=⟨_,rfl⟩
 rw [hq1] at HT' HP'
 obtain ⟨q2,hq2⟩:∃ q,z + 1=q:=⟨_,rfl⟩
 rw [hq2] at HA'
 clear hq1 hLL
 obtain ⟨N,hN⟩:∃ N,ss.length=N:=⟨_,rfl⟩
 rw [hN] at HP'
 obtain ⟨R,hRn⟩:∃ R,roots.length=R:=⟨_,rfl⟩
 rw [hRn] at HP' HA' hrl
 have hA:Below w.heap.size w (w.alloc (.cells #[.int .i64 0,.slice none 0 0] 31)):=(Below.refl _ _).alloc (Nat.le_refl _) _
 have nA:=heap_alloc_new w (.cells #[.int .i64 0,.slice none 0 0] 31)
 have hgw:w.heap.size <= w.heap.size:=Nat.le_refl _
 go_enter func124,ntmps124
 go_upto_region 2 with fail
 generalize w.alloc (.cells #[.int .i64 0,.slice none 0 0] 31)=wA at hA nA ⊢
 obtain ⟨gr,hgr⟩:∃ g,w.heap.size=g:=⟨_,rfl⟩
 have hgl:w.heap.size <= gr:=Nat.le_of_eq hgr
 rw [hgr] at nA
 try rw [hgr]
 clear hgr hgw
 go_upto_region 3 with (first | (go_at_call 58;refine (HT'.out _ hA).mono ?_;rintro e w1 ⟨rfl,hb1⟩;have hbw1:=hA.trans (hb1.mono hA.size)))
 have nB:=pblk_below hb1 nA
 go_upto_region 4 with (first | (go_at_call 156;refine (HP'.out _ hbw1).mono ?_;rintro e w2 ⟨ap,cp,ar,cr,rfl,hS2,hO2,_⟩))
 have al:Below w2.heap.size w2 (w2.alloc (.cells #[.int .i64 (wd:Int),.slice ap N cp] 31)):=(Below.refl _ _).alloc (Nat.le_refl _) _
 have hbw2:=hbw1.trans (hO2.bel.mono hbw1.size)
 have nC:=pblk_below hO2.bel nB
 have hAP:AP w gr w2.heap.size (wd:Int) ss roots ap cp ar (w2.alloc (.cells #[.int .i64 (wd:Int),.slice ap N cp] 31)):=by
  refine ⟨pblk_below al nC,by rw [hN];exact heap_alloc_new w2 _,?_,hgl,hbw2.size,hS2.below al,?_,hbw2.trans (al.mono hbw2.size)⟩
  · have:=(Array.getElem?_eq_some_iff.1 nC).1
    omega
  · have h1:=hO2.below al
    rw [<- hRn] at h1
    exact h1.sarg hr (by omega) (by omega)
 generalize w2.alloc (.cells #[.int .i64 (wd:Int),.slice ap N cp] 31)=w3 at al hAP ⊢
 obtain ⟨gq,hgq⟩:∃ g,w2.heap.size=g:=⟨_,rfl⟩
 rw [hgq] at hAP
 try rw [hgq]
 clear hgq al hS2 hO2 nC nB nA hb1 hbw1 hbw2 hA HT' HP'
 have z1:decide ((15:Int) <= (x:Int))=true:=by simp;omega
 have z1':decide (15 <= x)=true:=by simp;omega
 have z1b:decide ((x:Int) < 22)=false:=by simp;omega
 have z1b':decide (x < 22)=false:=by simp;omega
 have z2:decide ((17:Int) <= (x:Int))=true:=by simp;omega
 have z2':decide (17 <= x)=true:=by simp;omega
 have z3:((x:Int) == 22)=true:=by simp;omega
 have z4:((x:Int) == 23)=false:=by simp;omega
 clear hx
 by_cases hRR:R=0
 · have hg0:roots.getD y ⟨#[]⟩=⟨#[]⟩:=by rw [List.getD_eq_getElem?_getD,List.getElem?_eq_none (by omega)];rfl
   have zR:decide ((0:Int) < (R:Int))=false:=by simp;omega
   have zR':decide (0 < R)=false:=by simp;omega
   have hRh:Hid (R=0):=hRR
   clear hRR
   go_upto_region 7 with (first | (go_at_call 58;refine (HA'.out _ hAP.bel).mono ?_;rintro e w4 ⟨rfl,hb4⟩))
   have hP4:=hAP.below hb4
   clear hAP hb4 HA'
   have hus:=hr.getD y
   have c0:=ZC hP4.pool 0
   have c1:=ZC hP4.pool 1
   rw [hN] at c0 c1
   have hfin:Hid (AGot _ ss roots (⟨#[120]⟩) q2 w _ _):=hP4.fin (⟨#[120]⟩) q2 cr
   have m1:=hP4.m1
   rw [hN,hRn] at hfin
   rw [hN] at m1
   have e0:=ZC hP4.res 0
   have e1:=ZC hP4.res 1
   have ef:∀ j,w4.frozen? ⟨gr,j,none⟩=false:=fun j=>by rw [World.frozen?,hP4.res];rfl
   clear hP4
   go_wp2_with fail
   exact retPT4 Tryz.results124 rfl rfl rfl rfl rfl m1 (by rw [hq2,hg0];exact hfin.out)
 · go_upto_region 7 with (first | (go_at_call 58;refine (HA'.out _ hAP.bel).mono ?_;rintro e w4 ⟨rfl,hb4⟩))
   have hP4:=hAP.below hb4
   clear hAP hb4 HA'
   have hRp:0 < R:=by omega
   have zR:decide ((0:Int) < (R:Int))=true:=by simp;omega
   have zR':decide (0 < R)=true:=by simp;omega
   have hyR:y < R:=(by have:=hy (by omega);omega)
   have hx0:(0:Int) <= (y:Int):=Int.natCast_nonneg _
   have hx1:(y:Int) < (R:Int):=by omega
   obtain ⟨b1,off1,rfl,hbl1,hc⟩:=hP4.rarg.at_ (by omega)
   have hc1:=hc y (by omega)
   clear hc
   obtain ⟨u,hu⟩:∃ u,roots.getD y ⟨#[]⟩=u:=⟨_,rfl⟩
   rw [hu] at hc1
   have hus:=hr.getD y
   rw [hu] at hus
   have hsz:¬ (9223372036854775807 < u.size + 1):=by omega
   have c0:=ZC hP4.pool 0
   have c1:=ZC hP4.pool 1
   rw [hN] at c0 c1
   have hfin:Hid (AGot _ ss roots (u ++ (⟨#[120]⟩:ByteArray)) q2 w _ _):=hP4.fin (u ++ (⟨#[120]⟩:ByteArray)) q2 cr
   have m1:=hP4.m1
   rw [hN,hRn] at hfin
   rw [hN] at m1
   have e0:=ZC hP4.res 0
   have e1:=ZC hP4.res 1
   have ef:∀ j,w4.frozen? ⟨gr,j,none⟩=false:=fun j=>by rw [World.frozen?,hP4.res];rfl
   clear hP4
   go_wp2_with fail
   exact retPT4 Tryz.results124 rfl rfl rfl rfl rfl m1 (by rw [hq2,hu];exact hfin.out)
end Go.Proofs.YtibjhkpgaaapaaaGreatDoor
