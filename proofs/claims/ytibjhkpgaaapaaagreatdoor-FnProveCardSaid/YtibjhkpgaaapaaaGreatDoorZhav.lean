import Derived.Test.YtibjhkpgaaapaaaGreatDoorZhau
import Derived.Test.YtibjhkpgaaapaaaGreatDoorZhab
set_option maxRecDepth 100000
set_option maxHeartbeats 1000000
namespace Go.Proofs.YtibjhkpgaaapaaaGreatDoor
open Go.RowKit Go.Proofs.Sha Tryz
theorem next_any (r:Nat) (s:ByteArray) (a:Nat) (f:Bool) (n:Nat) (w:World) (h:Rd r s a f w) (ha:a <= s.size) (hs:s.size <= 1300000) (hn:n <= 4294967296) :
 Calls prog 235 #[.pointer (some ⟨r,0,none⟩),.int .i64 (n:Int)] w fun e w'=>∃ t a' f',e=.returned (.string t) /\ Hid (NX s a f n t a' f') /\ a' <= s.size /\ t.size <= s.size /\ Rd r s a' f' w' /\ Mv r w w':=by
 have c0:w.cell? ⟨r,0,none⟩=some (.string s):=ZC h 0
 have c1:w.cell? ⟨r,1,none⟩=some (.int .i64 (a:Int)):=ZC h 1
 have c2:w.cell? ⟨r,2,none⟩=some (.bool f):=ZC h 2
 have f1:w.frozen? ⟨r,1,none⟩=false:=frozen_of_heap h
 cases f
 · by_cases h1:a + n <= s.size
   · have z1:decide ((s.size:Int) - (a:Int) < (n:Int))=false:=by simp;omega
     have z2:IntKind.i64.wrap ((s.size:Int) - (a:Int))=(s.size:Int) - (a:Int):=wrap_i64_in _ (by omega) (by omega)
     go_enter func235,ntmps235
     go_wp2_with fail
     go_region_held3 (fun W=>W.cell? ⟨r,0,none⟩=some (.string s) /\ W.cell? ⟨r,1,none⟩=some (.int .i64 (a:Int)) /\ W.cell? ⟨r,2,none⟩=some (.bool false)) (exact ⟨c0,c1,c2⟩) (fail)
     go_wp2_with fail
     have z3:IntKind.i64.wrap ((a:Int) + (n:Int))=(a:Int) + (n:Int):=wrap_i64_in _ (by omega) (by omega)
     have y1:(0:Int) <= (a:Int):=by omega
     have y2:(a:Int) <= (a:Int) + (n:Int):=by omega
     have y3:(a:Int) + (n:Int) <= (s.size:Int):=by omega
     go_region_held3 (fun W=>W.cell? ⟨r,0,none⟩=some (.string s) /\ W.cell? ⟨r,1,none⟩=some (.int .i64 (a:Int))) (exact ⟨c0,c1⟩) (fail)
     go_wp2
     go_ret
     have e1:((a:Int) + (n:Int)).toNat=a + n:=by omega
     have e2:((a:Int) + (n:Int))=((a + n:Nat):Int):=by omega
     rw [e1,e2]
     refine ⟨_,a + n,false,rfl,.inl ⟨rfl,h1,rfl,rfl,rfl⟩,h1,?_,h.setA (a + n),((Mv.refl r w).setCell 1 _).drew.drew⟩
     rw [ByteArray.size_extract];omega
   · have z1:decide ((s.size:Int) - (a:Int) < (n:Int))=true:=by simp;omega
     have z2:IntKind.i64.wrap ((s.size:Int) - (a:Int))=(s.size:Int) - (a:Int):=wrap_i64_in _ (by omega) (by omega)
     go_enter func235,ntmps235
     go_wp2_with fail
     go_region_held3 (fun W=>W.cell? ⟨r,0,none⟩=some (.string s) /\ W.cell? ⟨r,1,none⟩=some (.int .i64 (a:Int)) /\ W.cell? ⟨r,2,none⟩=some (.bool false)) (exact ⟨c0,c1,c2⟩) (fail)
     go_wp2_with (first | (go_at_call 228;refine (fail_any r s a false _ h.drew).mono ?_;rintro e w2 ⟨rfl,hr2,hm2⟩))
     go_ret
     exact ⟨_,_,_,rfl,.inr ⟨.inr h1,rfl,rfl,rfl⟩,ha,Nat.zero_le _,hr2,(Mv.refl r w).drew.trans hm2⟩
 · go_enter func235,ntmps235
   go_wp2_with fail
   go_region
   go_wp2_with (first | (go_at_call 228;refine (fail_any r s a true _ h.drew).mono ?_;rintro e w2 ⟨rfl,hr2,hm2⟩))
   go_ret
   exact ⟨_,_,_,rfl,.inr ⟨.inl rfl,rfl,rfl,rfl⟩,ha,Nat.zero_le _,hr2,(Mv.refl r w).drew.trans hm2⟩
theorem i64_or_nat (a b:Nat) (ha:a < 4294967296) (hb:b < 4294967296):bits .or .i64 (a:Int) (b:Int)=((a ||| b:Nat):Int):=by
 have hx:a ||| b < 2 ^ 32:=Nat.or_lt_two_pow (by omega) (by omega)
 show IntKind.i64.wrap ((BitVec.ofInt 64 (a:Int) ||| BitVec.ofInt 64 (b:Int)).toNat:Int)=_
 rw [BitVec.toNat_or,ofInt_u64 a (by omega),ofInt_u64 b (by omega)]
 exact wrap_i64_in _ (by omega) (by omega)
theorem i64_and_nat (a b:Nat) (ha:a < 4294967296) (hb:b < 4294967296):bits .and .i64 (a:Int) (b:Int)=((a &&& b:Nat):Int):=by
 have hx:a &&& b < 2 ^ 32:=Nat.and_lt_two_pow _ (by omega)
 show IntKind.i64.wrap ((BitVec.ofInt 64 (a:Int) &&& BitVec.ofInt 64 (b:Int)).toNat:Int)=_
 rw [BitVec.toNat_and,ofInt_u64 a (by omega),ofInt_u64 b (by omega)]
 exact wrap_i64_in _ (by omega) (by omega)
def valTo (z:Nat) (low:Bool) (b:Nat -> Nat):Nat -> Nat
 | 0=>0
 | i + 1=>valTo z low b i ||| b i * 2 ^ (8 * (if low then i else z - 1 - i))
theorem piece_lt (m k:Nat) (hm:m < 256) (hk:k <= 24):m * 2 ^ k < 4294967296:=by
 have h1:2 ^ k <= 2 ^ 24:=Nat.pow_le_pow_right (by omega) hk
 have h2:m * 2 ^ k <= 255 * 2 ^ 24:=Nat.mul_le_mul (by omega) h1
 have h3:255 * 2 ^ 24 < 4294967296:=by decide
 omega
theorem valTo_lt (z:Nat) (low:Bool) (b:Nat -> Nat) (hb:∀ i,b i < 256) (hz:z <= 4):∀ i,i <= z -> valTo z low b i < 4294967296
 | 0,_=>by rw [valTo];omega
 | i + 1,hi=>by
  rw [valTo]
  have h1:=valTo_lt z low b hb hz i (by omega)
  have h2:=piece_lt (b i) (8 * (if low then i else z - 1 - i)) (hb i) (by split <;> omega)
  have:=Nat.or_lt_two_pow (n:=32) (x:=valTo z low b i) (y:=b i * 2 ^ (8 * (if low then i else z - 1 - i))) (by omega) (by omega)
  omega
def byteAt (t:ByteArray) (i:Nat):Nat:=(t.data.toList.getD i 0).toNat
theorem byteAt_lt (t:ByteArray) (i:Nat):byteAt t i < 256:=UInt8.toNat_lt _
theorem ntake (z:Nat) (low:Bool) (r:Nat) (s:ByteArray) (a:Nat) (f:Bool) (w:World) (h:Rd r s a f w) (ha:a <= s.size) (hs:s.size <= 1300000) (hz:0 < z) (hz4:z <= 4) :
 Calls prog 233 #[.agg #[.int .i64 (z:Int),.bool low],.pointer (some ⟨r,0,none⟩)] w fun e w'=>∃ (v:Nat) (t:ByteArray) (a':Nat) (f':Bool),e=.returned (.int .i64 (v:Int)) /\ Hid (NX s a f z t a' f') /\ Hid (v=valTo z low (byteAt t) t.size) /\ a' <= s.size /\ v < 4294967296 /\ Rd r s a' f' w' /\ Mv r w w':=by
 have hlt:=h.lt
 have HN:Hid (∀ w',Rd r s a f w' -> Calls prog 235 #[.pointer (some ⟨r,0,none⟩),.int .i64 (z:Int)] w' fun e w''=>∃ t a' f',e=.returned (.string t) /\ Hid (NX s a f z t a' f') /\ a' <= s.size /\ t.size <= s.size /\ Rd r s a' f' w'' /\ Mv r w' w''):=fun w' h'=>next_any r s a f z w' h' ha hs (by omega)
 go_enter func233,ntmps233
 go_wp2_with (first | (go_at_call 235;refine (HN.out _ (h.alloc _)).mono ?_;rintro e w1 ⟨t,a',f',rfl,HX,ha',ht,hr1,hm1⟩) | (refine wpList_bytes_row _ rfl (.tmp 11) 9 41 5 rfl t rfl Tryz.underlying9 Tryz.underlying41 Tryz.underlying5 ?_;intro g cap w2 hrow hb2))
 have hn1:=hm1.cells (heap_alloc_new w (.cells #[.int .i64 (z:Int),.bool low] 208)) (by omega)
 have hn2:=below_cells hb2 hn1
 have hr2:=hr1.below hb2
 have hm2:Mv r w w2:=(((Mv.refl r w).alloc _).trans hm1).trans (Mv.of_below r hb2)
 have htz:t.size <= z:=by
  rcases HX.out with ⟨_,h2,h3,_⟩ | ⟨_,h3,_⟩
  · rw [h3,ByteArray.size_extract];omega
  · rw [h3];exact Nat.zero_le _
 have HB:=byteAt_lt t
 have HVL:Hid (∀ i,i <= z -> valTo z low (byteAt t) i < 4294967296):=fun i hi=>valTo_lt z low (byteAt t) HB hz4 i hi
 have HRow:Hid (∀ W,Below w2.heap.size w2 W -> ∀ i,i < t.size -> W.cell? ⟨g,i,none⟩=some (.int .u8 (byteAt t i:Int))):=by
  intro W hW i hi
  rw [(hrow.below hW).cell i hi,List.getElem?_map,List.getElem?_eq_getElem (by exact hi)]
  unfold byteAt
  rw [List.getD_eq_getElem?_getD,List.getElem?_eq_getElem (by exact hi)]
  rfl
 clear hb2 hrow hn1 hm1 hr1 HN
 go_loopw [5,14] (fun t5 t14 wr=>∃ i v:Nat,i <= t.size /\ t5=.int .i64 (v:Int) /\ t14=.int .i64 (i:Int) /\ Hid (v=valTo z low (byteAt t) i) /\ Below w2.heap.size w2 wr) (fun _ t14 _=>t.size - (intOf t14).toNat)
 case atStart=>exact ⟨0,0,Nat.zero_le _,rfl,rfl,rfl,Below.refl _ _⟩
 case round =>
  obtain ⟨i,v,hi,rfl,rfl,HV,hb⟩:=hrel
  by_cases h1:i < t.size
  · have z1:decide ((i:Int) < (t.size:Int))=true:=by simp;omega
    have y1:(0:Int) <= (i:Int):=by omega
    have y2:(i:Int) < (t.size:Int):=by omega
    have cb:=HRow.out wr hb i h1
    have hn:=below_cells hb hn2
    have c0:wr.cell? ⟨w.heap.size,0,none⟩=some (.int .i64 (z:Int)):=ZC hn 0
    have c1:wr.cell? ⟨w.heap.size,1,none⟩=some (.bool low):=ZC hn 1
    obtain ⟨k,hk,hk24,hkb⟩:∃ k:Nat,sh z low i=(k:Int) /\ k <= 24 /\ k=8 * (if low then i else z - 1 - i):=by
     unfold sh
     cases low
     · exact ⟨8 * (z - 1 - i),by simp only [Bool.false_eq_true,if_false];omega,by omega,rfl⟩
     · exact ⟨8 * i,by simp only [if_true];omega,by omega,rfl⟩
    have HC:Hid (∀ w',Calls prog 232 #[.agg #[.int .i64 (z:Int),.bool low],.int .i64 (i:Int)] w' fun e w''=>e=.returned (.int .i64 (k:Int)) /\ Below w'.heap.size w' w''):=fun w'=>by rw [<- hk];exact shift_any _ _ _ w' (by omega) (by omega) (by omega) (by omega)
    have k0:(0:Int) <= (k:Int):=by omega
    obtain ⟨m,hm⟩:∃ m,byteAt t i=m:=⟨_,rfl⟩
    have hm256:m < 256:=by rw [<- hm];exact HB i
    obtain ⟨q,hq⟩:∃ q,m * 2 ^ k=q:=⟨_,rfl⟩
    have hq32:q < 4294967296:=by rw [<- hq];exact piece_lt m k hm256 hk24
    have hv32:v < 4294967296:=by rw [HV.out];exact HVL.out i (by omega)
    have hw:IntKind.i64.wrap ((m:Int) * 2 ^ k)=(q:Int):=by
     rw [<- hq,wrap_i64_in]
     · rw [Int.natCast_mul,Int.natCast_pow];rfl
     · have:(0:Int) <= (m:Int) * 2 ^ k:=Int.mul_nonneg (by omega) (Int.pow_nonneg (by omega))
       omega
     · have e:(m:Int) * 2 ^ k=(q:Int):=by rw [<- hq,Int.natCast_mul,Int.natCast_pow];rfl
       omega
    obtain ⟨v',hv'⟩:∃ v',v ||| q=v':=⟨_,rfl⟩
    have hor:bits .or .i64 (v:Int) (q:Int)=(v':Int):=by rw [<- hv'];exact i64_or_nat v q hv32 hq32
    have HV':Hid (v'=valTo z low (byteAt t) (i + 1)):=by show _=_;rw [valTo,<- HV.out,hm,<- hkb,hq,hv']
    rw [hm] at cb
    clear hv' hq hkb hk hm
    go_wp2_with (first | (go_at_call 232;refine (HC.out _).mono ?_;rintro e w3 ⟨rfl,hb3⟩))
    refine ⟨⟨i + 1,v',by omega,rfl,congrArg (Value.int .i64) (by omega),HV',hb.trans (hb3.mono hb.size)⟩,?_⟩
    show t.size - ((i:Int) + 1).toNat < t.size - ((i:Int)).toNat
    omega
  · have e:i=t.size:=by omega
    have z1:decide ((i:Int) < (t.size:Int))=false:=by simp;omega
    go_wp2_with fail
    go_ret
    have hv32:v < 4294967296:=by rw [HV.out];exact HVL.out i (by omega)
    subst e
    exact ⟨v,t,a',f',rfl,HX,HV,ha',hv32,hr2.below hb,hm2.trans (Mv.of_below r hb)⟩
theorem NX.fault {s:ByteArray} {a:Nat} {f:Bool} {n:Nat} {t:ByteArray} {a':Nat} (h:NX s a f n t a' true):t=⟨#[]⟩:=by
 rcases h with ⟨_,_,_,_,h⟩ | ⟨_,h,_⟩
 · cases h
 · exact h
theorem rint (z:Nat) (low:Bool) (r:Nat) (s:ByteArray) (a:Nat) (f:Bool) (w:World) (h:Rd r s a f w) (ha:a <= s.size) (hs:s.size <= 1300000) (hz:0 < z) (hz4:z <= 4) :
 Calls prog 168 #[.pointer (some ⟨r,0,none⟩),.iface 208 (.agg #[.int .i64 (z:Int),.bool low])] w fun e w'=>∃ (v:Nat) (t:ByteArray) (a':Nat) (f':Bool),e=.returned (.int .i64 (v:Int)) /\ Hid (NX s a f z t a' f') /\ Hid (v=valTo z low (byteAt t) t.size) /\ a' <= s.size /\ v < 4294967296 /\ Rd r s a' f' w' /\ Mv r w w':=by
 have hmt : ∀ w : World, (method 427 208 (.agg #[.int .i64 (z : Int), .bool low]) "loop.example/s03048/impl.take").run prog w = .ok (233, .agg #[.int .i64 (z : Int), .bool low]) w := fun _ => by kernel_rfl
 have HC:=ntake z low r s a f w h ha hs hz hz4
 have HCh:Hid (Calls prog 233 #[.agg #[.int .i64 (z:Int),.bool low],.pointer (some ⟨r,0,none⟩)] w fun e w'=>∃ (v:Nat) (t:ByteArray) (a':Nat) (f':Bool),e=.returned (.int .i64 (v:Int)) /\ Hid (NX s a f z t a' f') /\ Hid (v=valTo z low (byteAt t) t.size) /\ a' <= s.size /\ v < 4294967296 /\ Rd r s a' f' w' /\ Mv r w w'):=HC
 clear HC
 go_enter func168,ntmps168
 go_wp2_with (first | (go_at_call 233;refine HCh.out.mono ?_;rintro e w1 ⟨v,t,a',f',rfl,HX,HV,ha',hv,hr1,hm1⟩;have c2:w1.cell? ⟨r,2,none⟩=some (.bool f'):=ZC hr1 2))
 · rename_i hf
   go_ret
   subst hf
   have e:=NX.fault HX.out
   exact ⟨0,t,a',true,rfl,HX,by show 0=valTo z low (byteAt t) t.size;rw [e];rfl,ha',by omega,hr1,hm1⟩
 · go_ret
   exact ⟨v,t,a',f',rfl,HX,HV,ha',hv,hr1,hm1⟩
theorem clone_any (t:ByteArray) (w:World) (ht:t.size <= 1300000) :
 Calls prog 163 #[.string t] w fun e w'=>e=.returned (.string t) /\ Below w.heap.size w w':=by
 have HC:Hid (Calls prog 181 #[.string t] w fun e w'=>e=.returned (.string t) /\ Below w.heap.size w w'):=Tryz.stringslite_Clone t w (by omega)
 go_enter func163,ntmps163
 go_wp2_with (first | (go_at_call 181;refine HC.out.mono ?_;rintro e w1 ⟨rfl,hb1⟩))
 go_ret
 exact ⟨rfl,hb1⟩
theorem ptake (n:Nat) (r:Nat) (s:ByteArray) (a:Nat) (f:Bool) (w:World) (h:Rd r s a f w) (ha:a <= s.size) (hs:s.size <= 1300000) (hn:n <= 4294967296) :
 Calls prog 240 #[.agg #[.int .i64 (n:Int)],.pointer (some ⟨r,0,none⟩)] w fun e w'=>∃ (t:ByteArray) (a':Nat) (f':Bool),e=.returned (.string t) /\ Hid (NX s a f n t a' f') /\ a' <= s.size /\ t.size <= s.size /\ Rd r s a' f' w' /\ Mv r w w':=by
 have HN:Hid (∀ w',Rd r s a f w' -> Calls prog 235 #[.pointer (some ⟨r,0,none⟩),.int .i64 (n:Int)] w' fun e w''=>∃ t a' f',e=.returned (.string t) /\ Hid (NX s a f n t a' f') /\ a' <= s.size /\ t.size <= s.size /\ Rd r s a' f' w'' /\ Mv r w' w''):=fun w' h'=>next_any r s a f n w' h' ha hs hn
 go_enter func240,ntmps240
 go_wp2_with (first | (go_at_call 235;refine (HN.out _ (h.alloc _)).mono ?_;rintro e w1 ⟨t,a',f',rfl,HX,ha',ht,hr1,hm1⟩) | (go_at_call 163;refine (clone_any t _ (by omega)).mono ?_;rintro e w2 ⟨rfl,hb2⟩))
 go_ret
 exact ⟨t,a',f',rfl,HX,ha',ht,hr1.below hb2,(((Mv.refl r w).alloc _).trans hm1).trans (Mv.of_below r hb2)⟩
theorem rplain (n:Nat) (r:Nat) (s:ByteArray) (a:Nat) (f:Bool) (w:World) (h:Rd r s a f w) (ha:a <= s.size) (hs:s.size <= 1300000) (hn:n <= 4294967296) :
 Calls prog 169 #[.pointer (some ⟨r,0,none⟩),.iface 214 (.agg #[.int .i64 (n:Int)])] w fun e w'=>∃ (t:ByteArray) (a':Nat) (f':Bool),e=.returned (.string t) /\ Hid (NX s a f n t a' f') /\ a' <= s.size /\ t.size <= s.size /\ Rd r s a' f' w' /\ Mv r w w':=by
 have hmt : ∀ w : World, (method 427 214 (.agg #[.int .i64 (n : Int)]) "loop.example/s03048/impl.take").run prog w = .ok (240, .agg #[.int .i64 (n : Int)]) w := fun _ => by kernel_rfl
 have HCh:Hid (Calls prog 240 #[.agg #[.int .i64 (n:Int)],.pointer (some ⟨r,0,none⟩)] w fun e w'=>∃ (t:ByteArray) (a':Nat) (f':Bool),e=.returned (.string t) /\ Hid (NX s a f n t a' f') /\ a' <= s.size /\ t.size <= s.size /\ Rd r s a' f' w' /\ Mv r w w'):=ptake n r s a f w h ha hs hn
 go_enter func169,ntmps169
 go_wp2_with (first | (go_at_call 240;refine HCh.out.mono ?_;rintro e w1 ⟨t,a',f',rfl,HX,ha',ht,hr1,hm1⟩;have c2:w1.cell? ⟨r,2,none⟩=some (.bool f'):=ZC hr1 2))
 · rename_i hf
   go_ret
   subst hf
   exact ⟨⟨#[]⟩,a',true,rfl,by rw [<- NX.fault HX.out];exact HX,ha',Nat.zero_le _,hr1,hm1⟩
 · go_ret
   exact ⟨t,a',f',rfl,HX,ha',ht,hr1,hm1⟩
def SX (z:Nat) (low:Bool) (s:ByteArray) (a:Nat) (f:Bool) (t:ByteArray) (a':Nat) (f':Bool):Prop :=
 ∃ (t1:ByteArray) (a1:Nat) (f1:Bool),NX s a f z t1 a1 f1 /\ NX s a1 f1 (valTo z low (byteAt t1) t1.size) t a' f'
theorem stake (z:Nat) (low:Bool) (r:Nat) (s:ByteArray) (a:Nat) (f:Bool) (w:World) (h:Rd r s a f w) (ha:a <= s.size) (hs:s.size <= 1300000) (hz:0 < z) (hz4:z <= 4) :
 Calls prog 244 #[.agg #[.int .i64 (z:Int),.bool low],.pointer (some ⟨r,0,none⟩)] w fun e w'=>∃ (t:ByteArray) (a':Nat) (f':Bool),e=.returned (.string t) /\ Hid (SX z low s a f t a' f') /\ a' <= s.size /\ t.size <= s.size /\ Rd r s a' f' w' /\ Mv r w w':=by
 have HI:Hid (∀ w',Rd r s a f w' -> Calls prog 168 #[.pointer (some ⟨r,0,none⟩),.iface 208 (.agg #[.int .i64 (z:Int),.bool low])] w' fun e w''=>∃ (v:Nat) (t:ByteArray) (a':Nat) (f':Bool),e=.returned (.int .i64 (v:Int)) /\ Hid (NX s a f z t a' f') /\ Hid (v=valTo z low (byteAt t) t.size) /\ a' <= s.size /\ v < 4294967296 /\ Rd r s a' f' w'' /\ Mv r w' w''):=fun w' h'=>rint z low r s a f w' h' ha hs hz hz4
 go_enter func244,ntmps244
 go_wp2_with (first | (go_at_call 168;refine (HI.out _ (h.alloc _)).mono ?_;rintro e w1 ⟨v,t1,a1,f1,rfl,HX,HV,ha1,hv,hr1,hm1⟩) | (go_at_call 169;refine (rplain v r s a1 f1 _ hr1 ha1 hs (by omega)).mono ?_;rintro e w2 ⟨t,a',f',rfl,HY,ha',ht,hr2,hm2⟩))
 go_ret
 refine ⟨t,a',f',rfl,⟨t1,a1,f1,HX.out,?_⟩,ha',ht,hr2,(((Mv.refl r w).alloc _).trans hm1).trans hm2⟩
 rw [<- HV.out]
 exact HY.out
theorem rsized (z:Nat) (low:Bool) (r:Nat) (s:ByteArray) (a:Nat) (f:Bool) (w:World) (h:Rd r s a f w) (ha:a <= s.size) (hs:s.size <= 1300000) (hz:0 < z) (hz4:z <= 4) :
 Calls prog 169 #[.pointer (some ⟨r,0,none⟩),.iface 261 (.agg #[.int .i64 (z:Int),.bool low])] w fun e w'=>∃ (t:ByteArray) (a':Nat) (f':Bool),e=.returned (.string t) /\ Hid (SX z low s a f t a' f') /\ a' <= s.size /\ t.size <= s.size /\ Rd r s a' f' w' /\ Mv r w w':=by
 have hmt : ∀ w : World, (method 427 261 (.agg #[.int .i64 (z : Int), .bool low]) "loop.example/s03048/impl.take").run prog w = .ok (244, .agg #[.int .i64 (z : Int), .bool low]) w := fun _ => by kernel_rfl
 have HCh:Hid (Calls prog 244 #[.agg #[.int .i64 (z:Int),.bool low],.pointer (some ⟨r,0,none⟩)] w fun e w'=>∃ (t:ByteArray) (a':Nat) (f':Bool),e=.returned (.string t) /\ Hid (SX z low s a f t a' f') /\ a' <= s.size /\ t.size <= s.size /\ Rd r s a' f' w' /\ Mv r w w'):=stake z low r s a f w h ha hs hz hz4
 go_enter func169,ntmps169
 go_wp2_with (first | (go_at_call 244;refine HCh.out.mono ?_;rintro e w1 ⟨t,a',f',rfl,HX,ha',ht,hr1,hm1⟩;have c2:w1.cell? ⟨r,2,none⟩=some (.bool f'):=ZC hr1 2))
 · rename_i hf
   go_ret
   subst hf
   obtain ⟨t1,a1,f1,h1,h2⟩:=HX.out
   exact ⟨⟨#[]⟩,a',true,rfl,⟨t1,a1,f1,h1,by rw [<- NX.fault h2];exact h2⟩,ha',Nat.zero_le _,hr1,hm1⟩
 · go_ret
   exact ⟨t,a',f',rfl,HX,ha',ht,hr1,hm1⟩
end Go.Proofs.YtibjhkpgaaapaaaGreatDoor
