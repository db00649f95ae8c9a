import Derived.Shelf.Strings.BuilderF
import Derived.Shelf.Strings.BuilderK
import Derived.Test.YtibjhkpgaaapaaaGreatDoorZiaf
import Derived.Test.YtibjhkpgaaapaaaGreatDoorZiab
import Derived.Test.YtibjhkpgaaapaaaGreatDoorProg
import Derived.WalkSpells
import Derived.WalkLawsBesides
import Derived.StillTactics
import Derived.Laws.Pointers
import Derived.Deep.RegionHeld3
import Derived.Deep.QuietTactic
import Derived.BigQuiet
import Derived.OwnWalk
set_option maxRecDepth 10000000
set_option maxHeartbeats 2000000
namespace Go.Proofs.YtibjhkpgaaapaaaGreatDoor
open Go.RowKit Go.Proofs.Sha Tryz
def sh (z:Int) (low:Bool) (i:Int):Int:=if low then 8*i else 8*(z-1-i)
theorem shift_any (z:Int)(low:Bool)(i:Int)(w:World)(hz:0<=z)(hz4:z<=8)(hi:0<=i)(hi4:i<z) : Calls prog 232 #[.agg #[.int .i64 z,.bool low],.int .i64 i] w λe w'=>e=.returned (.int .i64 (sh z low i))/\Below w.heap.size w w':=by
 cases low
 ·go_enter func232,ntmps232;go_wp2;go_ret;exact⟨rfl,(Below.refl _ _).alloc (Nat.le_refl _) _⟩
 ·go_enter func232,ntmps232;go_wp2;go_ret;exact⟨rfl,(Below.refl _ _).alloc (Nat.le_refl _) _⟩
def Bld (b:Nat) (l:List UInt8) (w:World):Prop:=Lib.IsBuilderF 165 5 b b (Lib.byteCells l) w
def Put (b:Nat) (l:List UInt8) (w w':World):Prop:=Bld b l w'/\Below b w w'/\Lib.OthersKept 5 (some b) w w'
theorem Bld.lt {b:Nat}{l:List UInt8}{w:World}(h:Bld b l w):b<w.heap.size:=by
 rcases h with h|h
 ·exact h.lt
 ·exact h.lt
theorem Bld.alloc {b:Nat}{l:List UInt8}{w:World}(h:Bld b l w)(o:Obj):Bld b l (w.alloc o):=by
 rcases h with h|h
 ·exact .inl (h.alloc o)
 ·exact .inr (h.alloc o)
theorem Put.refl {b:Nat}{l:List UInt8}{w:World}(h:Bld b l w):Put b l w w:=⟨h,Below.refl _ _,Lib.OthersKept.refl _ _ _⟩
theorem Put.trans {b:Nat}{l m:List UInt8}{w w' w'':World}(h:Put b l w w')(h':Put b m w' w''):Put b m w w'':=⟨h'.1,h.2.1.trans h'.2.1,h.2.2.trans h'.2.2⟩
theorem Put.alloc {b:Nat}{l:List UInt8}{w w':World}(h:Put b l w w')(o:Obj):Put b l w (w'.alloc o):=⟨h.1.alloc o,h.2.1.alloc (Nat.le_of_lt h.1.lt) o,h.2.2.alloc o⟩
theorem wb_any (b:Nat)(l:List UInt8)(c:Int)(w:World)(x:UInt8)(hc:c=(x.toNat:Int))(h:Bld b l w)(hl:l.length<=10000000) : Calls prog 234 #[.pointer (some ⟨b,0,none⟩),.int .u8 c] w λe w'=>e=.returned .nilIface/\Put b (l++[x]) w w':=by
 refine(Tryz.Builder_WriteByte_k b b _ c w h (by rw[Lib.byteCells_length];omega) (Nat.le_of_lt h.lt)).mono ?_;rintro e w' ⟨rfl,h1,h2,h3⟩;refine⟨rfl,.inr ?_,h2,h3⟩;rw[Lib.byteCells_append];rw[hc] at h1;exact h1
theorem ws_any (b:Nat)(l:List UInt8)(s:ByteArray)(w:World)(h:Bld b l w)(hl:l.length+s.size<=10000000) : Calls prog 241 #[.pointer (some ⟨b,0,none⟩),.string s] w λe w'=>e=.returned (.tuple #[.int .i64 s.size,.nilIface])/\Put b (l++s.data.toList) w w':=by
 refine(Tryz.Builder_WriteString_k b b _ s w h (by rw[Lib.byteCells_length];omega) (Nat.le_of_lt h.lt)).mono ?_;rintro e w' ⟨rfl,h1,h2,h3⟩;refine⟨rfl,.inr ?_,h2,h3⟩;rw[Lib.byteCells_append];exact h1
def numByte (z:Nat) (low:Bool) (v i:Nat):UInt8:=UInt8.ofNat (v / 2 ^ (8*(if low then i else z-1-i)))
def numTo (z:Nat) (low:Bool) (v:Nat):Nat->List UInt8
 | 0=>[]
 | i+1=>numTo z low v i++[numByte z low v i]
theorem qci (z:Nat)(low:Bool)(v:Nat):∀i,(numTo z low v i).length=i
 | 0=>rfl
 | i+1=>by rw[numTo,List.length_append,qci z low v i];rfl
theorem Bld.heap {b:Nat}{l:List UInt8}{w w':World}(h:Bld b l w)(hb:∀k,k<w.heap.size->w'.heap[k]?=w.heap[k]?):Bld b l w':=by
 have H:∀p,Lib.BuilderAtF 165 5 b b p (Lib.byteCells l) w->Lib.BuilderAtF 165 5 b b p (Lib.byteCells l) w':=by
  rintro p ⟨h1,v,h2,h3,h4⟩;have l2:=(zG h2).1;refine⟨h1,v,(hb b l2).trans h2,⟨h3.1,?_⟩,h4⟩;rcases h3.2 with hn|⟨g,cap,cur,fz,hv,hbg,hg,rest⟩
  ·exact .inl hn
  ·exact .inr ⟨g,cap,cur,fz,hv,hbg,(hb g (zG hg).1).trans hg,rest⟩
 rcases h with h|h
 ·exact .inl (H _ h)
 ·exact .inr (H _ h)
theorem Bld.below {b:Nat}{l:List UInt8}{w w':World}(h:Bld b l w)(hb:Below w.heap.size w w'):Bld b l w':=h.heap hb.block
theorem Put.below {b:Nat}{l:List UInt8}{w w' w'':World}(h:Put b l w w')(hb:Below w'.heap.size w' w''):Put b l w w'' :=
 ⟨h.1.below hb,h.2.1.trans (hb.mono (Nat.le_of_lt h.1.lt)),λk o hk hkb ho=>by
  have h1:=h.2.2 k o hk hkb ho
  exact(hb.block k (zG h1).1).trans h1⟩
theorem Put.cells {b k:Nat}{l:List UInt8}{w w':World}{cs:Array Value}{t:TypeId}(h:Put b l w w')(hk:w.heap[k]?=some (.cells cs t))(hne:k ≠ b)(ht:t ≠ 5):w'.heap[k]?=some (.cells cs t) :=
 h.2.2 k _ hk (λe=>hne (Option.some.inj e)) (λc fz e=>ht (by cases e;rfl))
theorem qab {k:Nat}{w w':World}{o:Obj}(h:Below w.heap.size w w')(hk:w.heap[k]?=some o):w'.heap[k]?=some o :=
 (h.block k (zG hk).1).trans hk
theorem byte_of_shift (v k:Nat):((v:Int) / 2 ^ k % 256)=((UInt8.ofNat (v / 2 ^ k)).toNat:Int):=by
 rw[UInt8.toNat_ofNat',show (2:Nat) ^ 8=256 from rfl];obtain⟨p,hp⟩:∃p:Nat,2 ^ k=p:=⟨_,rfl⟩;have hp':(2:Int) ^ k=(p:Int):=by rw[<-hp,Int.natCast_pow];rfl
 rw[hp,hp',Int.natCast_emod,Int.natCast_ediv];rfl
theorem nput (z:Nat)(low:Bool)(b:Nat)(v:Nat)(l:List UInt8)(w:World)(hz:0<z)(hz4:z<=7)(h:Bld b l w)(hl:l.length<=9000000)(_hv:v<=9223372036854775807) : Calls prog 231 #[.agg #[.int .i64 (z:Int),.bool low],.pointer (some ⟨b,0,none⟩),.int .i64 (v:Int)] w λe w'=>e=.returned (.tuple #[])/\Put b (l++numTo z low v z) w w':=by
 go_enter func231,ntmps231;go_wp2;go_loopw [9] (λt9 wr=>∃i:Nat,i<=z/\t9=.int .i64 (i:Int)/\Put b (l++numTo z low v i) w wr/\wr.heap[w.heap.size]?=some (.cells #[.int .i64 (z:Int),.bool low] 208)) (λt9 _=>z-(intOf t9).toNat)
 case atStart =>
  refine⟨0,Nat.zero_le _,rfl,?_,heap_alloc_new _ _⟩;rw[numTo,List.append_nil];exact(Put.refl h).alloc _
 case round =>
  obtain⟨i,hi,rfl,hp,hn⟩:=hrel;by_cases h1:i<z
  ·have z1:decide ((i:Int)<(z:Int))=true:=(by simp;omega);have c0:wr.cell? ⟨w.heap.size,0,none⟩=some (.int .i64 (z:Int)):=ZC hn 0;have c1:wr.cell? ⟨w.heap.size,1,none⟩=some (.bool low):=ZC hn 1;obtain⟨k,hk,hk56,hkb⟩:∃k:Nat,sh z low i=(k:Int)/\k<=56/\numByte z low v i=UInt8.ofNat (v / 2 ^ k):=by
    unfold sh numByte;cases low
    ·exact⟨8*(z-1-i),by simp only[Bool.false_eq_true,if_false];omega,by omega,rfl⟩
    ·exact⟨8*i,by simp only[if_true];omega,by omega,rfl⟩
   have HC:Hid (∀w',Calls prog 232 #[.agg #[.int .i64 (z:Int),.bool low],.int .i64 (i:Int)] w' λe w''=>e=.returned (.int .i64 (k:Int))/\Below w'.heap.size w' w''):=λw'=>by rw[<-hk];exact shift_any _ _ _ w' (by omega) (by omega) (by omega) (by omega)
   have k0:(0:Int)<=(k:Int):=(by omega);go_wp2_with (first|(go_at_call 232;refine(HC.out _).mono ?_;rintro e w1 ⟨rfl,hb1⟩)|(go_at_call 234;refine(wb_any b _ _ w1 _ (byte_of_shift v k) (hp.1.below hb1) (by rw[List.length_append,qci];omega)).mono ?_;rintro e w2 ⟨rfl,hp2⟩));have hne:w.heap.size ≠ b:=(by have:=h.lt;omega);refine⟨⟨i+1,by omega,congrArg (Value.int .i64) (by omega),?_,hp2.cells (qab hb1 hn) hne (by decide)⟩,?_⟩
   ·have:=(hp.below hb1).trans hp2;rw[numTo,hkb,<-List.append_assoc];exact this
   ·show z-((i:Int)+1).toNat<z-((i:Int)).toNat;omega
  ·have z1:decide ((i:Int)<(z:Int))=false:=(by simp;omega);go_wp2;have e:i=z:=(by omega);subst e;go_end0;exact⟨rfl,hp⟩
theorem wint (z:Nat)(low:Bool)(b:Nat)(v:Nat)(l:List UInt8)(w:World)(hz:0<z)(hz4:z<=7)(h:Bld b l w)(hl:l.length<=9000000)(hv:v<=9223372036854775807) : Calls prog 223 #[.pointer (some ⟨b,0,none⟩),.iface 208 (.agg #[.int .i64 (z:Int),.bool low]),.int .i64 (v:Int)] w λe w'=>e=.returned (.tuple #[])/\Put b (l++numTo z low v z) w w':=by
 have hmt : ∀ w : World, (method 427 208 (.agg #[.int .i64 (z : Int), .bool low]) "loop.example/s03048/impl.put").run prog w = .ok (231, .agg #[.int .i64 (z : Int), .bool low]) w := fun _ => by kernel_rfl
 go_enter func223,ntmps223;go_wp2_with (first|(go_at_call 231;refine(nput z low b v l w hz hz4 h hl hv).mono ?_;rintro e w2 ⟨rfl,hp2⟩));go_end0;exact⟨rfl,hp2⟩
theorem plain_put (n:Int)(b:Nat)(s:ByteArray)(l:List UInt8)(w:World)(h:Bld b l w)(hl:l.length+s.size<=9000000) : Calls prog 239 #[.agg #[.int .i64 n],.pointer (some ⟨b,0,none⟩),.string s] w λe w'=>e=.returned (.tuple #[])/\Put b (l++s.data.toList) w w':=by
 go_enter func239,ntmps239;go_wp2_with (first|(go_at_call 241;refine(ws_any b l s _ (h.alloc _) (by omega)).mono ?_;rintro e w2 ⟨rfl,hp2⟩));go_end0;exact⟨rfl,((Put.refl h).alloc _).trans hp2⟩
theorem wplain (n:Int)(b:Nat)(s:ByteArray)(l:List UInt8)(w:World)(h:Bld b l w)(hl:l.length+s.size<=9000000) : Calls prog 224 #[.pointer (some ⟨b,0,none⟩),.iface 214 (.agg #[.int .i64 n]),.string s] w λe w'=>e=.returned (.tuple #[])/\Put b (l++s.data.toList) w w':=by
 have hmt : ∀ w : World, (method 427 214 (.agg #[.int .i64 n]) "loop.example/s03048/impl.put").run prog w = .ok (239, .agg #[.int .i64 n]) w := fun _ => by kernel_rfl
 go_enter func224,ntmps224;go_wp2_with (first|(go_at_call 239;refine(plain_put n b s l w h hl).mono ?_;rintro e w2 ⟨rfl,hp2⟩));go_end0;exact⟨rfl,hp2⟩
theorem sized_put (z:Nat)(low:Bool)(b:Nat)(s:ByteArray)(l:List UInt8)(w:World)(hz:0<z)(hz4:z<=7)(h:Bld b l w)(hl:l.length+s.size<=8000000) : Calls prog 243 #[.agg #[.int .i64 (z:Int),.bool low],.pointer (some ⟨b,0,none⟩),.string s] w λe w'=>e=.returned (.tuple #[])/\Put b (l++numTo z low s.size z++s.data.toList) w w':=by
 go_enter func243,ntmps243;go_wp2_with (first|(go_at_call 223;refine(wint z low b s.size l _ hz hz4 (h.alloc _) (by omega) (by omega)).mono ?_;rintro e w2 ⟨rfl,hp2⟩)|(go_at_call 224;refine(wplain _ b s _ _ hp2.1 (by rw[List.length_append,qci];omega)).mono ?_;rintro e w3 ⟨rfl,hp3⟩));go_end0;exact⟨rfl,(((Put.refl h).alloc _).trans hp2).trans hp3⟩
theorem wsized (z:Nat)(low:Bool)(b:Nat)(s:ByteArray)(l:List UInt8)(w:World)(hz:0<z)(hz4:z<=7)(h:Bld b l w)(hl:l.length+s.size<=8000000) : Calls prog 224 #[.pointer (some ⟨b,0,none⟩),.iface 261 (.agg #[.int .i64 (z:Int),.bool low]),.string s] w λe w'=>e=.returned (.tuple #[])/\Put b (l++numTo z low s.size z++s.data.toList) w w':=by
 have hmt : ∀ w : World, (method 427 261 (.agg #[.int .i64 (z : Int), .bool low]) "loop.example/s03048/impl.put").run prog w = .ok (243, .agg #[.int .i64 (z : Int), .bool low]) w := fun _ => by kernel_rfl
 go_enter func224,ntmps224;go_wp2_with (first|(go_at_call 243;refine(sized_put z low b s l w hz hz4 h hl).mono ?_;rintro e w2 ⟨rfl,hp2⟩));go_end0;exact⟨rfl,hp2⟩
theorem wint1 (b:Nat)(v:Nat)(l:List UInt8)(w:World)(h:Bld b l w)(hl:l.length<=9000000)(hv:v<=9223372036854775807) : Calls prog 223 #[.pointer (some ⟨b,0,none⟩),.iface 208 (.agg #[.int .i64 1,.bool false]),.int .i64 (v:Int)] w λe w'=>e=.returned (.tuple #[])/\Put b (l++[UInt8.ofNat v]) w w':=by
 have:=wint 1 false b v l w (by omega) (by omega) h hl hv;have e:numTo 1 false v 1=[UInt8.ofNat v]:=by simp[numTo,numByte]
 rw[e] at this;exact this
theorem fresh_bld (w:World):Bld w.heap.size [] (w.alloc (.cells #[.pointer none,.slice none 0 0] 165)):=Lib.IsBuilderF.of (Lib.fresh_isBuilder 165 5 w)
theorem bstring (b:Nat)(l:List UInt8)(w:World)(h:Bld b l w) : Calls prog 114 #[.pointer (some ⟨b,0,none⟩)] w λe w'=>e=.returned (.string ⟨l.toArray⟩)/\Below b w w':=by
 refine(Tryz.Builder_String_any_k b b l w h (Nat.le_of_lt h.lt)).mono ?_;rintro e w' ⟨rfl,_,hb,_⟩;exact⟨rfl,hb⟩
theorem fresh_bld1 (w:World)(o:Obj):Bld (w.heap.size+1) [] ((w.alloc o).alloc (.cells #[.pointer none,.slice none 0 0] 165)):=by
 have:=fresh_bld (w.alloc o)
 rwa [show (w.alloc o).heap.size=w.heap.size+1 by simp] at this
def byteS (n:Nat):ByteArray:=⟨#[UInt8.ofNat n]⟩
theorem byte_form (n:Nat):Value.int .u8 ((n:Int) % 256)=B (UInt8.ofNat n):=by
 unfold B;rw[UInt8.toNat_ofNat'];show Value.int .u8 _=Value.int .u8 ((n % 256:Nat):Int);rw[Int.natCast_emod];rfl
theorem byte_any (n:Nat)(_hn:n<=1048576)(w:World) : Calls prog 91 #[.int .i64 (n:Int)] w λe w'=>e=.returned (.string (byteS n))/\Below w.heap.size w w':=by
 have hrow:Row (w.alloc (.cells #[.int .u8 ((n:Int) % 256)] 5)) w.heap.size w.heap.size 1 1 ([UInt8.ofNat n].map B):=by
  have e:[UInt8.ofNat n].map B=[.int .u8 ((n:Int) % 256)]:=by rw[byte_form];rfl
  rw[e];exact Row.of_block (Nat.le_refl _) (heap_alloc_new w (.cells #[.int .u8 ((n:Int) % 256)] 5)) 1 (by simp) (.inl rfl)
 go_enter func91,ntmps91;go_wp2_with (refine qbe _ rfl (.tmp 5) 41 9 5 rfl w.heap.size w.heap.size 1 1 [UInt8.ofNat n] rfl hrow Tryz.underlying41 Tryz.underlying5 Tryz.underlying9 ?_);go_ret;exact⟨rfl,(Below.refl _ _).alloc (Nat.le_refl _) _⟩
theorem qdC (m:Int)(h0:0<=m)(h1:m<=1048576)(w:World) : Calls prog 91 #[.int .i64 m] w λe w'=>∃t:ByteArray,e=.returned (.string t)/\t.size<=1/\Hid (t=byteS m.toNat)/\Below w.heap.size w w':=by
 obtain⟨n,rfl⟩:=Int.eq_ofNat_of_zero_le h0;rw[Int.toNat_natCast];exact(byte_any n (by omega) w).mono λe w' ⟨he,hb⟩=>⟨_,he,Nat.le_refl _,rfl,hb⟩
def T (l:List UInt8):ByteArray:=⟨l.toArray⟩
theorem T_data (l:List UInt8):(T l).data.toList=l:=rfl
theorem T_size (l:List UInt8):(T l).size=l.length:=rfl
theorem T_of (s:ByteArray):T s.data.toList=s:=by cases s;rfl
theorem T_append (a b:List UInt8):T a++T b=T (a++b):=by
 apply ByteArray.ext;show (T a++T b).data=_;rw[ByteArray.data_append];apply Array.ext';simp[T]
def sized (l:List UInt8):List UInt8:=UInt8.ofNat (l.length / 256) :: UInt8.ofNat (l.length % 256) :: l
theorem qch (n:Nat):byteS n=T [UInt8.ofNat n]:=rfl
theorem sized_any (l:List UInt8)(hl:l.length<=1048576)(w:World) : Calls prog 90 #[.string (T l)] w λe w'=>e=.returned (.string (T (sized l)))/\Below w.heap.size w w':=by
 have hs:=T_size l;obtain⟨s,hS⟩:=eX (T l);rw[hS] at hs;rw[hS];have HS:Hid (T l=s/\s.size=l.length):=⟨hS,hs⟩;have hs2:s.size<=1048576:=by omega
 clear hS hs;go_enter func90,ntmps90;go_wp2_with fail;refine(qdC _ (by omega) (by omega) _).mono ?_;rintro e w1 ⟨t1,rfl,hz1,HT1,hb1⟩;go_wp2_with fail;refine(qdC _ (by omega) (by omega) _).mono ?_;rintro e w2 ⟨t2,rfl,hz2,HT2,hb2⟩;go_wp2;go_ret;refine⟨congrArg (λz=>Ending.returned (.string z)) ?_,hb1.trans (hb2.mono hb1.size)⟩;show t1++t2++s=T (sized l);rw[HT1.out,HT2.out,qch,qch,<-HS.out.1,T_append,T_append];have e1:((T l).size / 256:Int).toNat=l.length / 256:=by rw[T_size];omega
 have e2:((T l).size % 256:Int).toNat=l.length % 256:=by rw[T_size];omega
 rw[e1,e2];rfl
def hashOk (n:Nat) (w:Int):Bool:=decide (n=0) || decide ((n:Int)=w)
theorem qaJ (s:ByteArray)(k:Int)(w:World)(_hs:s.size<=1048576) : Calls prog 82 #[.string s,.int .i64 k] w λe w'=>e=.returned (.bool (hashOk s.size k))/\w=w':=by
 by_cases h0:s.size=0
 ·have c0:((s.size:Int) == 0)=true:=(by rw[h0];rfl);have HR:Hid (hashOk s.size k=true):=(by show hashOk s.size k=true;unfold hashOk;simp[h0]);clear h0;go_enter func82,ntmps82;go_wp2;go_ret;exact⟨by rw[HR.out];rfl,rfl⟩
 ·have c0:((s.size:Int) == 0)=false:=(by rw[beq_eq_false_iff_ne];omega);have HR:Hid (hashOk s.size k=((s.size:Int) == k)):=by
   show hashOk s.size k=((s.size:Int) == k);unfold hashOk;rw[decide_eq_false h0,Bool.false_or,Bool.eq_iff_iff];simp
  clear h0;go_enter func82,ntmps82;go_wp2;go_ret;exact⟨by rw[HR.out];rfl,rfl⟩
def nodeOk (k v l r:Nat) (w:Int):Bool:=decide (1<=w/\w<=32/\1<=k/\k<=256/\v<=2000) && (hashOk l w && hashOk r w)
theorem nodeOk_any (k v l r:ByteArray)(n:Int)(w:World)(hk:k.size<=1048576)(hv:v.size<=1048576)(hl:l.size<=1048576)(hr:r.size<=1048576) : Calls prog 89 #[.agg #[.string k,.string v,.string l,.string r],.int .i64 n] w λe w'=>e=.returned (.bool (nodeOk k.size v.size l.size r.size n))/\Below w.heap.size w w':=by
 have hfin:=bA w (.cells #[.string k,.string v,.string l,.string r] 73);by_cases h1:n<1
 ·have HR:Hid (nodeOk k.size v.size l.size r.size n=false):=by
   show nodeOk k.size v.size l.size r.size n=false;unfold nodeOk;rw[decide_eq_false (by omega),Bool.false_and]
  have c1:decide (1<=n)=false:=(by simpa using h1);go_enter func89,ntmps89;go_wp2_with (first|(go_at_call 82;refine(qaJ _ _ _ (by assumption)).mono ?_;rintro e w' ⟨rfl,rfl⟩)|go_in);go_ret;exact⟨by rw[HR.out];rfl,hfin⟩
 by_cases h2:32<n
 ·have HR:Hid (nodeOk k.size v.size l.size r.size n=false):=by
   show nodeOk k.size v.size l.size r.size n=false;unfold nodeOk;rw[decide_eq_false (by omega),Bool.false_and]
  have c1:decide (1<=n)=true:=(by simp;omega);have c2:decide (n<=32)=false:=(by simpa using h2);go_enter func89,ntmps89;go_wp2_with (first|(go_at_call 82;refine(qaJ _ _ _ (by assumption)).mono ?_;rintro e w' ⟨rfl,rfl⟩)|go_in);go_ret;exact⟨by rw[HR.out];rfl,hfin⟩
 by_cases h3:k.size<1
 ·have HR:Hid (nodeOk k.size v.size l.size r.size n=false):=by
   show nodeOk k.size v.size l.size r.size n=false;unfold nodeOk;rw[decide_eq_false (by omega),Bool.false_and]
  have c1:decide (1<=n)=true:=(by simp;omega);have c2:decide (n<=32)=true:=(by simp;omega);have c3:decide ((k.size:Int)<1)=true:=(by simp;omega);go_enter func89,ntmps89;go_wp2_with (first|(go_at_call 82;refine(qaJ _ _ _ (by assumption)).mono ?_;rintro e w' ⟨rfl,rfl⟩)|go_in);go_ret;exact⟨by rw[HR.out];rfl,hfin⟩
 by_cases h4:256<k.size
 ·have HR:Hid (nodeOk k.size v.size l.size r.size n=false):=by
   show nodeOk k.size v.size l.size r.size n=false;unfold nodeOk;rw[decide_eq_false (by omega),Bool.false_and]
  have c1:decide (1<=n)=true:=(by simp;omega);have c2:decide (n<=32)=true:=(by simp;omega);have c3:decide ((k.size:Int)<1)=false:=(by simp;omega);have c4:decide ((256:Int)<(k.size:Int))=true:=(by simp;omega);go_enter func89,ntmps89;go_wp2_with (first|(go_at_call 82;refine(qaJ _ _ _ (by assumption)).mono ?_;rintro e w' ⟨rfl,rfl⟩)|go_in);go_ret;exact⟨by rw[HR.out];rfl,hfin⟩
 by_cases h5:2000<v.size
 ·have HR:Hid (nodeOk k.size v.size l.size r.size n=false):=by
   show nodeOk k.size v.size l.size r.size n=false;unfold nodeOk;rw[decide_eq_false (by omega),Bool.false_and]
  have c1:decide (1<=n)=true:=(by simp;omega);have c2:decide (n<=32)=true:=(by simp;omega);have c3:decide ((k.size:Int)<1)=false:=(by simp;omega);have c4:decide ((256:Int)<(k.size:Int))=false:=(by simp;omega);have c5:decide ((2000:Int)<(v.size:Int))=true:=(by simp;omega);go_enter func89,ntmps89;go_wp2_with (first|(go_at_call 82;refine(qaJ _ _ _ (by assumption)).mono ?_;rintro e w' ⟨rfl,rfl⟩)|go_in);go_ret;exact⟨by rw[HR.out];rfl,hfin⟩
 by_cases h6:hashOk l.size n=false
 ·have HR:Hid (nodeOk k.size v.size l.size r.size n=false):=by
   show nodeOk k.size v.size l.size r.size n=false;unfold nodeOk;rw[decide_eq_true (by omega),Bool.true_and,h6,Bool.false_and]
  have c1:decide (1<=n)=true:=(by simp;omega);have c2:decide (n<=32)=true:=(by simp;omega);have c3:decide ((k.size:Int)<1)=false:=(by simp;omega);have c4:decide ((256:Int)<(k.size:Int))=false:=(by simp;omega);have c5:decide ((2000:Int)<(v.size:Int))=false:=(by simp;omega);go_enter func89,ntmps89;go_wp2_with (first|(go_at_call 82;refine(qaJ _ _ _ (by assumption)).mono ?_;rintro e w' ⟨rfl,rfl⟩)|go_in);go_ret;exact⟨by rw[HR.out];rfl,hfin⟩
 have h6':hashOk l.size n=true:=by simpa using h6
 clear h6;have HR:Hid (nodeOk k.size v.size l.size r.size n=hashOk r.size n):=by
  show nodeOk k.size v.size l.size r.size n=hashOk r.size n;unfold nodeOk;rw[decide_eq_true (by omega),Bool.true_and,h6',Bool.true_and]
 have c1:decide (1<=n)=true:=by simp;omega
 have c2:decide (n<=32)=true:=by simp;omega
 have c3:decide ((k.size:Int)<1)=false:=by simp;omega
 have c4:decide ((256:Int)<(k.size:Int))=false:=by simp;omega
 have c5:decide ((2000:Int)<(v.size:Int))=false:=by simp;omega
 go_enter func89,ntmps89;go_wp2_with (first|(go_at_call 82;refine(qaJ _ _ _ (by assumption)).mono ?_;rintro e w' ⟨rfl,rfl⟩)|go_in);go_ret;exact⟨by rw[HR.out];rfl,hfin⟩
theorem qds (s:ByteArray)(_hs:s.size<=2097152)(hs':s.size<=1048576)(w:World) : Calls prog 90 #[.string s] w λe w'=>∃t:ByteArray,e=.returned (.string t)/\t.size<=s.size+2/\Hid (t=T (sized s.data.toList))/\Below w.heap.size w w':=by
 have:=sized_any s.data.toList hs' w;rw[T_of] at this;exact this.mono λe w' ⟨he,hb⟩=>⟨_,he,Nat.le_refl _,rfl,hb⟩
def flagOf (l r:Nat):Nat:=(if l=0 then 0 else 1)+(if r=0 then 0 else 2)
def encL (k v l r:List UInt8):List UInt8:=sized k++sized v++[UInt8.ofNat (flagOf l.length r.length)]++l++r
theorem enc_no (k v l r:ByteArray)(n:Int)(w:World)(hk:k.size<=1048576)(hv:v.size<=1048576)(hl:l.size<=1048576)(hr:r.size<=1048576)(hok:nodeOk k.size v.size l.size r.size n=false) : Calls prog 40 #[.agg #[.string k,.string v,.string l,.string r],.int .i64 n] w λe w'=>e=.returned (.string ⟨#[]⟩)/\Below w.heap.size w w':=by
 have HC:Hid (∀w',Calls prog 89 #[.agg #[.string k,.string v,.string l,.string r],.int .i64 n] w' λe w''=>e=.returned (.bool false)/\Below w'.heap.size w' w''):=λw'=>by
  have:=nodeOk_any k v l r n w' hk hv hl hr;rw[hok] at this;exact this
 clear hok;go_enter func40,ntmps40;go_wp2_with fail;refine(HC.out _).mono ?_;rintro e w1 ⟨rfl,hb1⟩;go_wp2;go_ret;exact⟨rfl,((Below.refl _ _).alloc (Nat.le_refl _) _).trans (hb1.mono (by simp))⟩
theorem enc_yes (k v l r:ByteArray)(n:Int)(w:World)(hk:k.size<=1048576)(hv:v.size<=1048576)(hl:l.size<=1048576)(hr:r.size<=1048576)(hok:nodeOk k.size v.size l.size r.size n=true) : Calls prog 40 #[.agg #[.string k,.string v,.string l,.string r],.int .i64 n] w λe w'=>e=.returned (.string (T (encL k.data.toList v.data.toList l.data.toList r.data.toList)))/\Below w.heap.size w w':=by
 have HC:Hid (∀w',Calls prog 89 #[.agg #[.string k,.string v,.string l,.string r],.int .i64 n] w' λe w''=>e=.returned (.bool true)/\Below w'.heap.size w' w''):=λw'=>by
  have:=nodeOk_any k v l r n w' hk hv hl hr;rw[hok] at this;exact this
 clear hok;by_cases h1:l.size=0
 all_goals by_cases h2:r.size=0
 all_goals
  have HF:Hid (flagOf l.data.toList.length r.data.toList.length=flagOf l.size r.size):=rfl;have H12:Hid ((l.size=0 ↔ ¬ 0<l.size)/\(r.size=0 ↔ ¬ 0<r.size)):=⟨by omega,by omega⟩;go_enter func40,ntmps40;go_wp2_with fail;refine(HC.out _).mono ?_;rintro e w1 ⟨rfl,hb1⟩;have hs1:w.heap.size<w1.heap.size:=by have:=hb1.size;simp at this;omega
  have c0:w1.cell? ⟨w.heap.size,0,none⟩=some (.string k):=(hb1.cell (by simp)).trans (by simp);have c1:w1.cell? ⟨w.heap.size,1,none⟩=some (.string v):=(hb1.cell (by simp)).trans (by simp);have c2:w1.cell? ⟨w.heap.size,2,none⟩=some (.string l):=(hb1.cell (by simp)).trans (by simp);have c3:w1.cell? ⟨w.heap.size,3,none⟩=some (.string r):=(hb1.cell (by simp)).trans (by simp);have hbw:Below w.heap.size w w1:=((Below.refl _ _).alloc (Nat.le_refl _) _).trans (hb1.mono (by simp));clear hb1;go_wp2_with fail;go_region_held3 (λw'=>w.heap.size<w'.heap.size/\w'.cell? ⟨w.heap.size,0,none⟩=some (.string k)/\w'.cell? ⟨w.heap.size,1,none⟩=some (.string v)/\w'.cell? ⟨w.heap.size,2,none⟩=some (.string l)/\w'.cell? ⟨w.heap.size,3,none⟩=some (.string r))
   (first|exact⟨hs1,c0,c1,c2,c3⟩|(go_split_ands;refine⟨Nat.lt_of_lt_of_le (by assumption) hbC.size,?_,?_,?_,?_⟩ <;> (rw[hbC.cell (by assumption)];assumption))|(go_split_ands;refine⟨Nat.lt_of_lt_of_le (by assumption) hbB.size,?_,?_,?_,?_⟩ <;> (rw[hbB.cell (by assumption)];assumption))|(go_split_ands;refine⟨Nat.lt_of_lt_of_le (by assumption) hbA.size,?_,?_,?_,?_⟩ <;> (rw[hbA.cell (by assumption)];assumption)))
   (first|(go_at_call_of 90 (Value.string k);refine(qds k (by omega) hk _).mono ?_;rintro e wA ⟨tA,rfl,zA,HA,hbA⟩)|(go_at_call_of 90 (Value.string v);refine(qds v (by omega) hv _).mono ?_;rintro e wB ⟨tB,rfl,zB,HB,hbB⟩;have fB:¬ (9223372036854775807<tA.size+tB.size):=(by omega))|(go_at_call 91;refine(qdC _ (by omega) (by omega) _).mono ?_;rintro e wC ⟨tC,rfl,zC,HCC,hbC⟩;have fC:¬ (9223372036854775807<tA.size+tB.size+tC.size):=(by omega);have fD:¬ (9223372036854775807<tA.size+tB.size+tC.size+l.size):=(by omega);have fE:¬ (9223372036854775807<tA.size+tB.size+tC.size+l.size+r.size):=(by omega);have fF:¬ (9223372036854775807<tA.size+tB.size+tC.size+r.size):=(by omega)))
  go_wp2;go_ret;refine⟨congrArg (λz=>Ending.returned (.string z)) ?_,?_⟩
  ·show tA++tB++tC++l++r=_;rw[HA.out,HB.out,HCC.out,qch]
   conv=>lhs;rw[<-T_of l,<-T_of r]
   rw[T_append,T_append,T_append,T_append];unfold encL;rw[HF.out];unfold flagOf;simp[h1,h2]
  ·exact hbw.trans ((((Below.refl _ w1).drew.trans hbA).trans (hbB.mono hbA.size)).trans (hbC.mono (Nat.le_trans hbA.size hbB.size)) |>.mono (Nat.le_of_lt hs1))
theorem qde (l:ByteArray):l.toList.isEmpty=decide (l.size=0):=by
 rw[ByteArray.toList_eq];have:l.data.toList.length=l.size:=rfl;cases h:l.data.toList with
 | nil =>
  rw[h,List.length_nil] at this;simp[<-this]
 | cons a t =>
  rw[h,List.length_cons] at this;have h0:¬ l.size=0:=by omega
  simp[h0]
theorem flags_any (k v l r:ByteArray)(w:World) : Calls prog 248 #[.agg #[.string k,.string v,.string l,.string r]] w λe w'=>e=.returned (.int .i64 (flagOf l.size r.size:Int))/\Below w.heap.size w w':=by
 have hb:=bA w (.cells #[.string k,.string v,.string l,.string r] 73);by_cases h1:l.size=0
 all_goals by_cases h2:r.size=0
 all_goals
  have HF:Hid (∃f,flagOf l.size r.size=f/\f=(if l.size=0 then 0 else 1)+(if r.size=0 then 0 else 2)):=⟨_,rfl,rfl⟩;have e1:=qde l;have e2:=qde r;simp only[h1,h2,decide_true,decide_false] at e1 e2;clear h1 h2;go_enter func248,ntmps248;go_wp2;go_ret;obtain⟨f,hf,hf2⟩:=HF.out;refine⟨?_,hb⟩;rw[hf,hf2];rw[qde] at e1 e2;simp at e1 e2;simp[e1,e2]
theorem qbP (w:World):Calls prog 170 #[] w λe w'=>e=.returned (.agg #[.int .i64 2,.bool false])/\Below w.heap.size w w':=by
 go_enter func170,ntmps170;go_wp2;have c0:=ZC (heap_alloc_new w (.cells #[.int .i64 2,.bool false] 261)) 0;have c1:=ZC (heap_alloc_new w (.cells #[.int .i64 2,.bool false] 261)) 1;refine bodyPost_ret (v:=.agg #[.int .i64 2,.bool false]) ?_ rfl ⟨rfl,(Below.refl _ _).alloc (Nat.le_refl _) _⟩;simp[results,Tryz.results170,go_sem,asAddr,c0,c1]
theorem link_any (n f:Int)(w:World):Calls prog 245 #[.agg #[.int .i64 n],.int .i64 f] w λe w'=>e=.returned (.agg #[.int .i64 (if f=0 then 0 else n)])/\Below w.heap.size w w':=by
 have hb:∀x,Below w.heap.size w ((w.alloc (.cells #[.int .i64 n] 285)).alloc (.cells #[.int .i64 x] 214)):=λx=>((Below.refl _ _).alloc (Nat.le_refl _) _).alloc (by simp) _;have c0:∀x,((w.alloc (.cells #[.int .i64 n] 285)).alloc (.cells #[.int .i64 x] 214)).cell? ⟨w.heap.size+1,0,none⟩=some (.int .i64 x):=λx=>by
  have:=ZC (heap_alloc_new (w.alloc (.cells #[.int .i64 n] 285)) (.cells #[.int .i64 x] 214)) 0;rw[show (w.alloc (.cells #[.int .i64 n] 285)).heap.size=w.heap.size+1 by simp] at this;exact this
 by_cases h:f=0
 ·rw[if_pos h];subst h;go_enter func245,ntmps245;go_wp2;refine bodyPost_ret (v:=.agg #[.int .i64 0]) ?_ rfl ⟨rfl,hb _⟩;simp[results,Tryz.results245,go_sem,asAddr]
 ·rw[if_neg h];go_enter func245,ntmps245;go_wp2;refine bodyPost_ret (v:=.agg #[.int .i64 n]) ?_ rfl ⟨rfl,hb _⟩;simp[results,Tryz.results245,go_sem,asAddr]
theorem wsized2 (b:Nat)(s:ByteArray)(l:List UInt8)(w:World)(h:Bld b l w)(hl:l.length+s.size<=8000000) : Calls prog 224 #[.pointer (some ⟨b,0,none⟩),.iface 261 (.agg #[.int .i64 2,.bool false]),.string s] w λe w'=>e=.returned (.tuple #[])/\Put b (l++sized s.data.toList) w w':=by
 have:=wsized 2 false b s l w (by omega) (by omega) h hl;have e0:∀x:Nat,UInt8.ofNat (x % 256)=UInt8.ofNat x:=λx=>by apply UInt8.toNat.inj;simp
 have e:numTo 2 false s.size 2=[UInt8.ofNat (s.size / 256),UInt8.ofNat (s.size % 256)]:=by simp[numTo,numByte,e0]
 rw[e,List.append_assoc] at this;exact this
theorem link_ex (n f:Int)(w:World):Calls prog 245 #[.agg #[.int .i64 n],.int .i64 f] w λe w'=>∃p,e=.returned (.agg #[.int .i64 p])/\Below w.heap.size w w' :=
 (link_any n f w).mono (by rintro e w' ⟨rfl,hb⟩;exact⟨_,rfl,hb⟩)
theorem node_put_f (f:Nat)(F:Int)(hFf:F=(f:Int))(hf:F=0\/F=1\/F=2\/F=3)(b:Nat)(n:Int)(k v l r:ByteArray)(q:List UInt8)(w:World)(h:Bld b q w)(hq:q.length<=1000)(hk:k.size<=256)(hv:v.size<=2000)(hl:l.size<=32)(hr:r.size<=32)(HF:Hid (∀w',Calls prog 248 #[.agg #[.string k,.string v,.string l,.string r]] w' λe w''=>e=.returned (.int .i64 F)/\Below w'.heap.size w' w'')) : Calls prog 246 #[.agg #[.int .i64 n],.pointer (some ⟨b,0,none⟩),.agg #[.string k,.string v,.string l,.string r]] w λe w'=>e=.returned (.tuple #[])/\Put b (q++sized k.data.toList++sized v.data.toList++[UInt8.ofNat f]++l.data.toList++r.data.toList) w w':=by
 have hlt:=h.lt;obtain⟨m1,hm1⟩:∃m,q++sized k.data.toList=m:=⟨_,rfl⟩;have z1:m1.length<=2000:=by rw[<-hm1,List.length_append];show q.length+(k.size+1+1)<=_;omega
 obtain⟨m2,hm2⟩:∃m,m1++sized v.data.toList=m:=⟨_,rfl⟩;have z2:m2.length<=5000:=by rw[<-hm2,List.length_append];show m1.length+(v.size+1+1)<=_;omega
 obtain⟨m3,hm3⟩:∃m,m2++[UInt8.ofNat f]=m:=⟨_,rfl⟩;have z3:m3.length<=5001:=by rw[<-hm3,List.length_append];show m2.length+1<=_;omega
 obtain⟨m4,hm4⟩:∃m,m3++l.data.toList=m:=⟨_,rfl⟩;have z4:m4.length<=6000:=by rw[<-hm4,List.length_append];show m3.length+l.size<=_;omega
 have HA:Hid (∀w',Bld b q w'->Calls prog 224 #[.pointer (some ⟨b,0,none⟩),.iface 261 (.agg #[.int .i64 2,.bool false]),.string k] w' λe w''=>e=.returned (.tuple #[])/\Put b m1 w' w''):=λw' h'=>by rw[<-hm1];exact wsized2 b k q w' h' (by omega)
 have HB:Hid (∀w',Bld b m1 w'->Calls prog 224 #[.pointer (some ⟨b,0,none⟩),.iface 261 (.agg #[.int .i64 2,.bool false]),.string v] w' λe w''=>e=.returned (.tuple #[])/\Put b m2 w' w''):=λw' h'=>by rw[<-hm2];exact wsized2 b v m1 w' h' (by omega)
 have HC:Hid (∀w',Bld b m2 w'->Calls prog 223 #[.pointer (some ⟨b,0,none⟩),.iface 208 (.agg #[.int .i64 1,.bool false]),.int .i64 F] w' λe w''=>e=.returned (.tuple #[])/\Put b m3 w' w''):=λw' h'=>by rw[<-hm3,hFf];exact wint1 b f m2 w' h' (by omega) (by omega)
 have HD:Hid (∀p w',Bld b m3 w'->Calls prog 224 #[.pointer (some ⟨b,0,none⟩),.iface 214 (.agg #[.int .i64 p]),.string l] w' λe w''=>e=.returned (.tuple #[])/\Put b m4 w' w''):=λp w' h'=>by rw[<-hm4];exact wplain p b l m3 w' h' (by omega)
 have HE:Hid (∀p w',Bld b m4 w'->Calls prog 224 #[.pointer (some ⟨b,0,none⟩),.iface 214 (.agg #[.int .i64 p]),.string r] w' λe w''=>e=.returned (.tuple #[])/\Put b (m4++r.data.toList) w' w''):=λp w' h'=>wplain p b r m4 w' h' (by omega);rw[hm1,hm2,hm3,hm4];clear hm1 hm2 hm3 hm4;have HL:Hid (∀p w',Calls prog 245 #[.agg #[.int .i64 n],.int .i64 p] w' λe w''=>∃p,e=.returned (.agg #[.int .i64 p])/\Below w'.heap.size w' w''):=λp w'=>link_ex n p w';obtain⟨m5,hm5⟩:∃m,m4++r.data.toList=m:=⟨_,rfl⟩;rw[hm5] at HE⊢;clear hm5 hk hv hl hr hq z1 z2 z3 z4 hFf;rcases hf with rfl|rfl|rfl|rfl
 all_goals
  go_enter func246,ntmps246;go_wp2_with (first|(go_at_call 248;refine(HF.out _).mono ?_;rintro e w1 ⟨rfl,hb1⟩));have hp1:Put b q w w1:=(((Put.refl h).alloc (.cells #[.int .i64 n] 285)).alloc (.cells #[.string k,.string v,.string l,.string r] 73)).below hb1;have hf1:w1.heap[w.heap.size]?=some (.cells #[.int .i64 n] 285):=qab hb1 (qab ((Below.refl _ _).alloc (Nat.le_refl _) _) (heap_alloc_new w (.cells #[.int .i64 n] 285)));have hn1:w1.heap[w.heap.size+1]?=some (.cells #[.string k,.string v,.string l,.string r] 73):=qab hb1 (by
   rw[show w.heap.size+1=(w.alloc (.cells #[.int .i64 n] 285)).heap.size by simp];exact heap_alloc_new _ _)
  clear hb1;have c0:w1.cell? ⟨w.heap.size+1,0,none⟩=some (.string k):=ZC hn1 0;go_wp2_with fail;go_region_held3 (λW=>W.cell? ⟨w.heap.size+1,0,none⟩=some (.string k))
   (first|exact c0|exact ZC hnA 0|exact ZC hn2 0)
   (first|(go_at_call 170;refine(qbP _).mono ?_;rintro e wA ⟨rfl,hbA'⟩;have hbA:Below w1.heap.size w1 wA:=(Below.refl w1.heap.size w1).drew.trans hbA';have hnA:=qab hbA hn1)|(go_at_call 224;refine(HA.out _ (hp1.1.below hbA)).mono ?_;rintro e w2 ⟨rfl,hpA⟩;have hn2:=hpA.cells hnA (by omega) (by decide);have hf2:=hpA.cells (qab hbA hf1) (by omega) (by decide)))
  have hp2:=(hp1.below hbA).trans hpA;clear hpA hbA' hbA hnA hp1 hn1 hf1 c0;have c1:w2.cell? ⟨w.heap.size+1,1,none⟩=some (.string v):=ZC hn2 1;go_wp2_with fail;go_region_held3 (λW=>W.cell? ⟨w.heap.size+1,1,none⟩=some (.string v))
   (first|exact c1|exact ZC hnB 1|exact ZC hn3 1)
   (first|(go_at_call 170;refine(qbP _).mono ?_;rintro e wB ⟨rfl,hbB'⟩;have hbB:Below w2.heap.size w2 wB:=(Below.refl w2.heap.size w2).drew.trans hbB';have hnB:=qab hbB hn2)|(go_at_call 224;refine(HB.out _ (hp2.1.below hbB)).mono ?_;rintro e w3 ⟨rfl,hpB⟩;have hn3:=hpB.cells hnB (by omega) (by decide);have hf3:=hpB.cells (qab hbB hf2) (by omega) (by decide)))
  have hp3:=(hp2.below hbB).trans hpB;clear hpB hbB' hbB hnB hp2 hn2 hf2 c1;go_wp2_with (first|(go_at_call 223;refine(HC.out _ hp3.1).mono ?_;rintro e w4 ⟨rfl,hpC⟩));have hn4:=hpC.cells hn3 (by omega) (by decide);have hf4:=hpC.cells hf3 (by omega) (by decide);have hp4:=hp3.trans hpC;clear hpC hp3 hn3 hf3;have c2:w4.cell? ⟨w.heap.size+1,2,none⟩=some (.string l):=ZC hn4 2;have d2:w4.cell? ⟨w.heap.size,0,none⟩=some (.int .i64 n):=ZC hf4 0;go_region_held3 (λW=>W.cell? ⟨w.heap.size+1,2,none⟩=some (.string l)/\W.cell? ⟨w.heap.size,0,none⟩=some (.int .i64 n))
   (first|exact⟨c2,d2⟩|exact⟨ZC hnD 2,ZC hfD 0⟩|exact⟨ZC hn5 2,ZC hf5 0⟩)
   (first|(go_at_call 245;refine(HL.out _ _).mono ?_;rintro e wD ⟨p,rfl,hbD'⟩;have hbD:Below w4.heap.size w4 wD:=(Below.refl w4.heap.size w4).drew.trans hbD';have hnD:=qab hbD hn4;have hfD:=qab hbD hf4)|(go_at_call 224;refine(HD.out _ _ (hp4.1.below hbD)).mono ?_;rintro e w5 ⟨rfl,hpD⟩;have hn5:=hpD.cells hnD (by omega) (by decide);have hf5:=hpD.cells hfD (by omega) (by decide)))
  have hp5:=(hp4.below hbD).trans hpD;clear hpD hbD' hbD hnD hp4 hn4 hf4 c2 d2 hfD;have c3:w5.cell? ⟨w.heap.size+1,3,none⟩=some (.string r):=ZC hn5 3;have d3:w5.cell? ⟨w.heap.size,0,none⟩=some (.int .i64 n):=ZC hf5 0;go_wp2_with fail;go_region_held3 (λW=>W.cell? ⟨w.heap.size+1,3,none⟩=some (.string r)/\W.cell? ⟨w.heap.size,0,none⟩=some (.int .i64 n))
   (first|exact⟨c3,d3⟩|exact⟨ZC hnE 3,ZC hfE 0⟩|exact⟨ZC hn6 3,ZC hf6 0⟩)
   (first|(go_at_call 245;refine(HL.out _ _).mono ?_;rintro e wE ⟨p2,rfl,hbE'⟩;have hbE:Below w5.heap.size w5 wE:=(Below.refl w5.heap.size w5).drew.trans hbE';have hnE:=qab hbE hn5;have hfE:=qab hbE hf5)|(go_at_call 224;refine(HE.out _ _ (hp5.1.below hbE)).mono ?_;rintro e w6 ⟨rfl,hpE⟩;have hn6:=hpE.cells hnE (by omega) (by decide);have hf6:=hpE.cells hfE (by omega) (by decide)))
  go_wp2;go_end0;exact⟨rfl,(hp5.below hbE).trans hpE⟩
def szAt (s:ByteArray) (a:Nat):Nat:=(s.data.toList.getD a 0).toNat*256+(s.data.toList.getD (a+1) 0).toNat
theorem szAt_le (s:ByteArray)(a:Nat):szAt s a<=65535:=by
 unfold szAt;have h1:=(s.data.toList.getD a 0).toNat_lt;have h2:=(s.data.toList.getD (a+1) 0).toNat_lt;omega
theorem szAt_w (s:ByteArray)(a:Nat)(h1:a<s.size)(h2:a+1<s.size):wrap64 (wrap64 (wrap64 (s[a].toNat:Int)*256)+wrap64 (s[a+1].toNat:Int))=(szAt s a:Int):=by
 rw[bget s _ h1,bget s _ h2];unfold szAt;have h3:=(s.data.toList.getD a 0).toNat_lt;have h4:=(s.data.toList.getD (a+1) 0).toNat_lt;unfold wrap64;omega
def pieceOk (s:ByteArray) (a:Nat):Prop:=a+2<=s.size/\a+2+szAt s a<=s.size
theorem qcE (s:ByteArray)(a:Nat)(w:World)(_hs:s.size<=1048576)(ha:a<=2097152)(h1:s.size<a+2) : Calls prog 138 #[.string s,.int .i64 (a:Int)] w λe w'=>e=.returned (.tuple #[.string ⟨#[]⟩,.int .i64 0,.bool false])/\Below w.heap.size w w':=by
 have z0:¬ ((a:Int)<0):=by omega
 have z1:IntKind.i64.wrap ((a:Int)+2)=(a:Int)+2:=qaf _ (by omega) (by omega);have z2:decide ((s.size:Int)<(a:Int)+2)=true:=by simp;omega
 go_enter func138,ntmps138;go_wp2_with fail;go_ret3;exact⟨rfl,Below.refl _ _⟩
theorem qdk (s:ByteArray)(a:Nat)(w:World)(hs:s.size<=1048576)(h1:a+2<=s.size)(h2:s.size<a+2+szAt s a) : Calls prog 138 #[.string s,.int .i64 (a:Int)] w λe w'=>e=.returned (.tuple #[.string ⟨#[]⟩,.int .i64 0,.bool false])/\Below w.heap.size w w':=by
 have z0:¬ ((a:Int)<0):=by omega
 have z1:IntKind.i64.wrap ((a:Int)+2)=(a:Int)+2:=qaf _ (by omega) (by omega);have z2:decide ((s.size:Int)<(a:Int)+2)=false:=by simp;omega
 have z3:(0:Int)<=(a:Int):=by omega
 have z4:(a:Int)<(s.size:Int):=by omega
 have z5:IntKind.i64.wrap ((a:Int)+1)=(a:Int)+1:=qaf _ (by omega) (by omega);have z6:(0:Int)<=(a:Int)+1:=by omega
 have z7:(a:Int)+1<(s.size:Int):=by omega
 go_enter func138,ntmps138;go_wp2_with fail;go_region;rw[szAt_w s a (by omega) (by omega)];obtain⟨m,hm⟩:=eX (szAt s a);have hm':=szAt_le s a;rw[hm] at h2 hm'⊢;have y1:IntKind.i64.wrap ((a:Int)+2+(m:Int))=(a:Int)+2+(m:Int):=qaf _ (by omega) (by omega);have y2:decide ((s.size:Int)<(a:Int)+2+(m:Int))=true:=by simp;omega
 go_wp2_with fail;go_ret3;exact⟨rfl,(Below.refl _ _).drew⟩
theorem qdb (s:ByteArray)(a:Nat)(w:World)(hs:s.size<=1048576)(h2:a+2+szAt s a<=s.size) : Calls prog 138 #[.string s,.int .i64 (a:Int)] w λe w'=>∃t,e=.returned (.tuple #[.string t,.int .i64 ((a+2+szAt s a:Nat):Int),.bool true])/\Hid (t=s.extract (a+2) (a+2+szAt s a))/\Below w.heap.size w w':=by
 have z0:¬ ((a:Int)<0):=by omega
 have z1:IntKind.i64.wrap ((a:Int)+2)=(a:Int)+2:=qaf _ (by omega) (by omega);have z2:decide ((s.size:Int)<(a:Int)+2)=false:=by simp;omega
 have z3:(0:Int)<=(a:Int):=by omega
 have z4:(a:Int)<(s.size:Int):=by omega
 have z5:IntKind.i64.wrap ((a:Int)+1)=(a:Int)+1:=qaf _ (by omega) (by omega);have z6:(0:Int)<=(a:Int)+1:=by omega
 have z7:(a:Int)+1<(s.size:Int):=by omega
 go_enter func138,ntmps138;go_wp2_with fail;go_region;rw[szAt_w s a (by omega) (by omega)];obtain⟨m,hm⟩:=eX (szAt s a);rw[hm] at h2⊢;have HM:Hid (szAt s a=m):=hm;clear hm;have y1:IntKind.i64.wrap ((a:Int)+2+(m:Int))=(a:Int)+2+(m:Int):=qaf _ (by omega) (by omega);have y2:decide ((s.size:Int)<(a:Int)+2+(m:Int))=false:=by simp;omega
 have y3:(0:Int)<=(a:Int)+2:=by omega
 have y4:(a:Int)+2<=(a:Int)+2+(m:Int):=by omega
 have y5:(a:Int)+2+(m:Int)<=(s.size:Int):=by omega
 go_wp2_with fail;go_ret3;exact⟨s.extract (a+2) (a+2+m),by rw[HM.out];rfl,by show s.extract (a+2) (a+2+m)=_;rw[HM.out],(Below.refl _ _).drew⟩
end Go.Proofs.YtibjhkpgaaapaaaGreatDoor
