import Derived.Lib.Builder
import Derived.WalkKit
import Derived.Laws.BitsAllLaws
import Derived.OrdersHeld
import Derived.Deep.RegionHeld3
import Derived.Test.YtibjhkpgaaapaaaGreatDoorProg
import Derived.Deep.MidRow
import Derived.LaidEql
import Derived.Deep.Cut
set_option maxRecDepth 100000
set_option maxHeartbeats 1000000
namespace Go.Proofs.Sha
open Go Go.RowKit
theorem bA (w:World)(o:Obj):Below w.heap.size w (w.alloc o):=(Below.refl _ _).alloc (Nat.le_refl _) _
theorem fZ {W:World}{g:Nat}{cs:Array Value}{t:TypeId}(h:W.heap[g]?=some (.cells cs t)):∀j,W.frozen? ⟨g,j,none⟩=false:=λj=>by rw[World.frozen?,h];rfl
theorem eX {α:Sort _}(x:α):∃y,x=y:=⟨_,rfl⟩
theorem zG {α:Type _}{xs:Array α}{i:Nat}{a:α}(h:xs[i]?=some a):∃h:i<xs.size,xs[i]=a:=Array.getElem?_eq_some_iff.1 h
theorem zL {α:Type _}{l:List α}{i:Nat}{a:α}:l.getD i a=l[i]?.getD a:=List.getD_eq_getElem?_getD
theorem ZC {w:World}{b:Nat}{cs:Array Value}{T:TypeId}{fr:Nat × Nat}(hb:w.heap[b]?=some (.cells cs T fr))(j:Nat):w.cell? ⟨b,j,none⟩=cs[j]?:=Lib.cell_of_heap hb j
theorem u_add (x y:UInt32):((x.toNat:Int)+y.toNat) % 4294967296=((x+y).toNat:Int):=by
 have:=UInt32.toNat_add x y;omega
theorem qdG (x y:UInt32):bits .xor .u32 (x.toNat:Int) (y.toNat:Int)=((x ^^^ y).toNat:Int):=by
 rw[u32_xor_nat _ _ x.toNat_lt y.toNat_lt,UInt32.toNat_xor]
theorem u_and (x y:UInt32):bits .and .u32 (x.toNat:Int) (y.toNat:Int)=((x &&& y).toNat:Int):=by
 rw[u32_and_nat _ _ x.toNat_lt y.toNat_lt,UInt32.toNat_and]
theorem u_or (x y:UInt32):bits .or .u32 (x.toNat:Int) (y.toNat:Int)=((x ||| y).toNat:Int):=by
 rw[u32_or_nat _ _ x.toNat_lt y.toNat_lt,UInt32.toNat_or]
def turn (x:UInt32) (n:Nat):UInt32:=UInt32.ofNat (x.toNat / 2 ^ n) ||| UInt32.ofNat (x.toNat*2 ^ (32-n))
theorem qbX (x:UInt32)(n:Nat):(UInt32.ofNat (x.toNat / 2 ^ n)).toNat=x.toNat / 2 ^ n:=by
 rw[UInt32.toNat_ofNat'];have h1:=x.toNat_lt;have h2:x.toNat / 2 ^ n<=x.toNat:=Nat.div_le_self _ _;exact Nat.mod_eq_of_lt (by omega)
theorem turn_spec (x:UInt32)(n:Nat):bits .or .u32 ((x.toNat:Int) / 2 ^ n) ((x.toNat:Int)*2 ^ (32-n) % 4294967296)=((turn x n).toNat:Int):=by
 have e1:(x.toNat:Int) / 2 ^ n=((UInt32.ofNat (x.toNat / 2 ^ n)).toNat:Int):=by
  rw[qbX];simp
 have e2:(x.toNat:Int)*2 ^ (32-n) % 4294967296=((UInt32.ofNat (x.toNat*2 ^ (32-n))).toNat:Int):=by
  rw[UInt32.toNat_ofNat'];rw[Int.natCast_emod,Int.natCast_mul,Int.natCast_pow];rfl
 rw[e1,e2,u_or];rfl
theorem turn_impl (x:UInt32)(n:Nat):bits .or .u32 ((x.toNat:Int)*2 ^ (32-n) % 4294967296) ((x.toNat:Int) / 2 ^ n)=((turn x n).toNat:Int):=by
 have e1:(x.toNat:Int) / 2 ^ n=((UInt32.ofNat (x.toNat / 2 ^ n)).toNat:Int):=by
  rw[qbX];simp
 have e2:(x.toNat:Int)*2 ^ (32-n) % 4294967296=((UInt32.ofNat (x.toNat*2 ^ (32-n))).toNat:Int):=by
  rw[UInt32.toNat_ofNat'];rw[Int.natCast_emod,Int.natCast_mul,Int.natCast_pow];rfl
 rw[e1,e2,u_or];unfold turn;rw[UInt32.or_comm]
end Go.Proofs.Sha
namespace Go.Proofs.YtibjhkpgaaapaaaGreatDoor
open Go.RowKit Go.Proofs.Sha Tryz
theorem zq1 {α:Type _}(l:List α)(i:Nat)(a:α):l.toArray.setIfInBounds i a=(l.set i a).toArray:=List.setIfInBounds_toArray l i a
theorem zq2 {α:Type _}{x:α}{xs:List α}{a:α}:(x :: xs).set 0 a=a :: xs:=List.set_cons_zero
theorem zq3 {α:Type _}{x:α}{xs:List α}{i:Nat}{a:α}:(x :: xs).set (i+1) a=x :: xs.set i a:=List.set_cons_succ
theorem zq4 {α:Type _}{xs:List α}{i:Nat}(h:i<xs.toArray.size):xs.toArray[i]=xs[i]:=List.getElem_toArray h
theorem zq5 {α:Type _}(a:α)(bs:List α)(h:0<(a :: bs).length):(a :: bs)[0]=a:=List.getElem_cons_zero a bs h
theorem zq6 {α:Type _}(a:α)(bs:List α)(i:Nat)(h:i+1<(a :: bs).length):(a :: bs)[i+1]=bs[i]'(Nat.lt_of_succ_lt_succ h):=List.getElem_cons_succ a bs i h
theorem tkH {P:Program}{md:Region.Mode}{ops:Array Oper}{Q:Exit->Act->World->Prop}{S:World->Prop}{i:Nat}{oi:Oper}{v:Value}{fuel:Nat}{listed:Array Bool}{a:Act}{w:World}(hi:ops[i]?=some oi)(hy:YieldsIf P ops S oi v a)
 (h:wpAnyH P md ops Q S fuel (listed.setIfInBounds i true) (a.put oi.dst v) w)
 (hs:Region.noSelect ops=true:=by kernel_rfl) (hf:Region.free md ops listed i=true:=by kernel_rfl) (hr:(Region.ready md ops listed).contains i=true:=by kernel_rfl)
 (hQ:∀c a w,Q (.panic c) (a.put oi.dst v) w->Q (.panic c) a w:=by exact λ_ _ _ h=>h) (hS:S w:=by assumption):wpAnyH P md ops Q S (fuel+1) listed a w:=wpAnyH_take hi hs hf hr hQ hy hS h
theorem zq {α:Type _}:(∀ (l:List α) (i:Nat) (a:α),l.toArray.setIfInBounds i a=(l.set i a).toArray)/\(∀ (x:α) xs a,(x :: xs).set 0 a=a :: xs)/\(∀ (x:α) xs i a,(x :: xs).set (i+1) a=x :: xs.set i a)/\(∀ (xs:List α) i (h:i<xs.toArray.size),xs.toArray[i]=xs[i])/\(∀ (a:α) bs (h:0<(a :: bs).length),(a :: bs)[0]=a)/\(∀ (a:α) bs i (h:i+1<(a :: bs).length),(a :: bs)[i+1]=bs[i]'(Nat.lt_of_succ_lt_succ h)) :=
 ⟨zq1,λ_ _ _=>zq2,λ_ _ _ _=>zq3,λ_ _=>zq4,zq5,zq6⟩
theorem tkI {P:Program}{md:Region.Mode}{ops:Array Oper}{Q:Exit->Act->World->Prop}{S:World->Prop}(i:Nat){oi:Oper}{v:Value}{fuel:Nat}{listed:Array Bool}{a:Act}{w:World}
 (h:wpAnyH P md ops Q S fuel (listed.setIfInBounds i true) (a.put oi.dst v) w) (hi:ops[i]?=some oi:=by rfl) (hy:YieldsIf P ops S oi v a:=by refine Or.inl ⟨by rfl,?_⟩;intro w hSw;go_simp;rfl)
 (hs:Region.noSelect ops=true:=by kernel_rfl) (hf:Region.free md ops listed i=true:=by kernel_rfl) (hr:(Region.ready md ops listed).contains i=true:=by kernel_rfl)
 (hQ:∀c a w,Q (.panic c) (a.put oi.dst v) w->Q (.panic c) a w:=by exact λ_ _ _ h=>h) (hS:S w:=by assumption):wpAnyH P md ops Q S (fuel+1) listed a w:=tkH hi hy h hs hf hr hQ hS
theorem rdH {P:Program}{md:Region.Mode}{ops:Array Oper}{Q:Exit->Act->World->Prop}{S:World->Prop}(i:Nat){o:Oper}{fuel:Nat}{listed:Array Bool}{a:Act}{w:World}
 (h:∀K':Act->World->Prop,Shut (∀a w,S w->(S w->wpAnyH P md ops Q S fuel (listed.setIfInBounds i true) a w)->K' a w)->if Region.wanted o (yielded ops a.tmps)=true then Oper.wp P o a w K' Q else K' (a.put o.dst undef) w)
 (hr:Region.ready md ops listed=[i]:=by kernel_rfl) (ho:ops[i]?=some o:=by rfl):wpAnyH P md ops Q S (fuel+1) listed a w:=wpAnyH_ready hr (by simp) (AllReadyH.cons ho h AllReadyH.nil)
end Go.Proofs.YtibjhkpgaaapaaaGreatDoor
namespace Go.Proofs.Sha
open Go Go.RowKit
def U (x:UInt32):Value:=.int .u32 (x.toNat:Int)
def B (x:UInt8):Value:=.int .u8 (x.toNat:Int)
def ch (e f g:UInt32):UInt32:=(e &&& f) ^^^ (~~~e &&& g)
def maj (a b c:UInt32):UInt32:=(a &&& b) ^^^ (a &&& c) ^^^ (b &&& c)
def sumE (e:UInt32):UInt32:=turn e 6 ^^^ turn e 11 ^^^ turn e 25
def sumA (a:UInt32):UInt32:=turn a 2 ^^^ turn a 13 ^^^ turn a 22
def sumFar (x:UInt32):UInt32:=turn x 7 ^^^ turn x 18 ^^^ (x >>> 3)
def sumNear (x:UInt32):UInt32:=turn x 17 ^^^ turn x 19 ^^^ (x >>> 10)
def word (a b c d:UInt8):UInt32:=((UInt32.ofNat (a.toNat*16777216) ||| UInt32.ofNat (b.toNat*65536)) ||| UInt32.ofNat (c.toNat*256)) ||| UInt32.ofNat d.toNat
def sched (m:List UInt8):Nat->List UInt32
 | 0=>[]
 | i+1=>sched m i++[if i<16 then word (m.getD (4*i) 0) (m.getD (4*i+1) 0) (m.getD (4*i+2) 0) (m.getD (4*i+3) 0)
  else (sched m i).getD (i-16) 0+sumFar ((sched m i).getD (i-15) 0)+(sched m i).getD (i-7) 0+sumNear ((sched m i).getD (i-2) 0)]
theorem qaC (m:List UInt8)(i:Nat):(sched m i).length=i:=by
 induction i with
 | zero=>rfl
 | succ i ih=>simp[sched,ih]
theorem qaf (n:Int)(h0:-9223372036854775808<=n)(h1:n<=9223372036854775807):IntKind.i64.wrap n=n:=by
 simp[IntKind.wrap,IntKind.bits,IntKind.signed];omega
theorem qbw (n:Nat):IntKind.u32.wrap (n:Int)=((UInt32.ofNat n).toNat:Int):=by
 rw[IntKind.wrap_u32',UInt32.toNat_ofNat'];omega
theorem qcK (a b c d:UInt8) : bits BinOp.or IntKind.u32 (bits BinOp.or IntKind.u32 (bits BinOp.or IntKind.u32 (IntKind.u32.wrap (IntKind.u32.wrap (a.toNat:Int)*16777216)) (IntKind.u32.wrap (IntKind.u32.wrap (b.toNat:Int)*65536))) (IntKind.u32.wrap (IntKind.u32.wrap (c.toNat:Int)*256))) (IntKind.u32.wrap (d.toNat:Int))=((word a b c d).toNat:Int):=by
 have e:∀x:UInt8,IntKind.u32.wrap (x.toNat:Int)=(x.toNat:Int):=λx=>by
  have:=x.toNat_lt;rw[IntKind.wrap_u32'];omega
 have e1:((a.toNat:Int)*16777216)=((a.toNat*16777216:Nat):Int):=by omega
 have e2:((b.toNat:Int)*65536)=((b.toNat*65536:Nat):Int):=by omega
 have e3:((c.toNat:Int)*256)=((c.toNat*256:Nat):Int):=by omega
 have e4:IntKind.u32.wrap (d.toNat:Int)=((UInt32.ofNat d.toNat).toNat:Int):=qbw _;rw[e a,e b,e c,e1,e2,e3,qbw,qbw,qbw,e4,u_or,u_or,u_or];rfl
theorem qbG (m:List UInt8)(fr i:Nat):(m.drop fr).getD i 0=m.getD (fr+i) 0:=by
 simp[List.getD_eq_getElem?_getD,List.getElem?_drop]
theorem sched_lo (m:List UInt8)(fr k p:Nat)(b0 b1 b2 b3:UInt8)(hk:k<16)(hp:p=fr+4*k)(hb:m.getD p 0=b0/\m.getD (p+1) 0=b1/\m.getD (p+2) 0=b2/\m.getD (p+3) 0=b3) : (sched (m.drop fr) (k+1)).map U=(sched (m.drop fr) k).map U++[.int .u32 (bits BinOp.or IntKind.u32 (bits BinOp.or IntKind.u32 (bits BinOp.or IntKind.u32 (IntKind.u32.wrap (IntKind.u32.wrap (b0.toNat:Int)*16777216)) (IntKind.u32.wrap (IntKind.u32.wrap (b1.toNat:Int)*65536))) (IntKind.u32.wrap (IntKind.u32.wrap (b2.toNat:Int)*256))) (IntKind.u32.wrap (b3.toNat:Int)))]:=by
 obtain⟨h0,h1,h2,h3⟩:=hb;rw[qcK,sched,if_pos hk,List.map_append,qbG,qbG,qbG,qbG];subst hp;rw[<-Nat.add_assoc,<-Nat.add_assoc,<-Nat.add_assoc,h0,h1,h2,h3];rfl
theorem ret_int {k:IntKind}{a b:Int}(h:a=b):Ending.returned (.int k a)=.returned (.int k b):=by rw[h]
theorem own_u {w:World}{base e g n cap:Nat}{L:List UInt32}(h:w.ownsRow base e 1 (.slice (some ⟨g,0,none⟩) n cap) n (L.map U))(hL:L.length=n)(j:Nat)(hj:j<n) : w.cell? ⟨g,j,none⟩=some (.int .u32 ((L.getD j 0).toNat:Int)):=by
 rw[h.cellAt j (by omega),List.getElem?_map,zL,List.getElem?_eq_getElem (by omega)];rfl
theorem u_shr8 (x:UInt32):(x.toNat:Int) / (8:Int)=((x >>> 3).toNat:Int):=by
 rw[UInt32.toNat_shiftRight];show _=((x.toNat >>> 3:Nat):Int);rw[Nat.shiftRight_eq_div_pow];omega
theorem u_shr1024 (x:UInt32):(x.toNat:Int) / (1024:Int)=((x >>> 10).toNat:Int):=by
 rw[UInt32.toNat_shiftRight];show _=((x.toNat >>> 10:Nat):Int);rw[Nat.shiftRight_eq_div_pow];omega
theorem far_form (x:UInt32):bits BinOp.xor IntKind.u32 (bits BinOp.xor IntKind.u32 ((turn x 7).toNat:Int) ((turn x 18).toNat:Int)) ((x.toNat:Int) / (8:Int))=((sumFar x).toNat:Int):=by
 rw[u_shr8,qdG,qdG];rfl
theorem near_form (x:UInt32):bits BinOp.xor IntKind.u32 (bits BinOp.xor IntKind.u32 ((turn x 17).toNat:Int) ((turn x 19).toNat:Int)) ((x.toNat:Int) / (1024:Int))=((sumNear x).toNat:Int):=by
 rw[u_shr1024,qdG,qdG];rfl
theorem qaR (x y:UInt32):IntKind.u32.wrap ((x.toNat:Int)+y.toNat)=((x+y).toNat:Int):=by rw[IntKind.wrap_u32'];exact u_add x y
theorem sched_hi (m:List UInt8)(k:Nat)(x16 x15 x7 x2:UInt32)(hk:16<=k)(hb:(sched m k).getD (k-16) 0=x16/\(sched m k).getD (k-15) 0=x15/\(sched m k).getD (k-7) 0=x7/\(sched m k).getD (k-2) 0=x2) : (sched m (k+1)).map U=(sched m k).map U++[.int .u32 (IntKind.u32.wrap (IntKind.u32.wrap (IntKind.u32.wrap ((x16.toNat:Int)+(sumFar x15).toNat)+x7.toNat)+(sumNear x2).toNat))]:=by
 obtain⟨h0,h1,h2,h3⟩:=hb;rw[qaR,qaR,qaR,sched,if_neg (by omega),List.map_append,h0,h1,h2,h3];rfl
def lenOf:Value->Nat|.slice _ n _=>n|_=>0
def zpad (n:Nat):Nat:=(119-n % 64) % 64
def lenByte (N i:Nat):UInt8:=UInt8.ofNat (N / 2 ^ (8*i))
def beTo (N k:Nat):List UInt8:=(List.range k).map λq=>lenByte N (7-q)
def pad (l:List UInt8):List UInt8:=l++[128]++List.replicate (zpad l.length) 0++beTo (8*l.length) 8
theorem zpad_ne (n j:Nat)(h:j<zpad n):(n+1+j) % 64 ≠ 56:=by unfold zpad at h;omega
theorem zpad_eq (n:Nat):(n+1+zpad n) % 64=56:=by unfold zpad;omega
theorem zpad_lt (n:Nat):zpad n<64:=by unfold zpad;omega
theorem beTo_succ (N k:Nat):beTo N (k+1)=beTo N k++[lenByte N (7-k)]:=by simp[beTo,List.range_succ]
theorem beTo_length (N k:Nat):(beTo N k).length=k:=by simp[beTo]
theorem qcj (l:List UInt8):(pad l).length=l.length+9+zpad l.length:=by simp[pad,beTo_length];omega
theorem qcc (n i:Nat):((n:Int)*8 / 2 ^ (8*i) % 256)=((lenByte (8*n) i).toNat:Int):=by
 unfold lenByte;rw[UInt8.toNat_ofNat',Nat.mul_comm 8 n];have e:((n*8 / 2 ^ (8*i) % 2 ^ 8:Nat):Int)=((n:Int)*8 / 2 ^ (8*i) % 256):=by
  rw[Int.natCast_emod,Int.natCast_ediv,Int.natCast_mul,Int.natCast_pow];rfl
 exact e.symm
def kTab:List UInt32:=[1116352408,1899447441,3049323471,3921009573,961987163,1508970993,2453635748,2870763221,3624381080,310598401,607225278,1426881987,1925078388,2162078206,2614888103,3248222580,3835390401,4022224774,264347078,604807628,770255983,1249150122,1555081692,1996064986,2554220882,2821834349,2952996808,3210313671,3336571891,3584528711,113926993,338241895,666307205,773529912,1294757372,1396182291,1695183700,1986661051,2177026350,2456956037,2730485921,2820302411,3259730800,3345764771,3516065817,3600352804,4094571909,275423344,430227734,506948616,659060556,883997877,958139571,1322822218,1537002063,1747873779,1955562222,2024104815,2227730452,2361852424,2428436474,2756734187,3204031479,3329325298]
def hTab:List UInt32:=[1779033703,3144134277,1013904242,2773480762,1359893119,2600822924,528734635,1541459225]
structure St where
 a:UInt32
 b:UInt32
 c:UInt32
 d:UInt32
 e:UInt32
 f:UInt32
 g:UInt32
 z:UInt32
def first (k w:UInt32) (s:St):UInt32:=s.z+sumE s.e+ch s.e s.f s.g+k+w
def rnd (k w:UInt32) (s:St):St :=
 ⟨first k w s+(sumA s.a+maj s.a s.b s.c),s.a,s.b,s.c,s.d+first k w s,s.e,s.f,s.g⟩
def rnds (W:List UInt32) (s:St):Nat->St
 | 0=>s
 | i+1=>rnd (kTab.getD i 0) (W.getD i 0) (rnds W s i)
def ofL (h:List UInt32):St:=⟨h.getD 0 0,h.getD 1 0,h.getD 2 0,h.getD 3 0,h.getD 4 0,h.getD 5 0,h.getD 6 0,h.getD 7 0⟩
def comp (h:List UInt32) (m:List UInt8):List UInt32 :=
 [h.getD 0 0+(rnds (sched m 64) (ofL h) 64).a,h.getD 1 0+(rnds (sched m 64) (ofL h) 64).b,h.getD 2 0+(rnds (sched m 64) (ofL h) 64).c,h.getD 3 0+(rnds (sched m 64) (ofL h) 64).d,
  h.getD 4 0+(rnds (sched m 64) (ofL h) 64).e,h.getD 5 0+(rnds (sched m 64) (ofL h) 64).f,h.getD 6 0+(rnds (sched m 64) (ofL h) 64).g,h.getD 7 0+(rnds (sched m 64) (ofL h) 64).z]
theorem u_not (x:UInt32):bits BinOp.xor IntKind.u32 (if IntKind.u32.signed=true then -1 else IntKind.u32.max) (x.toNat:Int)=((~~~x).toNat:Int):=by
 have e:(if IntKind.u32.signed=true then -1 else IntKind.u32.max:Int)=(((4294967295:UInt32).toNat:Nat):Int):=by decide
 rw[e,qdG];have h:(4294967295:UInt32) ^^^ x = ~~~x:=by
  apply UInt32.toBitVec_inj.1;rw[UInt32.toBitVec_xor,UInt32.toBitVec_not];exact BitVec.allOnes_xor
 rw[h]
theorem sumE_form (x:UInt32):bits BinOp.xor IntKind.u32 (bits BinOp.xor IntKind.u32 ((turn x 6).toNat:Int) ((turn x 11).toNat:Int)) ((turn x 25).toNat:Int)=((sumE x).toNat:Int):=by
 rw[qdG,qdG];rfl
theorem sumA_form (x:UInt32):bits BinOp.xor IntKind.u32 (bits BinOp.xor IntKind.u32 ((turn x 2).toNat:Int) ((turn x 13).toNat:Int)) ((turn x 22).toNat:Int)=((sumA x).toNat:Int):=by
 rw[qdG,qdG];rfl
theorem ch_form (e f g:UInt32):bits BinOp.xor IntKind.u32 (bits BinOp.and IntKind.u32 (e.toNat:Int) (f.toNat:Int)) (bits BinOp.and IntKind.u32 (bits BinOp.xor IntKind.u32 (if IntKind.u32.signed=true then -1 else IntKind.u32.max) (e.toNat:Int)) (g.toNat:Int))=((ch e f g).toNat:Int):=by
 rw[u_not,u_and,u_and,qdG];rfl
theorem maj_form (a b c:UInt32):bits BinOp.xor IntKind.u32 (bits BinOp.xor IntKind.u32 (bits BinOp.and IntKind.u32 (a.toNat:Int) (b.toNat:Int)) (bits BinOp.and IntKind.u32 (a.toNat:Int) (c.toNat:Int))) (bits BinOp.and IntKind.u32 (b.toNat:Int) (c.toNat:Int))=((maj a b c).toNat:Int):=by
 rw[u_and,u_and,u_and,qdG,qdG];rfl
theorem rnds_succ (W:List UInt32)(s:St)(k:Nat)(kk ww:UInt32)(r:St)(h:rnds W s k=r)(hk:kTab.getD k 0=kk/\W.getD k 0=ww):rnds W s (k+1)=rnd kk ww r:=by
 rw[rnds,h,hk.1,hk.2]
theorem comp_form (h:List UInt32)(m:List UInt8)(W:List UInt32)(x0 x1 x2 x3 x4 x5 x6 x7 va vb vc vd ve vf vg vz:UInt32)(he:h.getD 0 0=x0/\h.getD 1 0=x1/\h.getD 2 0=x2/\h.getD 3 0=x3/\h.getD 4 0=x4/\h.getD 5 0=x5/\h.getD 6 0=x6/\h.getD 7 0=x7)(hw:sched m 64=W)(hr:rnds W ⟨x0,x1,x2,x3,x4,x5,x6,x7⟩ 64=⟨va,vb,vc,vd,ve,vf,vg,vz⟩) : (comp h m).map U=[.int .u32 (IntKind.u32.wrap ((x0.toNat:Int)+va.toNat)),.int .u32 (IntKind.u32.wrap ((x1.toNat:Int)+vb.toNat)),.int .u32 (IntKind.u32.wrap ((x2.toNat:Int)+vc.toNat)),.int .u32 (IntKind.u32.wrap ((x3.toNat:Int)+vd.toNat)),.int .u32 (IntKind.u32.wrap ((x4.toNat:Int)+ve.toNat)),.int .u32 (IntKind.u32.wrap ((x5.toNat:Int)+vf.toNat)),.int .u32 (IntKind.u32.wrap ((x6.toNat:Int)+vg.toNat)),.int .u32 (IntKind.u32.wrap ((x7.toNat:Int)+vz.toNat))]:=by
 obtain⟨e0,e1,e2,e3,e4,e5,e6,e7⟩:=he;unfold comp ofL;rw[hw,e0,e1,e2,e3,e4,e5,e6,e7,hr];simp only[qaR];rfl
theorem comp_length (h:List UInt32)(m:List UInt8):(comp h m).length=8:=rfl
end Go.Proofs.Sha
namespace Go.Proofs.Sha
inductive Tr (α:Type) where
 | nil:Tr α
 | node (l:Tr α) (x:α) (r:Tr α):Tr α
section
variable {α:Type} (ab:α->α->Bool)
def Tr.inord:Tr α->List α
 | .nil=>[]
 | .node l x r=>l.inord++x :: r.inord
def Tr.size:Tr α->Nat
 | .nil=>0
 | .node l _ r=>l.size+r.size+1
def Tr.heap:Tr α->Prop
 | .nil=>True
 | .node l x r=>(∀y ∈ l.inord,ab x y=true)/\(∀y ∈ r.inord,ab x y=true)/\l.heap/\r.heap
def Tr.merge:Tr α->Tr α->Tr α
 | .nil,b=>b
 | .node l x r,.nil=>.node l x r
 | .node l x r,.node l2 y r2=>if ab x y then .node l x (Tr.merge r (.node l2 y r2)) else .node (Tr.merge (.node l x r) l2) y r2
termination_by a b=>a.size+b.size
decreasing_by
 all_goals simp only[Tr.size];omega
theorem Tr.merge_inord (a b:Tr α):(Tr.merge ab a b).inord=a.inord++b.inord:=by
 fun_induction Tr.merge ab a b with
 | case1 b=>rfl
 | case2 l x r=>simp[Tr.inord]
 | case3 l x r l2 y r2 h ih=>simp only[Tr.inord] at ih⊢;rw[ih];simp
 | case4 l x r l2 y r2 h ih=>simp only[Tr.inord] at ih⊢;rw[ih];simp
structure Ranked (l:List α):Prop where
 tot:∀x ∈ l,∀y ∈ l,x ≠ y->ab x y=true\/ab y x=true
 asy:∀x ∈ l,∀y ∈ l,ab x y=true->ab y x=false
 tra:∀x ∈ l,∀y ∈ l,∀z ∈ l,ab x y=true->ab y z=true->ab x z=true
theorem Ranked.sub {l m:List α}(h:Ranked ab l)(hs:∀x ∈ m,x ∈ l):Ranked ab m :=
 ⟨λx hx y hy=>h.tot x (hs x hx) y (hs y hy),λx hx y hy=>h.asy x (hs x hx) y (hs y hy),λx hx y hy z hz=>h.tra x (hs x hx) y (hs y hy) z (hs z hz)⟩
theorem Tr.merge_heap (a b:Tr α)(ha:a.heap ab)(hb:b.heap ab)(hr:Ranked ab (a.inord++b.inord))(hd:∀x ∈ a.inord,∀y ∈ b.inord,x ≠ y):(Tr.merge ab a b).heap ab:=by
 fun_induction Tr.merge ab a b with
 | case1 b=>exact hb
 | case2 l x r=>exact ha
 | case3 l x r l2 y r2 h ih =>
  obtain⟨p1,p2,p3,p4⟩:=ha;have hxm:x ∈ (Tr.node l x r).inord++(Tr.node l2 y r2).inord:=by simp[Tr.inord]
  have hym:y ∈ (Tr.node l x r).inord++(Tr.node l2 y r2).inord:=by simp[Tr.inord]
  refine⟨p1,λz hz=>?_,p3,ih p4 hb (hr.sub ab (λz hz=>?_)) (λu hu v hv=>hd u (by simp[Tr.inord,hu]) v hv)⟩
  ·rw[Tr.merge_inord,List.mem_append] at hz;rcases hz with hz|hz
   ·exact p2 z hz
   ·obtain⟨q1,q2,_,_⟩:=hb;have hzm:z ∈ (Tr.node l x r).inord++(Tr.node l2 y r2).inord:=List.mem_append_right _ hz;simp only[Tr.inord,List.mem_append,List.mem_cons] at hz;rcases hz with hz|rfl|hz
    ·exact hr.tra x hxm y hym z hzm h (q1 z hz)
    ·exact h
    ·exact hr.tra x hxm y hym z hzm h (q2 z hz)
  ·rw[List.mem_append] at hz⊢;rcases hz with hz|hz
   ·left;simp[Tr.inord,hz]
   ·exact .inr hz
 | case4 l x r l2 y r2 h ih =>
  obtain⟨p1,p2,p3,p4⟩:=hb;have hxm:x ∈ (Tr.node l x r).inord++(Tr.node l2 y r2).inord:=by simp[Tr.inord]
  have hym:y ∈ (Tr.node l x r).inord++(Tr.node l2 y r2).inord:=by simp[Tr.inord]
  have hyx:ab y x=true:=by
   rcases hr.tot x hxm y hym (hd x (by simp[Tr.inord]) y (by simp[Tr.inord])) with q|q
   ·exact absurd q h
   ·exact q
  refine⟨λz hz=>?_,p2,ih ha p3 (hr.sub ab (λz hz=>?_)) (λu hu v hv=>hd u hu v (by simp[Tr.inord,hv])),p4⟩
  ·rw[Tr.merge_inord,List.mem_append] at hz;rcases hz with hz|hz
   ·obtain⟨q1,q2,_,_⟩:=ha;have hzm:z ∈ (Tr.node l x r).inord++(Tr.node l2 y r2).inord:=List.mem_append_left _ hz;simp only[Tr.inord,List.mem_append,List.mem_cons] at hz;rcases hz with hz|rfl|hz
    ·exact hr.tra y hym x hxm z hzm hyx (q1 z hz)
    ·exact hyx
    ·exact hr.tra y hym x hxm z hzm hyx (q2 z hz)
   ·exact p1 z hz
  ·rw[List.mem_append] at hz⊢;rcases hz with hz|hz
   ·exact .inl hz
   ·right;simp[Tr.inord,hz]
theorem split_one {x:α}:∀ {l r l2 r2:List α},(l++x :: r).Nodup->l++x :: r=l2++x :: r2->l=l2/\r=r2
 | [],_,[],_,_,h=>by simp at h;exact⟨rfl,h⟩
 | [],r,y :: l2,r2,hn,h=>by
  simp at h
  obtain⟨rfl,h2⟩:=h
  rw[h2] at hn
  simp at hn
 | y :: l,r,[],r2,hn,h=>by
  simp at h
  obtain⟨rfl,_⟩:=h
  simp at hn
 | y :: l,r,z :: l2,r2,hn,h=>by
  simp only[List.cons_append,List.cons.injEq] at h
  obtain⟨rfl,h2⟩:=h
  have hn2:(l++x :: r).Nodup:=by
   rw[List.cons_append,List.nodup_cons] at hn
   exact hn.2
  obtain⟨q1,q2⟩:=split_one hn2 h2
  exact⟨by rw[q1],q2⟩
theorem Tr.unique (a b:Tr α)(ha:a.heap ab)(hb:b.heap ab)(h:a.inord=b.inord)(hn:a.inord.Nodup)(hr:Ranked ab a.inord):a=b:=by
 induction a generalizing b with
 | nil =>
  cases b with
  | nil=>rfl
  | node l x r=>simp[Tr.inord] at h
 | node l x r ihl ihr =>
  cases b with
  | nil=>simp[Tr.inord] at h
  | node l2 y r2 =>
   obtain⟨p1,p2,p3,p4⟩:=ha;obtain⟨q1,q2,q3,q4⟩:=hb;simp only[Tr.inord] at h hn hr;have hxm:x ∈ l.inord++x :: r.inord:=(by simp);have hym:y ∈ l.inord++x :: r.inord:=(by rw[h];simp);have hxy:x=y:=by
    apply Classical.byContradiction;intro hne;have h1:ab x y=true:=by
     have:=hym;simp only[List.mem_append,List.mem_cons] at this;rcases this with m|m|m
     ·exact p1 y m
     ·exact absurd m.symm hne
     ·exact p2 y m
    have h2:ab y x=true:=by
     have:=hxm;rw[h] at this;simp only[List.mem_append,List.mem_cons] at this;rcases this with m|m|m
     ·exact q1 x m
     ·exact absurd m hne
     ·exact q2 x m
    have:=hr.asy x hxm y hym h1;rw[h2] at this;cases this
   subst hxy;obtain⟨e1,e2⟩:=split_one hn h;have hnl:l.inord.Nodup:=(List.nodup_append.1 hn).1;have hnr:r.inord.Nodup:=(List.nodup_cons.1 (List.nodup_append.1 hn).2.1).2;rw[ihl l2 p3 q3 e1 hnl (hr.sub ab (λz hz=>by simp[hz])),ihr r2 p4 q4 e2 hnr (hr.sub ab (λz hz=>by simp[hz]))]
end
end Go.Proofs.Sha
namespace Go.Proofs.YtibjhkpgaaapaaaGreatDoor
open Go.RowKit Go.Proofs.Sha Tryz
def rankL (X:List UInt8) (k:ByteArray):List Value:=X.map B++[Value.string k]
def treeL (X:List UInt8) (k v:ByteArray) (l r:Option Addr) (enc h:ByteArray):List Value:=[.string k,.string v]++rankL X k++[.pointer l,.pointer r,.string enc,.string h]
theorem built4_e (x0 x1 x2 x3 x4 x5 x6 x7 x8 x9 x10 x11 x12 x13 x14 x15 x16 x17 x18 x19 x20 x21 x22 x23 x24 x25 x26 x27 x28 x29 x30 x31:UInt8)(k v:ByteArray)(l r:Option Addr):prog.built 251 [(0,.agg #[.string k,.string v]),(1,.agg ([x0,x1,x2,x3,x4,x5,x6,x7,x8,x9,x10,x11,x12,x13,x14,x15,x16,x17,x18,x19,x20,x21,x22,x23,x24,x25,x26,x27,x28,x29,x30,x31].map B++[Value.string k]).toArray),(2,.pointer l),(3,.pointer r)]=some (treeL [x0,x1,x2,x3,x4,x5,x6,x7,x8,x9,x10,x11,x12,x13,x14,x15,x16,x17,x18,x19,x20,x21,x22,x23,x24,x25,x26,x27,x28,x29,x30,x31] k v l r ⟨#[]⟩ ⟨#[]⟩).toArray:=by kernel_rfl
theorem list32 (X:List UInt8)(h:X.length=32):∃x0 x1 x2 x3 x4 x5 x6 x7 x8 x9 x10 x11 x12 x13 x14 x15 x16 x17 x18 x19 x20 x21 x22 x23 x24 x25 x26 x27 x28 x29 x30 x31:UInt8,X=[x0,x1,x2,x3,x4,x5,x6,x7,x8,x9,x10,x11,x12,x13,x14,x15,x16,x17,x18,x19,x20,x21,x22,x23,x24,x25,x26,x27,x28,x29,x30,x31]:=by
 match X,h with
 | [x0,x1,x2,x3,x4,x5,x6,x7,x8,x9,x10,x11,x12,x13,x14,x15,x16,x17,x18,x19,x20,x21,x22,x23,x24,x25,x26,x27,x28,x29,x30,x31],_=>exact⟨_,_,_,_,_,_,_,_,_,_,_,_,_,_,_,_,_,_,_,_,_,_,_,_,_,_,_,_,_,_,_,_,rfl⟩
theorem built4 (X:List UInt8)(h:X.length=32)(k v:ByteArray)(l r:Option Addr):prog.built 251 [(0,.agg #[.string k,.string v]),(1,.agg (rankL X k).toArray),(2,.pointer l),(3,.pointer r)]=some (treeL X k v l r ⟨#[]⟩ ⟨#[]⟩).toArray:=by
 obtain⟨x0,x1,x2,x3,x4,x5,x6,x7,x8,x9,x10,x11,x12,x13,x14,x15,x16,x17,x18,x19,x20,x21,x22,x23,x24,x25,x26,x27,x28,x29,x30,x31,rfl⟩:=list32 X h;exact built4_e x0 x1 x2 x3 x4 x5 x6 x7 x8 x9 x10 x11 x12 x13 x14 x15 x16 x17 x18 x19 x20 x21 x22 x23 x24 x25 x26 x27 x28 x29 x30 x31 k v l r
end Go.Proofs.YtibjhkpgaaapaaaGreatDoor
namespace Go.Proofs.Sha
open Go Go.RowKit
theorem run_equalIn_ptr {P:Program}(d:Nat)(t te:TypeId)(j:TypeInfo)(hu:P.underlying t=some (.pointer te))(hj:P.info? te=some j)(hz:j.size ≠ 0)(a b:Option Addr)(w:World)(ha:a=none\/∃ (x:Nat) (cs:Array Value) (u:TypeId),a=some ⟨x,0,none⟩/\w.heap[x]?=some (.cells cs u (0,0)))(hb:b=none\/∃ (x:Nat) (cs:Array Value) (u:TypeId),b=some ⟨x,0,none⟩/\w.heap[x]?=some (.cells cs u (0,0))) : (Op.equalIn (d+1) t (.pointer a) (.pointer b)).run P w=.ok (decide (a=b)) w:=by
 rcases ha with rfl|⟨x,cs,u,rfl,hx⟩ <;> rcases hb with rfl|⟨y,ds,v,rfl,hy⟩
 ·simp[Op.equalIn,run_underlying hu]
 ·simp[Op.equalIn,run_underlying hu]
 ·simp[Op.equalIn,run_underlying hu]
 ·by_cases e:x=y
  ·subst e;simp[Op.equalIn,run_underlying hu,sizeOf,typeInfo,hj,run_sameAddr_same]
  ·have hne:(⟨x,0,none⟩:Addr) ≠ ⟨y,0,none⟩:=λq=>e (congrArg Addr.block q);simp[Op.equalIn,run_underlying hu,sizeOf,typeInfo,hj,hz,run_sameAddr_other w hne hx hy]
theorem qbT {P:Program}(t te:TypeId)(j:TypeInfo)(hu:P.underlying t=some (.pointer te))(hj:P.info? te=some j)(hz:j.size ≠ 0)(a b:Option Addr)(w:World)(ha:a=none\/∃ (x:Nat) (cs:Array Value) (u:TypeId),a=some ⟨x,0,none⟩/\w.heap[x]?=some (.cells cs u (0,0)))(hb:b=none\/∃ (x:Nat) (cs:Array Value) (u:TypeId),b=some ⟨x,0,none⟩/\w.heap[x]?=some (.cells cs u (0,0))) : (binOp .eql t (.pointer a) (.pointer b)).run P w=.ok (.bool (decide (a=b))) w:=by
 have key:(Op.equal t (.pointer a) (.pointer b)).run P w=.ok (decide (a=b)) w:=run_equalIn_ptr 9999 t te j hu hj hz a b w ha hb;simp only[binOp];simp[key]
end Go.Proofs.Sha
namespace Go.Proofs.YtibjhkpgaaapaaaGreatDoor
open Go.RowKit Go.Proofs.Sha Tryz
def PtrT (p:Option Addr) (w:World):Prop:=p=none\/∃ (x:Nat) (cs:Array Value) (u:TypeId),p=some ⟨x,0,none⟩/\w.heap[x]?=some (.cells cs u (0,0))
theorem size52:(prog.info? 249).map (·.size)=some 33:=by kernel_rfl
theorem size37:(prog.info? 81).map (·.size)=some 2:=by kernel_rfl
theorem size54:(prog.info? 251).map (·.size)=some 39:=by kernel_rfl
theorem info54:∃j,prog.info? 251=some j/\j.size ≠ 0:=by
 obtain⟨j,h1,h2⟩:=Option.map_eq_some_iff.1 size54;exact⟨j,h1,by rw[h2];decide⟩
theorem qcC {P:Program}{ops:Array Oper}{S:World->Prop}{o:Oper}{a:Act}(hw:Region.wanted o (yielded ops a.tmps)=true)(t:TypeId)(parts:Array (Nat × Operand))(ho:o.op=.build t parts)(cells:Array Value)(hb:P.built t (parts.toList.map λ(i,x)=>(i,a.eval x))=some cells):YieldsIf P ops S o (.agg cells) a:=by
 refine .inl ⟨hw,λw _=>?_⟩;rw[<-Array.toList_map] at hb;unfold execOp;simp only[ho,Sem.run_bind,run_build w t _ cells hb,Result.andThen_ok,Sem.run_pure]
theorem wp_box_row {P:Program}{o:Oper}{a:Act}{w:World}{K:Act->World->Prop}{Q:Exit->Act->World->Prop}(ty:TypeId)(x:Operand)(ho:o.op=.box ty x)(cs:Array Value)(hx:a.eval x=.agg cs)(h:K (a.put o.dst (.pointer (some ⟨w.heap.size,0,none⟩))) (w.alloc (.cells cs ty))):o.wp P a w K Q:=by
 unfold Oper.wp execOp;simp only[ho,hx];exact h
theorem qcX (X:List UInt8)(h:X.length=32)(k:ByteArray):(prog.info? 249).map (·.size)=some (rankL X k).length:=by
 have e:(rankL X k).length=33:=by unfold rankL;rw[List.length_append,List.length_map,h];rfl
 rw[e];exact size52
theorem qdi (a b:Option Addr)(w:World)(ha:PtrT a w)(hb:PtrT b w):(binOp .eql 115 (.pointer a) (.pointer b)).run prog w=.ok (.bool (decide (a=b))) w:=by
 obtain⟨j,h1,h2⟩:=info54;exact qbT 115 251 j Tryz.underlying115 h1 h2 a b w ha hb
theorem qbt (X:List UInt8)(hX:X.length=32)(k v:ByteArray)(pl pr:Option Addr)(enc h:ByteArray) : (treeL X k v pl pr enc h)[35]?=some (.pointer pl)/\(treeL X k v pl pr enc h)[36]?=some (.pointer pr)/\(treeL X k v pl pr enc h)[37]?=some (.string enc)/\(treeL X k v pl pr enc h)[38]?=some (.string h)/\(treeL X k v pl pr enc h)[0]?=some (.string k)/\(treeL X k v pl pr enc h)[1]?=some (.string v):=by
 have hl:(X.map B).length=32:=by rw[List.length_map,hX]
 have e:treeL X k v pl pr enc h=([.string k,.string v]++(X.map B++[Value.string k]))++[.pointer pl,.pointer pr,.string enc,.string h]:=by unfold treeL rankL;simp
 have hl2:([Value.string k,.string v]++(X.map B++[Value.string k])).length=35:=by simp[hX]
 refine⟨?_,?_,?_,?_,rfl,rfl⟩ <;> (rw[e,List.getElem?_append_right (by omega),hl2];rfl)
theorem tree_rank (X:List UInt8)(_hX:X.length=32)(k v:ByteArray)(pl pr:Option Addr)(enc h:ByteArray)(j:Nat)(u:Value)(hj:(rankL X k)[j]?=some u):(treeL X k v pl pr enc h)[2+j]?=some u:=by
 have hlt:j<(rankL X k).length:=(List.getElem?_eq_some_iff.1 hj).1;have e:treeL X k v pl pr enc h=[.string k,.string v]++(rankL X k++[.pointer pl,.pointer pr,.string enc,.string h]):=by unfold treeL;simp
 rw[e,List.getElem?_append_right (by simp),List.getElem?_append_left (by simpa using hlt)]
 simpa using hj
theorem withT_any (b:Nat)(X:List UInt8)(hX:X.length=32)(k v:ByteArray)(pl pr l r:Option Addr)(enc h:ByteArray)(w:World)(hb:w.heap[b]?=some (.cells (treeL X k v pl pr enc h).toArray 251))(p1:PtrT pl w)(p2:PtrT pr w)(p3:PtrT l w)(p4:PtrT r w)(hne:¬ (l=pl/\r=pr)) : Calls prog 165 #[.pointer (some ⟨b,0,none⟩),.pointer l,.pointer r] w λe w'=>∃g,e=.returned (.pointer (some ⟨g,0,none⟩))/\w.heap.size<=g/\w'.heap[g]?=some (.cells (treeL X k v l r ⟨#[]⟩ ⟨#[]⟩).toArray 251)/\Below w.heap.size w w':=by
 have q1:=qdi l pl w p3 p1;have q2:=qdi r pr w p4 p2;have hlen:(X.map B).length=32:=by rw[List.length_map,hX]
 obtain⟨g35,g36,g37,g38,g0,g1⟩:=qbt X hX k v pl pr enc h;have c35:w.cell? ⟨b,35,none⟩=some (.pointer pl):=(ZC hb 35).trans (by simpa using g35);have c36:w.cell? ⟨b,36,none⟩=some (.pointer pr):=(ZC hb 36).trans (by simpa using g36);have hr2:w.rangeAt b 2 (rankL X k):=λj u hj=>(ZC hb (2+j)).trans (by simpa using tree_rank X hX k v pl pr enc h j u hj);have hr0:w.rangeAt b 0 [.string k,.string v]:=λj u hj=>(ZC hb (0+j)).trans (by
  match j,hj with
  | 0,hj=>simpa using g0.trans hj
  | 1,hj=>simpa using g1.trans hj)
 clear g35 g36 g37 g38 g0 g1 hlen;clear p1 p2 p3 p4;have hd:decide (l=pl)=false\/(decide (l=pl)=true/\decide (r=pr)=false):=by
  by_cases e1:l=pl
  ·exact .inr ⟨decide_eq_true e1,decide_eq_false λe2=>hne ⟨e1,e2⟩⟩
  ·exact .inl (decide_eq_false e1)
 have nT:=heap_alloc_new w.drew (.cells (treeL X k v l r ⟨#[]⟩ ⟨#[]⟩).toArray 251);have hT:Below w.heap.size w (w.drew.alloc (.cells (treeL X k v l r ⟨#[]⟩ ⟨#[]⟩).toArray 251)):=((Below.refl _ _).drew).alloc (Nat.le_refl _) _;clear hne;rcases hd with d1|⟨d1,d2⟩
 ·rw[d1] at q1;clear d1 q2;go_enter func165,ntmps165;go_upto_region 3 with fail;refine wp_region_held_drew (S:=λW=>W.rangeAt b 0 [.string k,.string v]/\W.rangeAt b 2 (rankL X k)) (by kernel_rfl) ⟨hr0,hr2⟩ (λhHeld=>?_);refine tkI 0 ?_;simp only[Act.put,zq];refine tkI 1 ?_;simp only[Act.put,zq];refine tkI 2 ?_;simp only[Act.put,zq];refine tkH (i:=3) (v:=_) rfl (yieldsIf_load_mid (by rfl) _ _ rfl _ _ rfl _ _ (λw h=>h.1) Tryz.underlying81 rfl size37) ?_;simp only[Act.put,zq];refine tkI 4 ?_;simp only[Act.put,zq];refine tkI 5 ?_;simp only[Act.put,zq];refine tkI 6 ?_;simp only[Act.put,zq];refine tkH (i:=7) (v:=_) rfl (yieldsIf_load_mid (by rfl) _ _ rfl _ _ rfl _ _ (λw h=>h.2) Tryz.underlying249 rfl (qcX X hX k)) ?_;simp only[Act.put,zq];refine tkI 8 ?_;simp only[Act.put,zq];refine tkI 9 ?_;simp only[Act.put,zq];refine tkH (i:=10) (v:=_) rfl (qcC (by rfl) 251 #[(0,.tmp 25),(1,.tmp 29),(2,.tmp 30),(3,.tmp 31)] rfl (treeL X k v l r ⟨#[]⟩ ⟨#[]⟩).toArray (by exact built4 X hX k v l r)) ?_;simp only[Act.put,zq];refine rdH 11 (λK hK=>?_);rw[if_pos (by rfl)];refine wp_box_row 251 _ rfl _ rfl ?_;refine hK.out _ _ ⟨(World.rangeAt_alloc hHeld.1 _),(World.rangeAt_alloc hHeld.2 _)⟩ (λhHeld=>?_);clear hK K;simp only[Act.put,zq];refine tkI 12 ?_;simp only[Act.put,zq];refine wpAnyH_done (by kernel_rfl) ?_ _;go_wp2_with fail;go_ret;exact⟨w.heap.size,rfl,Nat.le_refl _,nT,hT⟩
 ·rw[d1] at q1;rw[d2] at q2;clear d1 d2;go_enter func165,ntmps165;go_upto_region 3 with fail;refine wp_region_held_drew (S:=λW=>W.rangeAt b 0 [.string k,.string v]/\W.rangeAt b 2 (rankL X k)) (by kernel_rfl) ⟨hr0,hr2⟩ (λhHeld=>?_);refine tkI 0 ?_;simp only[Act.put,zq];refine tkI 1 ?_;simp only[Act.put,zq];refine tkI 2 ?_;simp only[Act.put,zq];refine tkH (i:=3) (v:=_) rfl (yieldsIf_load_mid (by rfl) _ _ rfl _ _ rfl _ _ (λw h=>h.1) Tryz.underlying81 rfl size37) ?_;simp only[Act.put,zq];refine tkI 4 ?_;simp only[Act.put,zq];refine tkI 5 ?_;simp only[Act.put,zq];refine tkI 6 ?_;simp only[Act.put,zq];refine tkH (i:=7) (v:=_) rfl (yieldsIf_load_mid (by rfl) _ _ rfl _ _ rfl _ _ (λw h=>h.2) Tryz.underlying249 rfl (qcX X hX k)) ?_;simp only[Act.put,zq];refine tkI 8 ?_;simp only[Act.put,zq];refine tkI 9 ?_;simp only[Act.put,zq];refine tkH (i:=10) (v:=_) rfl (qcC (by rfl) 251 #[(0,.tmp 25),(1,.tmp 29),(2,.tmp 30),(3,.tmp 31)] rfl (treeL X k v l r ⟨#[]⟩ ⟨#[]⟩).toArray (by exact built4 X hX k v l r)) ?_;simp only[Act.put,zq];refine rdH 11 (λK hK=>?_);rw[if_pos (by rfl)];refine wp_box_row 251 _ rfl _ rfl ?_;refine hK.out _ _ ⟨(World.rangeAt_alloc hHeld.1 _),(World.rangeAt_alloc hHeld.2 _)⟩ (λhHeld=>?_);clear hK K;simp only[Act.put,zq];refine tkI 12 ?_;simp only[Act.put,zq];refine wpAnyH_done (by kernel_rfl) ?_ _;go_wp2_with fail;go_ret;exact⟨w.heap.size,rfl,Nat.le_refl _,nT,hT⟩
theorem with_same (b:Nat)(X:List UInt8)(hX:X.length=32)(k v:ByteArray)(pl pr:Option Addr)(enc h:ByteArray)(w:World)(hb:w.heap[b]?=some (.cells (treeL X k v pl pr enc h).toArray 251))(p1:PtrT pl w)(p2:PtrT pr w) : Calls prog 165 #[.pointer (some ⟨b,0,none⟩),.pointer pl,.pointer pr] w λe w'=>e=.returned (.pointer (some ⟨b,0,none⟩))/\w'=w:=by
 have q1:=qdi pl pl w p1 p1;have q2:=qdi pr pr w p2 p2;rw[decide_eq_true rfl] at q1 q2;obtain⟨g35,g36,g37,g38,g0,g1⟩:=qbt X hX k v pl pr enc h;have c35:w.cell? ⟨b,35,none⟩=some (.pointer pl):=(ZC hb 35).trans (by simpa using g35);have c36:w.cell? ⟨b,36,none⟩=some (.pointer pr):=(ZC hb 36).trans (by simpa using g36);clear g35 g36 g37 g38 g0 g1 hb p1 p2;go_enter func165,ntmps165;go_wp2_with fail;go_ret;exact⟨rfl,rfl⟩
end Go.Proofs.YtibjhkpgaaapaaaGreatDoor
