import Derived.Test.YtibjhkpgaaapaaaGreatDoorZhai
import Derived.Test.YtibjhkpgaaapaaaGreatDoorZhaj
import Derived.Test.YtibjhkpgaaapaaaGreatDoorZhac
import Derived.Test.YtibjhkpgaaapaaaGreatDoorZhad
import Derived.Laws.MakeOwn
import Derived.Laws.OwnMore
import Derived.Lib.BufferWrite
import Derived.Deep.AppendLies
set_option maxRecDepth 100000
set_option maxHeartbeats 1000000
namespace Go.Proofs.YtibjhkpgaaapaaaGreatDoor
open Go.RowKit Go.Proofs.Sha Tryz
theorem subsB_any (b:Nat) (hash over under:ByteArray) (par:Option Addr) (k v l r:ByteArray) (pl pr:Option Addr) (w:World) (h:BF b hash over under par k v l r pl pr w):Calls prog 230 #[.pointer (some ⟨b,0,none⟩)] w fun e w'=>e=.returned (.tuple #[.pointer pl,.pointer pr]) /\ Below w.heap.size w w':=by
 have c8:w.cell? ⟨b,8,none⟩=some (.pointer pl):=ZC h 8
 have c9:w.cell? ⟨b,9,none⟩=some (.pointer pr):=ZC h 9
 clear h
 go_enter func230,ntmps230
 go_wp2_with fail
 go_region_held3 (fun W=>W.cell? ⟨b,8,none⟩=some (.pointer pl) /\ W.cell? ⟨b,9,none⟩=some (.pointer pr)) (exact ⟨c8,c9⟩) (fail)
 go_wp2_with fail
 go_ret2
 exact ⟨rfl,(Below.refl _ _).drew⟩
theorem pairB_any (b:Nat) (hash over under:ByteArray) (par:Option Addr) (k v l r:ByteArray) (pl pr:Option Addr) (w:World) (h:BF b hash over under par k v l r pl pr w):Calls prog 151 #[.pointer (some ⟨b,0,none⟩)] w fun e w'=>e=.returned (.agg #[.string k,.string v]) /\ Below w.heap.size w w':=by
 have hlt:=(Array.getElem?_eq_some_iff.1 h).1
 have hA:=(Below.heap_alloc w (.cells #[.string ⟨#[]⟩,.string ⟨#[]⟩] 81) b hlt).trans h
 have c4:(w.alloc (.cells #[.string ⟨#[]⟩,.string ⟨#[]⟩] 81)).cell? ⟨b,4,none⟩=some (.string k):=ZC hA 4
 have c5:(w.alloc (.cells #[.string ⟨#[]⟩,.string ⟨#[]⟩] 81)).cell? ⟨b,5,none⟩=some (.string v):=ZC hA 5
 have hN:=heap_alloc_new w (.cells #[.string ⟨#[]⟩,.string ⟨#[]⟩] 81)
 have hb:Below w.heap.size w (w.alloc (.cells #[.string ⟨#[]⟩,.string ⟨#[]⟩] 81)):=(Below.refl _ _).alloc (Nat.le_refl _) _
 clear h hA
 go_enter func151,ntmps151
 go_wp2_with fail
 generalize w.alloc (.cells #[.string ⟨#[]⟩,.string ⟨#[]⟩] 81)=W at c4 c5 hN hb ⊢
 obtain ⟨gp,hgp⟩:∃ gp,w.heap.size=gp:=⟨_,rfl⟩
 rw [hgp] at hN ⊢
 have hgl:w.heap.size <= gp:=Nat.le_of_eq hgp
 clear hgp
 have p0:W.cell? ⟨gp,0,none⟩=some (.string ⟨#[]⟩):=ZC hN 0
 have p1:W.cell? ⟨gp,1,none⟩=some (.string ⟨#[]⟩):=ZC hN 1
 have fp:∀ j,W.frozen? ⟨gp,j,none⟩=false:=fun j=>by rw [World.frozen?,hN];rfl
 go_region
 have hN2:=heap_setCell_same _ gp 1 _ 81 (.string v) (heap_setCell_same _ gp 0 _ 81 (.string k) hN)
 have hb2:Below w.heap.size w ((W.setCell ⟨gp,0,none⟩ (.string k)).setCell ⟨gp,1,none⟩ (.string v)).drew:=((hb.setCell hgl _).setCell hgl _).drew
 have hN3:((W.setCell ⟨gp,0,none⟩ (.string k)).setCell ⟨gp,1,none⟩ (.string v)).drew.heap[gp]?=some (.cells #[.string k,.string v] 81):=hN2
 generalize ((W.setCell ⟨gp,0,none⟩ (.string k)).setCell ⟨gp,1,none⟩ (.string v)).drew=W2 at hb2 hN3 ⊢
 have q0:W2.cell? ⟨gp,0,none⟩=some (.string k):=ZC hN3 0
 have q1:W2.cell? ⟨gp,1,none⟩=some (.string v):=ZC hN3 1
 clear c4 c5 p0 p1 fp hN hN2 hN3
 go_wp2_with fail
 exact bodyPost_ret (v:=.agg #[.string k,.string v]) (by simp [results,Tryz.results151,go_sem,q0,q1]) rfl ⟨rfl,hb2⟩
theorem goInto_none (lo hi:ByteArray) (w:World):Calls prog 109 #[.agg #[.string lo,.string hi],.pointer none] w fun e w'=>e=.returned (.bool false) /\ Below w.heap.size w w':=by
 have hb:Below w.heap.size w (w.alloc (.cells #[.string lo,.string hi] 75)):=(Below.refl _ _).alloc (Nat.le_refl _) _
 have hN:=heap_alloc_new w (.cells #[.string lo,.string hi] 75)
 have n0:(w.alloc (.cells #[.string lo,.string hi] 75)).cell? ⟨w.heap.size,0,none⟩=some (.string lo):=ZC hN 0
 have n1:(w.alloc (.cells #[.string lo,.string hi] 75)).cell? ⟨w.heap.size,1,none⟩=some (.string hi):=ZC hN 1
 have q:∀ w',(binOp .neq 166 (.pointer none) (.pointer none)).run prog w'=.ok (.bool false) w':=fun w'=>by
  have:=ptr_eqlB none none w' (.inl rfl) (.inl rfl)
  simp only [binOp] at this ⊢
  cases hq:(Op.equal 166 (.pointer none) (.pointer none)).run prog w' <;> simp_all
 clear hN
 go_enter func109,ntmps109
 go_wp2_with fail
 go_quiet (first | fail)
 go_wp2_with fail
 go_ret
 exact ⟨rfl,draws_below _ hb⟩
theorem goInto_some (lo hi:ByteArray) (b:Nat) (hash over under:ByteArray) (par:Option Addr) (w:World) (h:BR b hash over under par w):Calls prog 109 #[.agg #[.string lo,.string hi],.pointer (some ⟨b,0,none⟩)] w fun e w'=>e=.returned (.bool (canW over under lo hi)) /\ Below w.heap.size w w':=by
 have hlt:=(Array.getElem?_eq_some_iff.1 h).1
 have hA:=(Below.heap_alloc w (.cells #[.string lo,.string hi] 75) b hlt).trans h
 have hN:=heap_alloc_new w (.cells #[.string lo,.string hi] 75)
 have hb:Below w.heap.size w (w.alloc (.cells #[.string lo,.string hi] 75)):=(Below.refl _ _).alloc (Nat.le_refl _) _
 have hP:Ptr (some ⟨b,0,none⟩) (w.alloc (.cells #[.string lo,.string hi] 75)):=.inr ⟨b,_,_,rfl,hA⟩
 have HC:=fun w'=>can_any lo hi over under par w'
 go_enter func109,ntmps109
 go_wp2_with fail
 generalize w.alloc (.cells #[.string lo,.string hi] 75)=W at hA hN hb hP ⊢
 obtain ⟨ga,hga⟩:∃ ga,w.heap.size=ga:=⟨_,rfl⟩
 rw [hga] at hN ⊢
 have c1:W.cell? ⟨b,1,none⟩=some (.string over):=ZC hA 1
 have c2:W.cell? ⟨b,2,none⟩=some (.string under):=ZC hA 2
 have c3:W.cell? ⟨b,3,none⟩=some (.pointer par):=ZC hA 3
 have n0:W.cell? ⟨ga,0,none⟩=some (.string lo):=ZC hN 0
 have n1:W.cell? ⟨ga,1,none⟩=some (.string hi):=ZC hN 1
 have q:(binOp .neq 166 (.pointer (some ⟨b,0,none⟩)) (.pointer none)).run prog W=.ok (.bool true) W:=by
  have:=ptr_eqlB (some ⟨b,0,none⟩) none W hP (.inl rfl)
  simp only [binOp] at this ⊢
  cases hq:(Op.equal 166 (.pointer (some ⟨b,0,none⟩)) (.pointer none)).run prog W <;> simp_all
 have q2:(binOp .neq 166 (.pointer (some ⟨b,0,none⟩)) (.pointer none)).run prog W.drew=.ok (.bool true) W.drew:=by
  have hP2:Ptr (some ⟨b,0,none⟩) W.drew:=.inr ⟨b,_,_,rfl,hA⟩
  have:=ptr_eqlB (some ⟨b,0,none⟩) none W.drew hP2 (.inl rfl)
  simp only [binOp] at this ⊢
  cases hq:(Op.equal 166 (.pointer (some ⟨b,0,none⟩)) (.pointer none)).run prog W.drew <;> simp_all
 clear hP hga h
 go_region_held3 (fun W=>W.cell? ⟨b,1,none⟩=some (.string over) /\ W.cell? ⟨b,2,none⟩=some (.string under) /\ W.cell? ⟨b,3,none⟩=some (.pointer par) /\ W.cell? ⟨ga,0,none⟩=some (.string lo) /\ W.cell? ⟨ga,1,none⟩=some (.string hi)) (first | exact ⟨c1,c2,c3,n0,n1⟩ | exact ⟨ZC hA2 1,ZC hA2 2,ZC hA2 3,ZC hN2 0,ZC hN2 1⟩) (first | (go_at_call 142;refine (HC _).mono ?_;rintro e w2 ⟨rfl,hb2⟩;have hA2:=(hb2.block b (Array.getElem?_eq_some_iff.1 hA).1).trans hA;have hN2:=(hb2.block ga (Array.getElem?_eq_some_iff.1 hN).1).trans hN))
 go_wp2_with fail
 go_ret
 exact ⟨rfl,hb.trans (((Below.refl W.heap.size W).drew.trans hb2).mono hb.size)⟩
theorem letter_any (w:World):Calls prog 141 #[] w fun e w'=>e=.returned (.agg #[.int .i64 1,.bool false]) /\ Below w.heap.size w w':=by
 go_enter func141,ntmps141
 go_wp2
 have c0:=ZC (heap_alloc_new w (.cells #[.int .i64 1,.bool false] 208)) 0
 have c1:=ZC (heap_alloc_new w (.cells #[.int .i64 1,.bool false] 208)) 1
 refine bodyPost_ret (v:=.agg #[.int .i64 1,.bool false]) ?_ rfl ⟨rfl,(Below.refl _ _).alloc (Nat.le_refl _) _⟩
 simp [results,Tryz.results141,go_sem,asAddr,c0,c1]
theorem wlet (b:Nat) (v:Nat) (x:UInt8) (hx:UInt8.ofNat v=x) (l:List UInt8) (w:World) (h:Bld b l w) (hl:l.length <= 9000000) (hv:v <= 1000) :
 Calls prog 223 #[.pointer (some ⟨b,0,none⟩),.iface 208 (.agg #[.int .i64 1,.bool false]),.int .i64 (v:Int)] w fun e w'=>e=.returned (.tuple #[]) /\ Put b (l ++ [x]) w w':=by
 rw [<- hx]
 exact wint1 b v l w h hl (by omega)
theorem eput (b:Nat) (l:List UInt8) (w:World) (h:Bld b l w) (hl:l.length <= 9000000) :
 Calls prog 238 #[.agg #[],.pointer (some ⟨b,0,none⟩)] w fun e w'=>e=.returned (.tuple #[]) /\ Put b (l ++ [69]) w w':=by
 have HW:Hid (∀ w',Bld b l w' -> Calls prog 223 #[.pointer (some ⟨b,0,none⟩),.iface 208 (.agg #[.int .i64 1,.bool false]),.int .i64 69] w' fun e w''=>e=.returned (.tuple #[]) /\ Put b (l ++ [69]) w' w''):=fun w' h'=>wlet b 69 69 rfl l w' h' hl (by omega)
 go_enter func238,ntmps238
 go_wp2_with (first | (go_at_call 141;refine (letter_any _).mono ?_;rintro e w1 ⟨rfl,hb1⟩) | (go_at_call 223;refine (HW.out _ ((h.alloc _).below hb1)).mono ?_;rintro e w2 ⟨rfl,hp2⟩))
 go_end0
 exact ⟨rfl,(((Put.refl h).alloc _).below hb1).trans hp2⟩
theorem sput (hash:ByteArray) (b:Nat) (l:List UInt8) (w:World) (h:Bld b l w) (hl:l.length + hash.size <= 8000000) :
 Calls prog 242 #[.agg #[.string hash],.pointer (some ⟨b,0,none⟩)] w fun e w'=>e=.returned (.tuple #[]) /\ Put b (l ++ 83 :: hash.data.toList) w w':=by
 have HW:Hid (∀ w',Bld b l w' -> Calls prog 223 #[.pointer (some ⟨b,0,none⟩),.iface 208 (.agg #[.int .i64 1,.bool false]),.int .i64 83] w' fun e w''=>e=.returned (.tuple #[]) /\ Put b (l ++ [83]) w' w''):=fun w' h'=>wlet b 83 83 rfl l w' h' (by omega) (by omega)
 have HX:Hid (∀ n w',Bld b (l ++ [83]) w' -> Calls prog 224 #[.pointer (some ⟨b,0,none⟩),.iface 214 (.agg #[.int .i64 n]),.string hash] w' fun e w''=>e=.returned (.tuple #[]) /\ Put b (l ++ 83 :: hash.data.toList) w' w''):=fun n w' h'=>by
  have:=wplain n b hash (l ++ [83]) w' h' (by rw [List.length_append,List.length_singleton];omega)
  rwa [List.append_assoc,List.singleton_append] at this
 have hA:=h.alloc (.cells #[.string hash] 216)
 have nA:=heap_alloc_new w (.cells #[.string hash] 216)
 have hne:w.heap.size ≠ b:=by have:=h.lt;omega
 generalize l ++ 83 :: hash.data.toList=L at HX ⊢
 go_enter func242,ntmps242
 go_wp2_with (first | (go_at_call 141;refine (letter_any _).mono ?_;rintro e w1 ⟨rfl,hb1⟩) | (go_at_call 223;refine (HW.out _ (hA.below hb1)).mono ?_;rintro e w2 ⟨rfl,hp2⟩;have n2:=hp2.cells (below_cells hb1 nA) hne (by decide);have c2:=ZC n2 0) | (go_at_call 224;refine (HX.out _ _ hp2.1).mono ?_;rintro e w3 ⟨rfl,hp3⟩))
 go_end0
 exact ⟨rfl,((((Put.refl h).alloc _).below hb1).trans hp2).trans hp3⟩
theorem wr_in64 (n:Int) (h:-9223372036854775808 <= n /\ n <= 9223372036854775807):wrap64 n=n:=by unfold wrap64;omega
def SmallP (ps:List PairT):Prop:=ps.length <= 1048576 /\ ∀ j,(ps.getD j noPair).1.size <= 1048576 /\ (ps.getD j noPair).2.size <= 1048576
theorem pget_out (ps:List PairT) (j:Nat) (h:ps.length <= j):ps.getD j noPair=noPair:=by
 rw [List.getD_eq_getElem?_getD,List.getElem?_eq_none h];rfl
def flatP:List PairT -> List Value
 | []=>[]
 | p :: l=>.string p.1 :: .string p.2 :: flatP l
theorem flatP_len:∀ l:List PairT,(flatP l).length=l.length * 2
 | []=>rfl
 | p :: l=>by simp only [flatP,List.length_cons,flatP_len l];omega
theorem flatP_app:∀ l m:List PairT,flatP (l ++ m)=flatP l ++ flatP m
 | [],m=>rfl
 | p :: l,m=>by simp only [List.cons_append,flatP,flatP_app l m]
theorem flatP_get:∀ (l:List PairT) (j:Nat),j < l.length -> (flatP l)[j * 2]?=some (.string (l.getD j noPair).1) /\ (flatP l)[j * 2 + 1]?=some (.string (l.getD j noPair).2)
 | [],j,h=>absurd h (Nat.not_lt_zero _)
 | p :: l,0,_=>⟨rfl,rfl⟩
 | p :: l,j + 1,h=>by
  have:=flatP_get l j (by simpa using h)
  rw [show (j + 1) * 2=j * 2 + 2 by omega]
  simpa [flatP] using this
theorem Row.parg {w:World} {base g c n:Nat} {ps:List PairT} (h:Row w base g n c (flatP ps)) (hs:SmallP ps):PArg (some ⟨g,0,none⟩) ps w:=by
 refine ⟨hs.1,hs.2,fun _=>⟨g,0,rfl,h.lt,fun j hj=>?_⟩⟩
 have hn:=h.len
 rw [flatP_len] at hn
 obtain ⟨e0,e1⟩:=flatP_get ps j hj
 rw [Nat.zero_add]
 exact ⟨(h.cell _ (by omega)).trans e0,(h.cell _ (by omega)).trans e1⟩
theorem info37:(prog.info? 81).map (fun i=>(i.zero,i.size,i.bytes))=some (some (.agg #[.string ⟨#[]⟩,.string ⟨#[]⟩]),2,32):=by kernel_rfl
theorem info_parts2 {i:Option TypeInfo} {a:Option Value} {b c:Nat} (h:i.map (fun i=>(i.zero,i.size,i.bytes))=some (a,b,c)):∃ j,i=some j /\ j.zero=a /\ j.size=b /\ j.bytes=c:=by
 cases i with
 | none=>cases h
 | some j=>simp only [Option.map_some,Option.some.injEq,Prod.mk.injEq] at h;exact ⟨j,rfl,h.1,h.2.1,h.2.2⟩
theorem Row.setHead {w:World} {base g n cap:Nat} {xs:List Value} (h:Row w base g n cap xs) (ys:List Value) (ho:ys.length <= n):Row (w.setCells g 0 ys) base g n cap (ys ++ xs.drop ys.length):=by
 have hin:∀ j (hj:j < ys.length),(w.setCells g 0 ys).cell? ⟨g,0 + j,none⟩=some ys[j]:=World.cell?_setCells_in g ys 0 w (fun j hj=>h.room (0 + j) (by have:=h.le;omega))
 have hout:∀ j,j < 0 \/ 0 + ys.length <= j -> (w.setCells g 0 ys).cell? ⟨g,j,none⟩=w.cell? ⟨g,j,none⟩:=fun j hj=>World.cell?_setCells_out g ys 0 w ⟨g,j,none⟩ (fun _ _=>hj)
 have hgr:=grownBy_setCells g ys 0 w
 have hl:=h.len
 refine ⟨h.ge,Nat.lt_of_lt_of_le h.lt hgr.size,by rw [List.length_append,List.length_drop];omega,h.le,?_,?_,?_⟩
 · intro j hj
   rcases Nat.lt_or_ge j ys.length with h1 | h1
   · have:=hin j h1
     rw [Nat.zero_add] at this
     rw [this,List.getElem?_append_left h1,List.getElem?_eq_getElem h1]
   · rw [hout j (.inr (by omega)),h.cell j hj,List.getElem?_append_right h1,List.getElem?_drop,show ys.length + (j - ys.length)=j by omega]
 · intro j hj
   rcases Nat.lt_or_ge j ys.length with h1 | h1
   · have:=hin j h1
     rw [Nat.zero_add] at this
     rw [this];rfl
   · rw [hout j (.inr (by omega))];exact h.room j hj
 · intro j hj
   rw [World.frozen?_setCells];exact h.free j hj
theorem info5m:(prog.info? 5).map (·.size)=some 1:=by kernel_rfl
theorem run_copy_text {w:World} {base g n cap:Nat} {xs:List Value} (h:Row w base g n cap xs) (s:ByteArray) (hs:s.size <= n) :
 (Builtin.copy_ #[41,9] 3 #[.slice (some ⟨g,0,none⟩) n n,.string s]).run prog w=.ok (goInt s.size) (w.setCells g 0 (s.data.toList.map B)):=by
 have hlen:(s.data.toList.map B).length=s.size:=by rw [List.length_map];rfl
 have hst:=run_storeCells_cells (P:=prog) g 0 (s.data.toList.map B) 0 w (fun j hj=>by have:=h.room j (by have:=h.le;omega);simpa using this) (fun j hj=>by have:=h.free j (by have:=h.le;omega);simpa using this) (fun v hv=>by obtain ⟨x,_,rfl⟩:=List.mem_map.1 hv;rfl)
 simp only [Nat.add_zero] at hst
 have hmin:Nat.min s.size n=s.size:=Nat.min_eq_left hs
 have htk:List.take s.size (List.map (fun b:UInt8=>Value.int IntKind.u8 (b.toNat:Int)) s.data.toList)=s.data.toList.map B:=by
  rw [List.take_of_length_le (by rw [List.length_map];exact Nat.le_refl _)];rfl
 obtain ⟨i,hi,hsz⟩:∃ i,prog.info? 5=some i /\ i.size=1:=by
  have:=info5m
  cases hh:prog.info? 5 with
  | none=>rw [hh] at this;cases this
  | some i=>rw [hh] at this;exact ⟨i,rfl,Option.some.inj this⟩
 simp [Builtin.copy_,run_underlying Tryz.underlying41,sizeOf,typeInfo,hi,Builtin.lenOf,hmin,Builtin.firstCells,htk,hst]
theorem find_any (wd:Nat) (r:Nat) (F:List UInt8 -> Option Int) (hash:ByteArray) (w:World) (h:MapF F r w) (h1:wd <= 32) (h2:hash.size=wd) :
 Calls prog 199 #[.agg #[.int .i64 (wd:Int),.map (some r)],.string hash] w fun e w'=>e=.returned (.tuple #[.int .i64 ((F (cutW wd hash.data.toList)).getD 0),.bool (F (cutW wd hash.data.toList)).isSome]) /\ Below w.heap.size w w':=by
 have z1:((hash.size:Int) != (wd:Int))=false:=by rw [h2];simp
 have hsz:hash.size <= 32:=by omega
 have hhl:hash.data.toList.length=hash.size:=rfl
 have hcut:hash.data.toList.map B ++ (zeros32b.map B).drop (hash.data.toList.map B).length=(cutW wd hash.data.toList).map B:=by
  unfold cutW zeros32b
  rw [List.map_append,List.take_of_length_le (by omega),List.length_map,hhl,h2,List.map_replicate,List.map_replicate,List.drop_replicate]
 have hX:(cutW wd hash.data.toList).length=32:=by unfold cutW;rw [List.length_append,List.length_take,List.length_replicate];omega
 obtain ⟨X,hXX⟩:∃ X,cutW wd hash.data.toList=X:=⟨_,rfl⟩
 rw [hXX] at hcut hX ⊢
 clear h2 hXX
 have hrl:r < w.heap.size:=by
  obtain ⟨es,cl,hg,_,_⟩:=h.is
  exact (Array.getElem?_eq_some_iff.1 hg).1
 go_enter func199,ntmps199
 obtain ⟨ga,hga⟩:∃ ga,w.heap.size=ga:=⟨_,rfl⟩
 go_wp2_with (first | (refine wpList_alloc_row _ rfl (some 6) rfl 247 247 rfl (zeros32b.map B) alloc43 ?_;intro g2 w2 hr2 hb2))
 have hr2':Row w2 (ga + 1) g2 32 32 (zeros32b.map B):=by
  have:=hr2
  rw [World.size_alloc,hga] at this
  exact this
 have hcp:=run_copy_text hr2' hash hsz
 have hR3:=Row.setHead hr2' (hash.data.toList.map B) (by rw [List.length_map];omega)
 rw [hcut] at hR3
 have hg3:=grownBy_setCells g2 (hash.data.toList.map B) 0 w2
 obtain ⟨w3,hw3⟩:∃ w3,w2.setCells g2 0 (hash.data.toList.map B)=w3:=⟨_,rfl⟩
 rw [hw3] at hcp hR3 hg3
 clear hw3
 have hge:=hr2'.ge
 have hb2':Below (ga + 1) (w.alloc (.cells #[.int .i64 (wd:Int),.map (some r)] 192)) w2:=by
  have:=hb2
  rw [World.size_alloc,hga] at this
  exact this
 have hn2:w2.heap[ga]?=some (.cells #[.int .i64 (wd:Int),.map (some r)] 192):=(hb2'.block ga (by omega)).trans (by rw [<- hga];exact heap_alloc_new w _)
 have hne:ga ≠ g2:=by omega
 have hn3:w3.heap[ga]?=some (.cells #[.int .i64 (wd:Int),.map (some r)] 192):=(hg3.block ga (Array.getElem?_eq_some_iff.1 hn2).1 (fun e=>hne (Option.some.inj e))).trans hn2
 have hB2:Below w.heap.size w w2:=((Below.refl _ w).alloc (Nat.le_refl _) _).trans (hb2'.mono (by omega))
 have hM3:MapF F r w3:=(h.below hB2).kept hg3 (by omega)
 have hB3:Below w.heap.size w w3:=hB2.trans (below_of_grown hg3 (by omega) hB2.size)
 have hlk:=run_look key43 Tryz.underlying190 zeroV3 hM3 X hX
 unfold K32 at hlk
 have d0:=ZC hn3 0
 have d1:=ZC hn3 1
 clear hb2 hb2' hr2 hr2' hB2 hn2 hM3 h
 obtain ⟨fx,hfx⟩:∃ fx,F X=fx:=⟨_,rfl⟩
 rw [hfx] at hlk
 have HF:Hid (F X=fx):=hfx
 clear hfx
 rw [hcp]
 clear hcp
 go_wp2_with (first | (refine wpList_load_whole _ rfl 247 (.tmp 6) rfl (ga + 1) g2 32 32 (X.map B) 5 rfl hR3 Tryz.underlying247 size43 ?_))
 go_ret2
 rw [HF.out]
 exact ⟨rfl,hB3⟩
structure SArg (a:Option Addr) (ss:List ByteArray) (w:World):Prop where
 le:ss.length <= 1048576
 sz:∀ j,(ss.getD j ⟨#[]⟩).size <= 1048576
 at_:0 < ss.length -> ∃ b off:Nat,a=some ⟨b,off,none⟩ /\ b < w.heap.size /\ ∀ j,j < ss.length -> w.cell? ⟨b,off + j,none⟩=some (.string (ss.getD j ⟨#[]⟩))
theorem SArg.below {a:Option Addr} {ss:List ByteArray} {w w':World} (h:SArg a ss w) (hb:Below w.heap.size w w'):SArg a ss w':=by
 refine ⟨h.le,h.sz,fun hn=>?_⟩
 obtain ⟨b,off,ha,hlt,hc⟩:=h.at_ hn
 exact ⟨b,off,ha,Nat.lt_of_lt_of_le hlt hb.size,fun j hj=>(hb.cell hlt).trans (hc j hj)⟩
def keyW (wd:Nat) (s:ByteArray):List UInt8:=cutW wd (sha (78 :: s.data.toList))
def placesF (wd:Nat) (ss:List ByteArray):Nat -> List UInt8 -> Option Int
 | 0=>fun _=>none
 | k + 1=>addF (placesF wd ss k) (keyW wd (ss.getD k ⟨#[]⟩)) (k:Int)
def firstI (p:Nat -> Bool):Nat -> Option Nat
 | 0=>none
 | k + 1=>match firstI p k with
  | some i=>some i
  | none=>if p k then some k else none
theorem firstI_lt {p:Nat -> Bool} {k i:Nat} (h:firstI p k=some i):i < k:=by
 induction k with
 | zero=>cases h
 | succ k ih =>
  rw [firstI] at h
  cases hk:firstI p k with
  | some j=>rw [hk] at h;simp only [Option.some.injEq] at h;subst h;have:=ih hk;omega
  | none =>
   rw [hk] at h
   simp only at h
   split at h
   · simp only [Option.some.injEq] at h;omega
   · cases h
theorem placesF_first (wd:Nat) (ss:List ByteArray) (X:List UInt8) (k:Nat):placesF wd ss k X=(firstI (fun i=>decide (keyW wd (ss.getD i ⟨#[]⟩)=X)) k).map fun i=>(i:Int):=by
 induction k with
 | zero=>rfl
 | succ k ih =>
  rw [placesF,addF,firstI]
  obtain ⟨Y,hY⟩:∃ Y,keyW wd (ss.getD k ⟨#[]⟩)=Y:=⟨_,rfl⟩
  rw [hY]
  by_cases hn:placesF wd ss k Y=none
  · rw [if_pos hn]
    by_cases hXY:X=Y
    · subst hXY
      rw [if_pos rfl]
      rw [ih] at hn
      cases hf:firstI (fun i=>decide (keyW wd (ss.getD i ⟨#[]⟩)=X)) k with
      | some j=>rw [hf] at hn;cases hn
      | none=>simp
    · rw [if_neg hXY,ih]
      cases hf:firstI (fun i=>decide (keyW wd (ss.getD i ⟨#[]⟩)=X)) k with
      | some j=>rfl
      | none=>simp [Ne.symm hXY]
  · rw [if_neg hn,ih]
    cases hf:firstI (fun i=>decide (keyW wd (ss.getD i ⟨#[]⟩)=X)) k with
    | some j=>rfl
    | none =>
     simp only
     by_cases hXY:Y=X
     · subst hXY
       rw [ih,hf] at hn
       exact absurd rfl hn
     · simp [hXY]
def poolOk (n:Int) (m:Nat):Bool:=decide (1 <= n /\ n <= 32 /\ m <= 20000)
theorem validPool_any (n:Int) (a:Option Addr) (m c:Nat) (w:World) (_hm:m <= 1048576) :
 Calls prog 52 #[.agg #[.int .i64 n,.slice a m c]] w fun e w'=>e=.returned (.bool (poolOk n m)) /\ Below w.heap.size w w':=by
 have hfin:Below w.heap.size w (w.alloc (.cells #[.int .i64 n,.slice a m c] 31)):=(Below.refl _ _).alloc (Nat.le_refl _) _
 by_cases c1:1 <= n
 · by_cases c2:n <= 32
   · have hr:poolOk n m=decide ((m:Int) <= 20000):=by
      unfold poolOk
      by_cases c3:m <= 20000
      · rw [decide_eq_true (by omega),decide_eq_true (by omega)]
      · rw [decide_eq_false (by omega),decide_eq_false (by omega)]
     rw [hr]
     clear hr
     go_enter func52,ntmps52
     go_wp2_with (first | go_in)
     go_ret
     exact ⟨rfl,hfin⟩
   · have hr:poolOk n m=false:=by unfold poolOk;rw [decide_eq_false (by omega)]
     rw [hr]
     clear hr
     go_enter func52,ntmps52
     go_wp2_with (first | go_in)
     go_ret
     exact ⟨rfl,hfin⟩
 · have hr:poolOk n m=false:=by unfold poolOk;rw [decide_eq_false (by omega)]
   rw [hr]
   clear hr
   go_enter func52,ntmps52
   go_wp2_with (first | go_in)
   go_ret
   exact ⟨rfl,hfin⟩
theorem poolOk_any (n:Int) (a:Option Addr) (m c:Nat) (w:World) (_hm:m <= 1048576) :
 Calls prog 79 #[.agg #[.int .i64 n,.slice a m c]] w fun e w'=>e=.returned (.bool (poolOk n m)) /\ Below w.heap.size w w':=by
 have hfin:Below w.heap.size w (w.alloc (.cells #[.int .i64 n,.slice a m c] 31)):=(Below.refl _ _).alloc (Nat.le_refl _) _
 by_cases c1:1 <= n
 · by_cases c2:n <= 32
   · have hr:poolOk n m=decide ((m:Int) <= 20000):=by
      unfold poolOk
      by_cases c3:m <= 20000
      · rw [decide_eq_true (by omega),decide_eq_true (by omega)]
      · rw [decide_eq_false (by omega),decide_eq_false (by omega)]
     rw [hr]
     clear hr
     go_enter func79,ntmps79
     go_wp2_with (first | go_in)
     go_ret
     exact ⟨rfl,hfin⟩
   · have hr:poolOk n m=false:=by unfold poolOk;rw [decide_eq_false (by omega)]
     rw [hr]
     clear hr
     go_enter func79,ntmps79
     go_wp2_with (first | go_in)
     go_ret
     exact ⟨rfl,hfin⟩
 · have hr:poolOk n m=false:=by unfold poolOk;rw [decide_eq_false (by omega)]
   rw [hr]
   clear hr
   go_enter func79,ntmps79
   go_wp2_with (first | go_in)
   go_ret
   exact ⟨rfl,hfin⟩
structure Dec where
 k:ByteArray -> ByteArray
 v:ByteArray -> ByteArray
 l:ByteArray -> ByteArray
 r:ByteArray -> ByteArray
 ok:ByteArray -> Bool
def DecSaid (f:FuncId) (wd:Nat) (D:Dec):Prop:=∀ (s:ByteArray) (w:World),s.size <= 1048576 -> Calls prog f #[.string s,.int .i64 (wd:Int)] w fun e w'=>e=.returned (.tuple #[.agg #[.string (D.k s),.string (D.v s),.string (D.l s),.string (D.r s)],.bool (D.ok s)]) /\ Below w.heap.size w w'
def foundR (D:Dec) (ss:List ByteArray):Option Nat -> (ByteArray × ByteArray × ByteArray × ByteArray) × Int
 | none=>((⟨#[]⟩,⟨#[]⟩,⟨#[]⟩,⟨#[]⟩),2)
 | some i=>if D.ok (ss.getD i ⟨#[]⟩) then ((D.k (ss.getD i ⟨#[]⟩),D.v (ss.getD i ⟨#[]⟩),D.l (ss.getD i ⟨#[]⟩),D.r (ss.getD i ⟨#[]⟩)),0) else ((⟨#[]⟩,⟨#[]⟩,⟨#[]⟩,⟨#[]⟩),3)
def nodeT (x:(ByteArray × ByteArray × ByteArray × ByteArray) × Int):Value:=.tuple #[.agg #[.string x.1.1,.string x.1.2.1,.string x.1.2.2.1,.string x.1.2.2.2],.int .i64 x.2]
def hitB (wd:Nat) (ss:List ByteArray) (hash:ByteArray) (i:Nat):Bool:=decide ((sha (78 :: (ss.getD i ⟨#[]⟩).data.toList)).take wd=hash.data.toList)
theorem key_hit (wd:Nat) (ss:List ByteArray) (hash:ByteArray) (_h1:wd <= 32) (h2:hash.size=wd) (i:Nat):decide (keyW wd (ss.getD i ⟨#[]⟩)=cutW wd hash.data.toList)=hitB wd ss hash i:=by
 unfold keyW cutW hitB
 have hl:hash.data.toList.length=wd:=h2
 rw [List.take_of_length_le (l:=hash.data.toList) (by omega)]
 congr 1
 rw [List.append_cancel_right_eq]
theorem own2_cells {w:World} {base g n:Nat} {v:Value} {xs:List Value} (h:w.ownsRow base 81 2 v n xs) (hv:v.ownBlock=some g):base <= g /\ g < w.heap.size /\ ∃ cur,w.heap[g]?=some (.cells cur 81 (0,0)):=by
 rcases h.2 with ⟨rfl,_⟩ | ⟨g',cap,cur,rfl,hb,hg,_⟩
 · cases hv
 · obtain rfl:g'=g:=Option.some.inj hv
   exact ⟨hb,(Array.getElem?_eq_some_iff.1 hg).1,cur,hg⟩
theorem own2_kept {w w':World} {base n:Nat} {v:Value} {xs:List Value} (h:w.ownsRow base 81 2 v n xs) (hk:∀ g,v.ownBlock=some g -> g < w.heap.size -> w'.heap[g]?=w.heap[g]?):w'.ownsRow base 81 2 v n xs:=by
 refine ⟨h.1,?_⟩
 rcases h.2 with ⟨h1,h2⟩ | ⟨g,cap,cur,hv,hb,hg,rest⟩
 · exact .inl ⟨h1,h2⟩
 · exact .inr ⟨g,cap,cur,hv,hb,(hk g (by rw [hv];rfl) (Array.getElem?_eq_some_iff.1 hg).1).trans hg,rest⟩
theorem own2_mono {w:World} {base base' n:Nat} {v:Value} {xs:List Value} (h:w.ownsRow base 81 2 v n xs) (hb:base' <= base):w.ownsRow base' 81 2 v n xs:=by
 refine ⟨h.1,?_⟩
 rcases h.2 with ⟨h1,h2⟩ | ⟨g,cap,cur,hv,hg,rest⟩
 · exact .inl ⟨h1,h2⟩
 · exact .inr ⟨g,cap,cur,hv,Nat.le_trans hb hg,rest⟩
def GoPost (R:Int × Nat × List PairT) (w:World) (e:Ending) (w':World):Prop :=
 (R.1=0 -> ∃ a c,e=.returned (.agg #[.slice a R.2.2.length c,.int .i64 (R.2.1:Int),.int .i64 0]) /\ w'.ownsRow w.heap.size 81 2 (.slice a R.2.2.length c) R.2.2.length (flatP R.2.2)) ∧
 (R.1 ≠ 0 -> e=.returned (.agg #[.slice none 0 0,.int .i64 0,.int .i64 R.1])) /\ Below w.heap.size w w'
structure GS (w:World) (g8 g12 g16 gz g17:Nat) (wd:Nat) (a:Option Addr) (n c:Nat) (over under:ByteArray) (cnt:Nat) (W:World):Prop where
 sz:w.heap.size=g8
 o1:g8 < g12
 o2:g12 < g16
 o3:g16 < gz
 o4:gz < g17
 bl:Below w.heap.size w W
 n8:W.heap[g8]?=some (.cells #[.int .i64 (wd:Int),.slice a n c] 31)
 n12:W.heap[g12]?=some (.cells #[.string over,.string under] 94)
 n16:W.heap[g16]?=some (.cells #[.slice none 0 0,.int .i64 0,.int .i64 0] 158)
 nz:W.heap[gz]?=some (.cells #[] 81)
 n17:W.heap[g17]?=some (.cells #[.slice (some ⟨gz,0,none⟩) 0 0,.int .i64 (cnt:Int),.int .i64 0] 158)
section
variable {w:World} {g8 g12 g16 gz g17:Nat} {wd:Nat} {a:Option Addr} {n c:Nat} {over under:ByteArray} {cnt:Nat} {W W':World}
theorem GS.lt (h:GS w g8 g12 g16 gz g17 wd a n c over under cnt W):g17 < W.heap.size:=(Array.getElem?_eq_some_iff.1 h.n17).1
theorem GS.below (h:GS w g8 g12 g16 gz g17 wd a n c over under cnt W) (hb:Below W.heap.size W W'):GS w g8 g12 g16 gz g17 wd a n c over under cnt W':=by
 have l:=h.lt
 have h1:=h.o1
 have h2:=h.o2
 have h3:=h.o3
 have h4:=h.o4
 exact ⟨h.sz,h1,h2,h3,h4,h.bl.trans (hb.mono h.bl.size),(hb.block _ (by omega)).trans h.n8,(hb.block _ (by omega)).trans h.n12,(hb.block _ (by omega)).trans h.n16,(hb.block _ (by omega)).trans h.nz,(hb.block _ (by omega)).trans h.n17⟩
theorem GS.mk0 (w:World) (wd:Nat) (a:Option Addr) (n c:Nat) (over under:ByteArray) (cnt:Nat):GS w w.heap.size (w.heap.size + 1) (w.heap.size + 1 + 1) (w.heap.size + 1 + 1 + 1) (w.heap.size + 1 + 1 + 1 + 1) wd a n c over under cnt
 (((((w.alloc (.cells #[.int .i64 (wd:Int),.slice a n c] 31)).alloc (.cells #[.string over,.string under] 94)).alloc (.cells #[.slice none 0 0,.int .i64 0,.int .i64 0] 158)).alloc (.cells #[] 81)).alloc (.cells #[.slice (some ⟨w.heap.size + 1 + 1 + 1,0,none⟩) 0 0,.int .i64 (cnt:Int),.int .i64 0] 158)):=by
 have e1:=heap_alloc_new w (.cells #[.int .i64 (wd:Int),.slice a n c] 31)
 have e2:=heap_alloc_new (w.alloc (.cells #[.int .i64 (wd:Int),.slice a n c] 31)) (.cells #[.string over,.string under] 94)
 have e3:=heap_alloc_new ((w.alloc (.cells #[.int .i64 (wd:Int),.slice a n c] 31)).alloc (.cells #[.string over,.string under] 94)) (.cells #[.slice none 0 0,.int .i64 0,.int .i64 0] 158)
 have e4:=heap_alloc_new (((w.alloc (.cells #[.int .i64 (wd:Int),.slice a n c] 31)).alloc (.cells #[.string over,.string under] 94)).alloc (.cells #[.slice none 0 0,.int .i64 0,.int .i64 0] 158)) (.cells #[] 81)
 have e5:=heap_alloc_new ((((w.alloc (.cells #[.int .i64 (wd:Int),.slice a n c] 31)).alloc (.cells #[.string over,.string under] 94)).alloc (.cells #[.slice none 0 0,.int .i64 0,.int .i64 0] 158)).alloc (.cells #[] 81)) (.cells #[.slice (some ⟨w.heap.size + 1 + 1 + 1,0,none⟩) 0 0,.int .i64 (cnt:Int),.int .i64 0] 158)
 simp only [World.size_alloc] at e1 e2 e3 e4 e5
 refine ⟨rfl,by omega,by omega,by omega,by omega,?_,?_,?_,?_,?_,e5⟩
 · exact (((((Below.refl _ _).alloc (Nat.le_refl _) _).alloc (by simp) _).alloc (by simp;omega) _).alloc (by simp;omega) _).alloc (by simp;omega) _
 · rw [Below.heap_alloc _ _ _ (by simp <;> omega),Below.heap_alloc _ _ _ (by simp <;> omega),Below.heap_alloc _ _ _ (by simp <;> omega),Below.heap_alloc _ _ _ (by simp)];exact e1
 · rw [Below.heap_alloc _ _ _ (by simp <;> omega),Below.heap_alloc _ _ _ (by simp <;> omega),Below.heap_alloc _ _ _ (by simp)];exact e2
 · rw [Below.heap_alloc _ _ _ (by simp <;> omega),Below.heap_alloc _ _ _ (by simp)];exact e3
 · rw [Below.heap_alloc _ _ _ (by simp)];exact e4
theorem GS.fin (h:GS w g8 g12 g16 gz g17 wd a n c over under cnt W) (v0 v1 v2:Value) :
 (((W.setCell ⟨g16,0,none⟩ v0).setCell ⟨g16,1,none⟩ v1).setCell ⟨g16,2,none⟩ v2).heap[g16]?=some (.cells #[v0,v1,v2] 158) /\ Below w.heap.size w (((W.setCell ⟨g16,0,none⟩ v0).setCell ⟨g16,1,none⟩ v1).setCell ⟨g16,2,none⟩ v2) /\ (∀ k,k ≠ g16 -> (((W.setCell ⟨g16,0,none⟩ v0).setCell ⟨g16,1,none⟩ v1).setCell ⟨g16,2,none⟩ v2).heap[k]?=W.heap[k]?):=by
 have hg:w.heap.size <= g16:=by have:=h.sz;have:=h.o1;have:=h.o2;omega
 refine ⟨heap_setCell_same _ g16 2 _ 158 _ (heap_setCell_same _ g16 1 _ 158 _ (heap_setCell_same _ g16 0 _ 158 _ h.n16)),((h.bl.setCell hg _).setCell hg _).setCell hg _,fun k hk=>?_⟩
 rw [Below.heap_setCell _ _ _ _ (by exact hk),Below.heap_setCell _ _ _ _ (by exact hk),Below.heap_setCell _ _ _ _ (by exact hk)]
end
theorem retG {W:World} {A:Act} {g16:Nat} {v0 v1 v2:Value} {R:Ending -> World -> Prop} (hp:A.tmps.getD 16 undef=.pointer (some ⟨g16,0,none⟩)) (hd:A.defers=[]) (h:W.heap[g16]?=some (.cells #[v0,v1,v2] 158)) (hR:R (.returned (.agg #[v0,v1,v2])) W):bodyPost prog Tryz.f105 R .ret A W:=by
 have q0:=ZC h 0
 have q1:=ZC h 1
 have q2:=ZC h 2
 refine bodyPost_ret (v:=.agg #[v0,v1,v2]) ?_ hd hR
 rw [results_cell W (fn:=Tryz.f105) (p:=16) (ty:=158) rfl A.tmps _ hp]
 exact run_loadVar_mid W g16 0 158 [v0,v1,v2] _ (fun j u hj=>by
  match j,hj with
  | 0,hj=>simpa using q0.trans (by simpa using hj)
  | 1,hj=>simpa using q1.trans (by simpa using hj)
  | 2,hj=>simpa using q2.trans (by simpa using hj)) Tryz.underlying158 rfl (by kernel_rfl)
theorem own2_nil {w:World} {base gz:Nat} (hb:base <= gz) (h:w.heap[gz]?=some (.cells #[] 81)):w.ownsRow base 81 2 (.slice (some ⟨gz,0,none⟩) 0 0) 0 [] :=
 ⟨rfl,.inr ⟨gz,0,#[],rfl,hb,h,by simp⟩⟩
theorem GS.skip {w:World} {g8 g12 g16 gz g17:Nat} {wd:Nat} {a:Option Addr} {n c:Nat} {over under:ByteArray} {cnt:Nat} {W:World} (h:GS w g8 g12 g16 gz g17 wd a n c over under cnt W) {A:Act} {R:Int × Nat × List PairT} (hR:R=(0,cnt,[])) (hp:A.tmps.getD 16 undef=.pointer (some ⟨g16,0,none⟩)) (hd:A.defers=[]) :
 bodyPost prog Tryz.f105 (GoPost R w) .ret A (((W.setCell ⟨g16,0,none⟩ (.slice (some ⟨gz,0,none⟩) 0 0)).setCell ⟨g16,1,none⟩ (.int .i64 (cnt:Int))).setCell ⟨g16,2,none⟩ (.int .i64 0)):=by
 obtain ⟨h1,h2,h3⟩:=h.fin (.slice (some ⟨gz,0,none⟩) 0 0) (.int .i64 (cnt:Int)) (.int .i64 0)
 subst hR
 have q1:=h.sz
 have q2:=h.o1
 have q3:=h.o2
 have q4:=h.o3
 refine retG hp hd h1 ⟨fun _=>⟨some ⟨gz,0,none⟩,0,rfl,own2_nil (by omega) ((h3 gz (by omega)).trans h.nz)⟩,fun hne=>absurd rfl hne,h2⟩
theorem GS.bad {w:World} {g8 g12 g16 gz g17:Nat} {wd:Nat} {a:Option Addr} {n c:Nat} {over under:ByteArray} {cnt:Nat} {W:World} (h:GS w g8 g12 g16 gz g17 wd a n c over under cnt W) {A:Act} {R:Int × Nat × List PairT} (i:Int) (hR:R.1=i) (hi:i ≠ 0) (hp:A.tmps.getD 16 undef=.pointer (some ⟨g16,0,none⟩)) (hd:A.defers=[]) :
 bodyPost prog Tryz.f105 (GoPost R w) .ret A (((W.setCell ⟨g16,0,none⟩ (.slice none 0 0)).setCell ⟨g16,1,none⟩ (.int .i64 0)).setCell ⟨g16,2,none⟩ (.int .i64 i)):=by
 obtain ⟨h1,h2,h3⟩:=h.fin (.slice none 0 0) (.int .i64 0) (.int .i64 i)
 exact retG hp hd h1 ⟨fun h0=>absurd (hR.symm.trans h0) hi,fun _=>by rw [hR],h2⟩
end Go.Proofs.YtibjhkpgaaapaaaGreatDoor
