import Derived.Test.YtibjhkpgaaapaaaGreatDoorZhah
import Derived.Test.YtibjhkpgaaapaaaGreatDoorZhae
import Derived.Test.YtibjhkpgaaapaaaGreatDoorZhaa
import Derived.LaidEql
import Derived.Test.YtibjhkpgaaapaaaGreatDoorZhad
set_option maxRecDepth 100000
set_option maxHeartbeats 2000000
namespace Go.Proofs.YtibjhkpgaaapaaaGreatDoor
open Go.RowKit Go.Proofs.Sha Tryz
theorem size33:(prog.info? 249).map (·.size)=some 33:=by kernel_rfl
theorem info5':(prog.info? 5).map (fun i=>(i.zero,i.size,i.bytes))=some (some (.int .u8 0),1,1):=by kernel_rfl
def zerosR:List Value:=(List.replicate 32 (0:UInt8)).map B ++ [Value.string ⟨#[]⟩]
theorem allocR (w:World):(Instr.alloc 249 true (.tuple #[])).run prog w=.ok (.pointer (some ⟨w.heap.size,0,none⟩)) (w.alloc (.cells zerosR.toArray 249)):=by kernel_rfl
theorem built32 (x0 x1 x2 x3 x4 x5 x6 x7 x8 x9 x10 x11 x12 x13 x14 x15 x16 x17 x18 x19 x20 x21 x22 x23 x24 x25 x26 x27 x28 x29 x30 x31:UInt8) (s:ByteArray):prog.built 249 [(0,.agg ([x0,x1,x2,x3,x4,x5,x6,x7,x8,x9,x10,x11,x12,x13,x14,x15,x16,x17,x18,x19,x20,x21,x22,x23,x24,x25,x26,x27,x28,x29,x30,x31].map B).toArray),(1,.string s)]=some (([x0,x1,x2,x3,x4,x5,x6,x7,x8,x9,x10,x11,x12,x13,x14,x15,x16,x17,x18,x19,x20,x21,x22,x23,x24,x25,x26,x27,x28,x29,x30,x31].map B ++ [Value.string s]).toArray):=by kernel_rfl
theorem built_rank (X:List UInt8) (h:X.length=32) (s:ByteArray):prog.built 249 [(0,.agg (X.map B).toArray),(1,.string s)]=some ((X.map B ++ [Value.string s]).toArray):=by
 match X,h with
 | [x0,x1,x2,x3,x4,x5,x6,x7,x8,x9,x10,x11,x12,x13,x14,x15,x16,x17,x18,x19,x20,x21,x22,x23,x24,x25,x26,x27,x28,x29,x30,x31],_=>exact built32 x0 x1 x2 x3 x4 x5 x6 x7 x8 x9 x10 x11 x12 x13 x14 x15 x16 x17 x18 x19 x20 x21 x22 x23 x24 x25 x26 x27 x28 x29 x30 x31 s
theorem rank_any (s:ByteArray) (w:World) (hs:s.size <= 1048576)
 (hK:∀ j,j < 64 -> w.cell? ⟨0,j,none⟩=some (.int .u32 ((kTab.getD j 0).toNat:Int))) :
 Calls prog 166 #[Value.string s] w fun e w'=>e=.returned (.agg ((sha s.data.toList).map B ++ [Value.string s]).toArray) /\ Below w.heap.size w w':=by
 have hl0:0 < w.heap.size:=World.block_lt_of_cell? w _ (hK 0 (by omega))
 have HH:Hid (∀ w':World,Below w.heap.size w w' -> Calls prog 183 #[Value.string s] w' fun e w''=>e=.returned (.agg ((sha s.data.toList).map B).toArray) /\ Below w'.heap.size w' w''):=fun w' hb=>hash_any s w' hs (fun j hj=>(hb.cell (by exact hl0)).trans (hK j hj))
 clear hK
 have hln:(sha s.data.toList).length=32:=by unfold sha;rw [outTo_length]
 obtain ⟨M,hM⟩:∃ M,sha s.data.toList=M:=⟨_,rfl⟩
 have HM:Hid (sha s.data.toList=M):=hM
 rw [hM] at HH hln
 clear hM
 have h1c:∀ v ∈ M.map B ++ [Value.string s],v.oneCell'=true:=by
  intro v hv
  rcases List.mem_append.1 hv with hv | hv
  · obtain ⟨x,_,rfl⟩:=List.mem_map.1 hv
    rfl
  · rw [List.mem_singleton] at hv;subst hv;rfl
 have hl33:(M.map B ++ [Value.string s]).length=33:=by rw [List.length_append,List.length_map,hln];rfl
 have HB:=built_rank M hln s
 obtain ⟨L,hL⟩:∃ L,M.map B ++ [Value.string s]=L:=⟨_,rfl⟩
 have HL:Hid (M.map B ++ [Value.string s]=L):=hL
 rw [hL] at h1c hl33 HB
 obtain ⟨C,hC⟩:∃ C,(M.map B).toArray=C:=⟨_,rfl⟩
 rw [hC] at HB HH
 have HB':Hid (prog.built 249 [(0,.agg C),(1,.string s)]=some L.toArray):=HB
 clear hL hC HB
 go_enter func166,ntmps166
 go_wp2_with (first | (refine wpList_alloc_row _ rfl (some 2) rfl 249 249 rfl zerosR allocR ?_;intro g2 w2 hr2 hb2) | (go_at_call 183;refine (HH.out _ hb2).mono ?_;rintro e w3 ⟨rfl,hb3⟩) | (refine wpList_build_to _ rfl 249 #[(0,.tmp 4),(1,.tmp 5)] rfl L.toArray HB'.out ?_) | (refine wpList_store_whole _ rfl rfl 249 (.tmp 2) (.tmp 6) rfl w.heap.size g2 33 zerosR L rfl rfl (hr2.below hb3) hl33 size33 h1c ?_;intro w5 hR5 hg5))
 refine ret_any _ (p:=2) (ty:=249) rfl w.heap.size g2 33 33 L rfl hR5 Tryz.underlying249 rfl size33 rfl ?_
 refine ⟨?_,?_⟩
 · rw [HM.out,HL.out]
 · exact (hb2.trans (hb3.mono hb2.size)).trans (below_of_grown hg5 (by have:=hr2.ge;omega) (by have:=hb2.size;have:=hb3.size;omega))
def rk (X Y a b:List UInt8):Bool:=if X=Y then Op.bytesLess a b else Op.bytesLess Y X
theorem cell_last {w:World} {base g n cap:Nat} {xs:List Value} {v:Value} {m:Nat} (h:Row w base g n cap (xs ++ [v])) (hm:xs.length=m):w.cell? ⟨g,m,none⟩=some v:=by
 subst hm
 have hn:=h.len
 rw [List.length_append] at hn
 rw [h.cell _ (by simp at hn;omega),List.getElem?_append_right (Nat.le_refl _),Nat.sub_self];rfl
theorem above_any (X Y:List UInt8) (hX:X.length=32) (hY:Y.length=32) (a b:ByteArray) (w:World) :
 Calls prog 164 #[.agg (X.map B ++ [Value.string a]).toArray,.agg (Y.map B ++ [Value.string b]).toArray] w fun e w'=>e=.returned (.bool (rk X Y a.data.toList b.data.toList)) /\ Below w.heap.size w w':=by
 obtain ⟨i0,hi0,hz0,hz1,hz2⟩:=info_parts info5'
 obtain ⟨LX,hLX⟩:∃ L,X.map B ++ [Value.string a]=L:=⟨_,rfl⟩
 obtain ⟨LY,hLY⟩:∃ L,Y.map B ++ [Value.string b]=L:=⟨_,rfl⟩
 have HLX:Hid (X.map B ++ [Value.string a]=LX):=hLX
 have HLY:Hid (Y.map B ++ [Value.string b]=LY):=hLY
 have l1:LX.length=33:=by rw [<- hLX,List.length_append,List.length_map,hX];rfl
 have l2:LY.length=33:=by rw [<- hLY,List.length_append,List.length_map,hY];rfl
 rw [hLX,hLY]
 have HL12:Hid (LX.length=33 /\ LY.length=33):=⟨l1,l2⟩
 clear hLX hLY l1 l2
 have hsz:(prog.info? 247).map (·.size)=some (X.map B).length:=by rw [size32,List.length_map,hX]
 have hsz2:(prog.info? 247).map (·.size)=some (Y.map B).length:=by rw [size32,List.length_map,hY]
 have HSZ:Hid ((prog.info? 247).map (·.size)=some (X.map B).length /\ (prog.info? 247).map (·.size)=some (Y.map B).length):=⟨hsz,hsz2⟩
 clear hsz hsz2
 by_cases hXY:X=Y
 · have HD:Hid (decide (X=Y)=true):=decide_eq_true hXY
   have HR:Hid (rk X Y a.data.toList b.data.toList=Op.bytesLess a.data.toList b.data.toList):=if_pos hXY
   clear hXY
   go_enter func164,ntmps164
   go_wp2_with (first | (refine wpList_box_row _ rfl (some 2) rfl 249 (.tmp 0) rfl LX rfl ?_;intro g2 w2 hr2 hb2) | (refine wpList_box_row _ rfl (some 3) rfl 249 (.tmp 1) rfl LY rfl ?_;intro g3 w3 hr3 hb3;have hR2:Row w3 w.heap.size g2 33 33 (X.map B ++ [Value.string a]):=(by rw [HLX.out];have:=hr2.below hb3;rw [HL12.out.1] at this;exact this);have hR3:Row w3 w2.heap.size g3 33 33 (Y.map B ++ [Value.string b]):=(by rw [HLY.out];have:=hr3;rw [HL12.out.2] at this;exact this);have cA:w3.cell? ⟨g2,32,none⟩=some (.string a):=cell_last hR2 (by rw [List.length_map,hX]);have cB:w3.cell? ⟨g3,32,none⟩=some (.string b):=cell_last hR3 (by rw [List.length_map,hY])) | (refine wpList_load_mid rfl 247 (.tmp 5) rfl g2 0 rfl (X.map B) _ (Row.prefix hR2) Tryz.underlying247 rfl HSZ.out.1 ?_) | (refine wpList_load_mid rfl 247 (.tmp 7) rfl g3 0 rfl (Y.map B) _ (Row.prefix hR3) Tryz.underlying247 rfl HSZ.out.2 ?_) | (refine wpList_eql_b _ rfl 247 247 (.tmp 6) (.tmp 8) rfl X Y 32 5 i0 rfl rfl Tryz.underlying247 Tryz.underlying5 hi0 cells5 hX hY (guard28 _ _ _ _ _) ?_;rw [HD.out]) | (refine wpList_load_mid rfl 247 (.tmp 15) rfl g2 0 rfl (X.map B) _ (Row.prefix hR2) Tryz.underlying247 rfl HSZ.out.1 ?_) | (refine wpList_load_mid rfl 247 (.tmp 17) rfl g3 0 rfl (Y.map B) _ (Row.prefix hR3) Tryz.underlying247 rfl HSZ.out.2 ?_) | fail)
   go_ret
   exact ⟨by rw [HR.out,<- ByteArray.toList_eq,<- ByteArray.toList_eq];rfl,hb2.trans (hb3.mono hb2.size)⟩
 · have HD:Hid (decide (X=Y)=false):=decide_eq_false hXY
   have HR:Hid (rk X Y a.data.toList b.data.toList=Op.bytesLess Y X):=if_neg hXY
   clear hXY
   go_enter func164,ntmps164
   go_wp2_with (first | (refine wpList_box_row _ rfl (some 2) rfl 249 (.tmp 0) rfl LX rfl ?_;intro g2 w2 hr2 hb2) | (refine wpList_box_row _ rfl (some 3) rfl 249 (.tmp 1) rfl LY rfl ?_;intro g3 w3 hr3 hb3;have hR2:Row w3 w.heap.size g2 33 33 (X.map B ++ [Value.string a]):=(by rw [HLX.out];have:=hr2.below hb3;rw [HL12.out.1] at this;exact this);have hR3:Row w3 w2.heap.size g3 33 33 (Y.map B ++ [Value.string b]):=(by rw [HLY.out];have:=hr3;rw [HL12.out.2] at this;exact this);have cA:w3.cell? ⟨g2,32,none⟩=some (.string a):=cell_last hR2 (by rw [List.length_map,hX]);have cB:w3.cell? ⟨g3,32,none⟩=some (.string b):=cell_last hR3 (by rw [List.length_map,hY])) | (refine wpList_load_mid rfl 247 (.tmp 5) rfl g2 0 rfl (X.map B) _ (Row.prefix hR2) Tryz.underlying247 rfl HSZ.out.1 ?_) | (refine wpList_load_mid rfl 247 (.tmp 7) rfl g3 0 rfl (Y.map B) _ (Row.prefix hR3) Tryz.underlying247 rfl HSZ.out.2 ?_) | (refine wpList_eql_b _ rfl 247 247 (.tmp 6) (.tmp 8) rfl X Y 32 5 i0 rfl rfl Tryz.underlying247 Tryz.underlying5 hi0 cells5 hX hY (guard28 _ _ _ _ _) ?_;rw [HD.out]) | (refine wpList_load_mid rfl 247 (.tmp 15) rfl g2 0 rfl (X.map B) _ (Row.prefix hR2) Tryz.underlying247 rfl HSZ.out.1 ?_) | (refine wpList_load_mid rfl 247 (.tmp 17) rfl g3 0 rfl (Y.map B) _ (Row.prefix hR3) Tryz.underlying247 rfl HSZ.out.2 ?_) | fail)
   refine (greater_any X Y hX hY _).mono ?_
   rintro e w4 ⟨rfl,hb4⟩
   go_wp2
   go_ret
   exact ⟨by rw [HR.out];rfl,(hb2.trans (hb3.mono hb2.size)).trans (hb4.mono (by have:=hb2.size;have:=hb3.size;omega))⟩
def rkL (k:ByteArray):List Value:=(sha k.data.toList).map B ++ [Value.string k]
theorem rkL_len (k:ByteArray):(rkL k).length=33:=by unfold rkL;rw [List.length_append,List.length_map];unfold sha;rw [outTo_length];rfl
theorem rkL_last (k:ByteArray):(rkL k)[32]?=some (.string k):=by
 unfold rkL
 have:((sha k.data.toList).map B).length=32:=by rw [List.length_map];unfold sha;rw [outTo_length]
 rw [List.getElem?_append_right (by omega),this];rfl
def RKb (g:Nat) (k:ByteArray) (w:World):Prop:=w.heap[g]?=some (.cells (rkL k).toArray 249)
theorem RKb.c32 {g:Nat} {k:ByteArray} {w:World} (h:RKb g k w):w.cell? ⟨g,32,none⟩=some (.string k):=(ZC h 32).trans (by simpa using rkL_last k)
theorem RKb.range {g:Nat} {k:ByteArray} {w:World} (h:RKb g k w):w.rangeAt g 0 (rkL k):=fun j u hj=>(ZC h (0 + j)).trans (by simpa using hj)
theorem leftOf_any (over under key:ByteArray) (par:Option Addr) (w:World):Calls prog 172 #[.agg #[.string over,.string under,.pointer par],.agg (rkL key).toArray] w fun e w'=>(∃ g,e=.returned (.agg #[.string over,.string key,.pointer (some ⟨g,0,none⟩)]) /\ w.heap.size <= g /\ RKb g key w') /\ Below w.heap.size w w':=by
 obtain ⟨W,hW⟩:∃ W,(w.alloc (.cells #[.string over,.string under,.pointer par] 144)).alloc (.cells (rkL key).toArray 249)=W:=⟨_,rfl⟩
 have hb:Below w.heap.size w W:=by rw [<- hW];exact ((Below.refl _ _).alloc (Nat.le_refl _) _).alloc (by simp) _
 have n0:W.heap[w.heap.size]?=some (.cells #[.string over,.string under,.pointer par] 144):=by rw [<- hW,Below.heap_alloc _ _ _ (by simp)];exact heap_alloc_new w _
 have n1:W.heap[w.heap.size + 1]?=some (.cells (rkL key).toArray 249):=by
  have:=heap_alloc_new (w.alloc (.cells #[.string over,.string under,.pointer par] 144)) (.cells (rkL key).toArray 249)
  rw [<- hW];simpa using this
 have hsz:W.heap.size=w.heap.size + 1 + 1:=by rw [<- hW];simp
 have ca:W.cell? ⟨w.heap.size,0,none⟩=some (.string over):=ZC n0 0
 have cb:W.cell? ⟨w.heap.size + 1,32,none⟩=some (.string key):=RKb.c32 n1
 have hbz:Below w.heap.size w (W.alloc (.cells #[.string over,.string key,.pointer (some ⟨w.heap.size + 1,0,none⟩)] 144)):=hb.alloc hb.size _
 have nz:RKb (w.heap.size + 1) key (W.alloc (.cells #[.string over,.string key,.pointer (some ⟨w.heap.size + 1,0,none⟩)] 144)):=(Below.heap_alloc W _ _ (by omega)).trans n1
 have nR:=heap_alloc_new W (.cells #[.string over,.string key,.pointer (some ⟨w.heap.size + 1,0,none⟩)] 144)
 rw [hsz] at nR
 generalize (rkL key).toArray=cs at hW n1
 obtain ⟨ga,hga⟩:∃ ga,w.heap.size=ga:=⟨_,rfl⟩
 go_enter func172,ntmps172
 rw [hga] at ca cb hsz hbz nz nR
 have q0:=ZC nR 0
 have q1:=ZC nR 1
 have q2:=ZC nR 2
 go_wp2_with fail
 exact bodyPost_ret (v:=.agg #[.string over,.string key,.pointer (some ⟨ga + 1,0,none⟩)]) (by simp [results,Tryz.results172,go_sem,q0,q1,q2]) rfl ⟨⟨ga + 1,rfl,by omega,nz⟩,by rw [hga];exact hbz⟩
theorem rightOf_any (over under key:ByteArray) (par:Option Addr) (w:World):Calls prog 173 #[.agg #[.string over,.string under,.pointer par],.agg (rkL key).toArray] w fun e w'=>(∃ g,e=.returned (.agg #[.string key,.string under,.pointer (some ⟨g,0,none⟩)]) /\ w.heap.size <= g /\ RKb g key w') /\ Below w.heap.size w w':=by
 obtain ⟨W,hW⟩:∃ W,(w.alloc (.cells #[.string over,.string under,.pointer par] 144)).alloc (.cells (rkL key).toArray 249)=W:=⟨_,rfl⟩
 have hb:Below w.heap.size w W:=by rw [<- hW];exact ((Below.refl _ _).alloc (Nat.le_refl _) _).alloc (by simp) _
 have n0:W.heap[w.heap.size]?=some (.cells #[.string over,.string under,.pointer par] 144):=by rw [<- hW,Below.heap_alloc _ _ _ (by simp)];exact heap_alloc_new w _
 have n1:W.heap[w.heap.size + 1]?=some (.cells (rkL key).toArray 249):=by
  have:=heap_alloc_new (w.alloc (.cells #[.string over,.string under,.pointer par] 144)) (.cells (rkL key).toArray 249)
  rw [<- hW];simpa using this
 have hsz:W.heap.size=w.heap.size + 1 + 1:=by rw [<- hW];simp
 have ca:W.cell? ⟨w.heap.size,1,none⟩=some (.string under):=ZC n0 1
 have cb:W.cell? ⟨w.heap.size + 1,32,none⟩=some (.string key):=RKb.c32 n1
 have hbz:Below w.heap.size w (W.alloc (.cells #[.string key,.string under,.pointer (some ⟨w.heap.size + 1,0,none⟩)] 144)):=hb.alloc hb.size _
 have nz:RKb (w.heap.size + 1) key (W.alloc (.cells #[.string key,.string under,.pointer (some ⟨w.heap.size + 1,0,none⟩)] 144)):=(Below.heap_alloc W _ _ (by omega)).trans n1
 have nR:=heap_alloc_new W (.cells #[.string key,.string under,.pointer (some ⟨w.heap.size + 1,0,none⟩)] 144)
 rw [hsz] at nR
 generalize (rkL key).toArray=cs at hW n1
 obtain ⟨ga,hga⟩:∃ ga,w.heap.size=ga:=⟨_,rfl⟩
 go_enter func173,ntmps173
 rw [hga] at ca cb hsz hbz nz nR
 have q0:=ZC nR 0
 have q1:=ZC nR 1
 have q2:=ZC nR 2
 go_wp2_with fail
 exact bodyPost_ret (v:=.agg #[.string key,.string under,.pointer (some ⟨ga + 1,0,none⟩)]) (by simp [results,Tryz.results173,go_sem,q0,q1,q2]) rfl ⟨⟨ga + 1,rfl,by omega,nz⟩,by rw [hga];exact hbz⟩
theorem lessB_tri (a b:ByteArray):lessB a b = !(lessB b a || (b.toList == a.toList)):=less_tri _ _
theorem canW_eq (over under lo hi:ByteArray):canW over under lo hi=(if (!hi.toList.isEmpty && ((Op.bytesLess hi.toList lo.toList || (hi.toList == lo.toList)) || (Op.bytesLess hi.toList over.toList || (hi.toList == over.toList))))=true then false else (under.toList.isEmpty || (!Op.bytesLess under.toList lo.toList && !(under.toList == lo.toList)))):=by
 unfold canW
 rw [lessB_tri lo hi,lessB_tri over hi,lessB_tri lo under,emp_iff,emp_iff]
 unfold lessB
 cases emp hi <;> cases emp under <;> cases Op.bytesLess hi.toList lo.toList <;> cases (hi.toList == lo.toList) <;> cases Op.bytesLess hi.toList over.toList <;> cases (hi.toList == over.toList) <;> simp
theorem hasW_eq (lo hi key:ByteArray):hasW lo hi key=((Op.bytesLess lo.toList key.toList || (lo.toList == key.toList)) && (hi.toList.isEmpty || Op.bytesLess key.toList hi.toList)):=by
 unfold hasW
 rw [lessB_tri key lo,emp_iff]
 unfold lessB
 simp
theorem can_any (lo hi over under:ByteArray) (par:Option Addr) (w:World):Calls prog 142 #[.agg #[.string lo,.string hi],.agg #[.string over,.string under,.pointer par]] w fun e w'=>e=.returned (.bool (canW over under lo hi)) /\ Below w.heap.size w w':=by
 have hb:Below w.heap.size w ((w.alloc (.cells #[.string lo,.string hi] 75)).alloc (.cells #[.string over,.string under,.pointer par] 144)):=((Below.refl _ _).alloc (Nat.le_refl _) _).alloc (by simp) _
 have HR:=canW_eq over under lo hi
 cases h1:hi.toList.isEmpty with
 | false =>
  cases a1:Op.bytesLess hi.toList lo.toList with
  | false =>
   cases a2:(hi.toList == lo.toList) with
   | false =>
    cases a3:Op.bytesLess hi.toList over.toList with
    | false =>
     cases a4:(hi.toList == over.toList) with
     | false =>
      cases h2:under.toList.isEmpty with
      | false =>
       rw [h1,a1,a2,a3,a4,h2] at HR
       have HR2:Hid _:=HR
       clear HR
       go_enter func142,ntmps142
       go_wp2_with fail
       go_ret
       exact ⟨by rw [HR2.out];rfl,hb⟩
      | true =>
       rw [h1,a1,a2,a3,a4,h2] at HR
       have HR2:Hid _:=HR
       clear HR
       go_enter func142,ntmps142
       go_wp2_with fail
       go_ret
       exact ⟨by rw [HR2.out];rfl,hb⟩
     | true =>
      rw [h1,a1,a2,a3,a4] at HR
      have HR2:Hid _:=HR
      clear HR
      go_enter func142,ntmps142
      go_wp2_with fail
      go_ret
      exact ⟨by rw [HR2.out];rfl,hb⟩
    | true =>
     rw [h1,a1,a2,a3] at HR
     have HR2:Hid _:=HR
     clear HR
     go_enter func142,ntmps142
     go_wp2_with fail
     go_ret
     exact ⟨by rw [HR2.out];rfl,hb⟩
   | true =>
    rw [h1,a1,a2] at HR
    have HR2:Hid _:=HR
    clear HR
    go_enter func142,ntmps142
    go_wp2_with fail
    go_ret
    exact ⟨by rw [HR2.out];rfl,hb⟩
  | true =>
   rw [h1,a1] at HR
   have HR2:Hid _:=HR
   clear HR
   go_enter func142,ntmps142
   go_wp2_with fail
   go_ret
   exact ⟨by rw [HR2.out];rfl,hb⟩
 | true =>
  cases h2:under.toList.isEmpty with
  | false =>
   rw [h1,h2] at HR
   have HR2:Hid _:=HR
   clear HR
   go_enter func142,ntmps142
   go_wp2_with fail
   go_ret
   exact ⟨by rw [HR2.out];rfl,hb⟩
  | true =>
   rw [h1,h2] at HR
   have HR2:Hid _:=HR
   clear HR
   go_enter func142,ntmps142
   go_wp2_with fail
   go_ret
   exact ⟨by rw [HR2.out];rfl,hb⟩
theorem has_any (lo hi key:ByteArray) (w:World):Calls prog 101 #[.agg #[.string lo,.string hi],.string key] w fun e w'=>e=.returned (.bool (hasW lo hi key)) /\ Below w.heap.size w w':=by
 have hb:Below w.heap.size w (w.alloc (.cells #[.string lo,.string hi] 75)):=(Below.refl _ _).alloc (Nat.le_refl _) _
 have HR:=hasW_eq lo hi key
 cases a1:Op.bytesLess lo.toList key.toList with
 | false =>
  cases a2:(lo.toList == key.toList) with
  | false =>
   rw [a1,a2] at HR
   have HR2:Hid _:=HR
   clear HR
   go_enter func101,ntmps101
   go_wp2_with fail
   go_ret
   exact ⟨by rw [HR2.out];rfl,hb⟩
  | true =>
   cases h1:hi.toList.isEmpty with
   | false =>
    rw [a1,a2,h1] at HR
    have HR2:Hid _:=HR
    clear HR
    go_enter func101,ntmps101
    go_wp2_with fail
    go_ret
    exact ⟨by rw [HR2.out];rfl,hb⟩
   | true =>
    rw [a1,a2,h1] at HR
    have HR2:Hid _:=HR
    clear HR
    go_enter func101,ntmps101
    go_wp2_with fail
    go_ret
    exact ⟨by rw [HR2.out];rfl,hb⟩
 | true =>
  cases h1:hi.toList.isEmpty with
  | false =>
   rw [a1,h1] at HR
   have HR2:Hid _:=HR
   clear HR
   go_enter func101,ntmps101
   go_wp2_with fail
   go_ret
   exact ⟨by rw [HR2.out];rfl,hb⟩
  | true =>
   rw [a1,h1] at HR
   have HR2:Hid _:=HR
   clear HR
   go_enter func101,ntmps101
   go_wp2_with fail
   go_ret
   exact ⟨by rw [HR2.out];rfl,hb⟩
end Go.Proofs.YtibjhkpgaaapaaaGreatDoor
namespace Go.Proofs.Sha
open Go Go.RowKit
theorem run_equalIn_ptr {P:Program} (d:Nat) (t te:TypeId) (j:TypeInfo) (hu:P.underlying t=some (.pointer te)) (hj:P.info? te=some j) (hz:j.size ≠ 0) (a b:Option Addr) (w:World)
 (ha:a=none \/ ∃ (x:Nat) (cs:Array Value) (u:TypeId),a=some ⟨x,0,none⟩ /\ w.heap[x]?=some (.cells cs u (0,0))) (hb:b=none \/ ∃ (x:Nat) (cs:Array Value) (u:TypeId),b=some ⟨x,0,none⟩ /\ w.heap[x]?=some (.cells cs u (0,0))) :
 (Op.equalIn (d + 1) t (.pointer a) (.pointer b)).run P w=.ok (decide (a=b)) w:=by
 rcases ha with rfl | ⟨x,cs,u,rfl,hx⟩ <;> rcases hb with rfl | ⟨y,ds,v,rfl,hy⟩
 · simp [Op.equalIn,run_underlying hu]
 · simp [Op.equalIn,run_underlying hu]
 · simp [Op.equalIn,run_underlying hu]
 · by_cases e:x=y
   · subst e
     simp [Op.equalIn,run_underlying hu,sizeOf,typeInfo,hj,run_sameAddr_same]
   · have hne:(⟨x,0,none⟩:Addr) ≠ ⟨y,0,none⟩:=fun q=>e (congrArg Addr.block q)
     simp [Op.equalIn,run_underlying hu,sizeOf,typeInfo,hj,hz,run_sameAddr_other w hne hx hy]
theorem run_eql_ptr {P:Program} (t te:TypeId) (j:TypeInfo) (hu:P.underlying t=some (.pointer te)) (hj:P.info? te=some j) (hz:j.size ≠ 0) (a b:Option Addr) (w:World)
 (ha:a=none \/ ∃ (x:Nat) (cs:Array Value) (u:TypeId),a=some ⟨x,0,none⟩ /\ w.heap[x]?=some (.cells cs u (0,0))) (hb:b=none \/ ∃ (x:Nat) (cs:Array Value) (u:TypeId),b=some ⟨x,0,none⟩ /\ w.heap[x]?=some (.cells cs u (0,0))) :
 (binOp .eql t (.pointer a) (.pointer b)).run P w=.ok (.bool (decide (a=b))) w:=by
 have key:(Op.equal t (.pointer a) (.pointer b)).run P w=.ok (decide (a=b)) w:=run_equalIn_ptr 9999 t te j hu hj hz a b w ha hb
 simp only [binOp]
 simp [key]
end Go.Proofs.Sha
namespace Go.Proofs.YtibjhkpgaaapaaaGreatDoor
open Go.RowKit Go.Proofs.Sha Tryz
def Ptr (p:Option Addr) (w:World):Prop:=p=none \/ ∃ (x:Nat) (cs:Array Value) (u:TypeId),p=some ⟨x,0,none⟩ /\ w.heap[x]?=some (.cells cs u (0,0))
theorem size125:(prog.info? 249).map (·.size)=some 33:=by kernel_rfl
theorem size75:(prog.info? 225).map (·.size)=some 10:=by kernel_rfl
theorem ptr_eqlR (a b:Option Addr) (w:World) (ha:Ptr a w) (hb:Ptr b w):(binOp .eql 142 (.pointer a) (.pointer b)).run prog w=.ok (.bool (decide (a=b))) w:=by
 obtain ⟨j,h1,h2⟩:=Option.map_eq_some_iff.1 size125
 exact run_eql_ptr 142 249 j Tryz.underlying142 h1 (by rw [h2];decide) a b w ha hb
theorem ptr_eqlB (a b:Option Addr) (w:World) (ha:Ptr a w) (hb:Ptr b w):(binOp .eql 166 (.pointer a) (.pointer b)).run prog w=.ok (.bool (decide (a=b))) w:=by
 obtain ⟨j,h1,h2⟩:=Option.map_eq_some_iff.1 size75
 exact run_eql_ptr 166 225 j Tryz.underlying166 h1 (by rw [h2];decide) a b w ha hb
def hgW (a b:ByteArray):Bool:=rk (sha a.data.toList) (sha b.data.toList) a.data.toList b.data.toList
def ParAt (par:Option Addr) (pk:ByteArray) (w:World):Prop:=(par=none /\ emp pk=true) \/ (emp pk=false /\ ∃ g,par=some ⟨g,0,none⟩ /\ RKb g pk w)
theorem fits_no (over under key:ByteArray) (par:Option Addr) (w:World) (h:insW over under key=false):Calls prog 171 #[.agg #[.string over,.string under,.pointer par],.agg (rkL key).toArray] w fun e w'=>e=.returned (.bool false) /\ Below w.heap.size w w':=by
 obtain ⟨W,hW⟩:∃ W,(w.alloc (.cells #[.string over,.string under,.pointer par] 144)).alloc (.cells (rkL key).toArray 249)=W:=⟨_,rfl⟩
 have hb:Below w.heap.size w W:=by rw [<- hW];exact ((Below.refl _ _).alloc (Nat.le_refl _) _).alloc (by simp) _
 have n0:W.heap[w.heap.size]?=some (.cells #[.string over,.string under,.pointer par] 144):=by rw [<- hW,Below.heap_alloc _ _ _ (by simp)];exact heap_alloc_new w _
 have n1:W.heap[w.heap.size + 1]?=some (.cells (rkL key).toArray 249):=by
  have:=heap_alloc_new (w.alloc (.cells #[.string over,.string under,.pointer par] 144)) (.cells (rkL key).toArray 249)
  rw [<- hW];simpa using this
 have ca:W.cell? ⟨w.heap.size,0,none⟩=some (.string over):=ZC n0 0
 have cc:W.cell? ⟨w.heap.size,1,none⟩=some (.string under):=ZC n0 1
 have cb:W.cell? ⟨w.heap.size + 1,32,none⟩=some (.string key):=RKb.c32 n1
 generalize (rkL key).toArray=cs at hW n1
 obtain ⟨ga,hga⟩:∃ ga,w.heap.size=ga:=⟨_,rfl⟩
 rw [hga] at ca cb cc
 cases a1:Op.bytesLess key.toList over.toList with
 | true =>
  go_enter func171,ntmps171
  go_wp2_with fail
  go_ret
  exact ⟨rfl,by rw [hga] at hb ⊢;exact hb⟩
 | false =>
  cases a2:(key.toList == over.toList) with
  | true =>
   go_enter func171,ntmps171
   go_wp2_with fail
   go_ret
   exact ⟨rfl,by rw [hga] at hb ⊢;exact hb⟩
  | false =>
   have hin:(emp under || lessB key under)=false:=by
    unfold insW at h
    rw [lessB_tri over key] at h
    have:lessB key over=false:=a1
    rw [this,a2] at h
    simpa using h
   rw [Bool.or_eq_false_iff] at hin
   have e2:=emp_iff under
   rw [hin.1] at e2
   have a3:Op.bytesLess key.toList under.toList=false:=hin.2
   go_enter func171,ntmps171
   go_wp2_with fail
   go_ret
   exact ⟨rfl,by rw [hga] at hb ⊢;exact hb⟩
theorem ins_yes {over under key:ByteArray} (h:insW over under key=true):Op.bytesLess key.toList over.toList=false /\ (key.toList == over.toList)=false /\ (under.toList.isEmpty=true \/ (under.toList.isEmpty=false /\ Op.bytesLess key.toList under.toList=true)):=by
 unfold insW at h
 rw [Bool.and_eq_true,lessB_tri over key] at h
 obtain ⟨h1,h2⟩:=h
 have h1':(lessB key over || (key.toList == over.toList))=false:=by simpa using h1
 rw [Bool.or_eq_false_iff] at h1'
 refine ⟨h1'.1,h1'.2,?_⟩
 rw [emp_iff]
 cases hu:emp under with
 | true=>exact .inl rfl
 | false=>rw [hu,Bool.false_or] at h2;exact .inr ⟨rfl,h2⟩
theorem fits_top (over under key:ByteArray) (w:World) (h:insW over under key=true):Calls prog 171 #[.agg #[.string over,.string under,.pointer none],.agg (rkL key).toArray] w fun e w'=>e=.returned (.bool true) /\ Below w.heap.size w w':=by
 obtain ⟨W,hW⟩:∃ W,(w.alloc (.cells #[.string over,.string under,.pointer none] 144)).alloc (.cells (rkL key).toArray 249)=W:=⟨_,rfl⟩
 have hb:Below w.heap.size w W:=by rw [<- hW];exact ((Below.refl _ _).alloc (Nat.le_refl _) _).alloc (by simp) _
 have n0:W.heap[w.heap.size]?=some (.cells #[.string over,.string under,.pointer none] 144):=by rw [<- hW,Below.heap_alloc _ _ _ (by simp)];exact heap_alloc_new w _
 have n1:W.heap[w.heap.size + 1]?=some (.cells (rkL key).toArray 249):=by
  have:=heap_alloc_new (w.alloc (.cells #[.string over,.string under,.pointer none] 144)) (.cells (rkL key).toArray 249)
  rw [<- hW];simpa using this
 have ca:W.cell? ⟨w.heap.size,0,none⟩=some (.string over):=ZC n0 0
 have cc:W.cell? ⟨w.heap.size,1,none⟩=some (.string under):=ZC n0 1
 have cd:W.cell? ⟨w.heap.size,2,none⟩=some (.pointer none):=ZC n0 2
 have cb:W.cell? ⟨w.heap.size + 1,32,none⟩=some (.string key):=RKb.c32 n1
 have qn:∀ W':World,(binOp .eql 142 (.pointer none) (.pointer none)).run prog W'=.ok (.bool true) W':=fun W'=>by rw [ptr_eqlR none none W' (.inl rfl) (.inl rfl)];rfl
 generalize (rkL key).toArray=cs at hW n1
 obtain ⟨ga,hga⟩:∃ ga,w.heap.size=ga:=⟨_,rfl⟩
 rw [hga] at ca cb cc cd
 obtain ⟨a1,a2,ha⟩:=ins_yes h
 clear h
 rcases ha with e2 | ⟨e2,a3⟩
 all_goals
  go_enter func171,ntmps171
  go_upto_region 3 with fail
  go_quiet (fail)
  go_wp2_with fail
  go_ret
  exact ⟨rfl,by rw [hga] at hb ⊢;exact ⟨hb.os,hb.tape,hb.output,hb.size,hb.block⟩⟩
theorem fits_par (over under key pk:ByteArray) (g:Nat) (w:World) (h:insW over under key=true) (hg:RKb g pk w):Calls prog 171 #[.agg #[.string over,.string under,.pointer (some ⟨g,0,none⟩)],.agg (rkL key).toArray] w fun e w'=>e=.returned (.bool (hgW pk key)) /\ Below w.heap.size w w':=by
 obtain ⟨W,hW⟩:∃ W,(w.alloc (.cells #[.string over,.string under,.pointer (some ⟨g,0,none⟩)] 144)).alloc (.cells (rkL key).toArray 249)=W:=⟨_,rfl⟩
 have hb:Below w.heap.size w W:=by rw [<- hW];exact ((Below.refl _ _).alloc (Nat.le_refl _) _).alloc (by simp) _
 have n0:W.heap[w.heap.size]?=some (.cells #[.string over,.string under,.pointer (some ⟨g,0,none⟩)] 144):=by rw [<- hW,Below.heap_alloc _ _ _ (by simp)];exact heap_alloc_new w _
 have n1:RKb (w.heap.size + 1) key W:=by
  have:=heap_alloc_new (w.alloc (.cells #[.string over,.string under,.pointer (some ⟨g,0,none⟩)] 144)) (.cells (rkL key).toArray 249)
  unfold RKb
  rw [<- hW];simpa using this
 have hg1:RKb g pk W:=(hb.block g (Array.getElem?_eq_some_iff.1 hg).1).trans hg
 have ca:W.cell? ⟨w.heap.size,0,none⟩=some (.string over):=ZC n0 0
 have cc:W.cell? ⟨w.heap.size,1,none⟩=some (.string under):=ZC n0 1
 have cd:W.cell? ⟨w.heap.size,2,none⟩=some (.pointer (some ⟨g,0,none⟩)):=ZC n0 2
 have cb:W.cell? ⟨w.heap.size + 1,32,none⟩=some (.string key):=RKb.c32 n1
 have qn:∀ W':World,RKb g pk W' -> (binOp .eql 142 (.pointer (some ⟨g,0,none⟩)) (.pointer none)).run prog W'=.ok (.bool false) W':=fun W' hW'=>by rw [ptr_eqlR _ none W' (.inr ⟨g,_,_,rfl,hW'⟩) (.inl rfl)];rfl
 have r1:=hg1.range
 have r2:=n1.range
 have HAB:Hid (∀ w',Calls prog 164 #[.agg (rkL pk).toArray,.agg (rkL key).toArray] w' fun e w''=>e=.returned (.bool (hgW pk key)) /\ Below w'.heap.size w' w''):=fun w'=>above_any _ _ (by unfold sha;rw [outTo_length]) (by unfold sha;rw [outTo_length]) pk key w'
 obtain ⟨ga,hga⟩:∃ ga,w.heap.size=ga:=⟨_,rfl⟩
 rw [hga] at ca cb cc cd r2
 obtain ⟨a1,a2,ha⟩:=ins_yes h
 clear h
 have hq:=qn W hg1
 have HS:Hid (∀ W',Below W.heap.size W W' -> W'.rangeAt g 0 (rkL pk) /\ W'.rangeAt (ga + 1) 0 (rkL key) /\ W'.cell? ⟨ga,2,none⟩=some (.pointer (some ⟨g,0,none⟩)) /\ (binOp .eql 142 (.pointer (some ⟨g,0,none⟩)) (.pointer none)).run prog W'=.ok (.bool false) W'):=fun W' hW'=>by
  have x1:RKb g pk W':=(hW'.block g (Array.getElem?_eq_some_iff.1 hg1).1).trans hg1
  rw [hga] at n1 n0
  have x2:RKb (ga + 1) key W':=(hW'.block (ga + 1) (Array.getElem?_eq_some_iff.1 n1).1).trans n1
  have x3:=(hW'.block ga (Array.getElem?_eq_some_iff.1 n0).1).trans n0
  exact ⟨x1.range,x2.range,ZC x3 2,qn W' x1⟩
 clear qn hq
 rcases ha with e2 | ⟨e2,a3⟩
 · go_enter func171,ntmps171
   go_upto_region 3 with fail
   refine wp_region_held_drew (S:=fun W'=>W'.rangeAt g 0 (rkL pk) /\ W'.rangeAt (ga + 1) 0 (rkL key) /\ W'.cell? ⟨ga,2,none⟩=some (.pointer (some ⟨g,0,none⟩)) /\ (binOp .eql 142 (.pointer (some ⟨g,0,none⟩)) (.pointer none)).run prog W'=.ok (.bool false) W') (by kernel_rfl) (HS.out _ (Below.refl _ _).drew) (fun hHeld=>?_)
   refine tkI 0 ?_
   simp only [Act.put,zq]
   refine tkI 1 ?_
   simp only [Act.put,zq]
   refine tkI 2 ?_
   simp only [Act.put,zq]
   refine tkI 3 ?_
   simp only [Act.put,zq]
   refine tkI 4 ?_
   simp only [Act.put,zq]
   refine tkI 5 ?_
   simp only [Act.put,zq]
   refine tkI 6 ?_
   simp only [Act.put,zq]
   refine tkH (i:=7) (v:=_) rfl (yieldsIf_load_mid (by rfl) _ _ rfl _ _ rfl (rkL pk) _ (fun w h=>h.1) Tryz.underlying249 rfl (by rw [rkL_len];exact size125)) ?_
   simp only [Act.put,zq]
   refine tkH (i:=8) (v:=_) rfl (yieldsIf_load_mid (by rfl) _ _ rfl _ _ rfl (rkL key) _ (fun w h=>h.2.1) Tryz.underlying249 rfl (by rw [rkL_len];exact size125)) ?_
   simp only [Act.put,zq]
   refine rdH 9 (fun K hK=>?_)
   go_simp
   refine (HAB.out _).mono ?_
   rintro e w1 ⟨rfl,hb1'⟩
   have hbw1:Below W.heap.size W w1:=((Below.refl W.heap.size W).drew).trans hb1'
   refine hK.out _ _ (HS.out _ hbw1) (fun hHeld=>?_)
   clear hK K
   refine tkI 10 ?_
   simp only [Act.put,zq]
   refine tkI 11 ?_
   simp only [Act.put,zq]
   refine wpAnyH_done (by kernel_rfl) ?_ _
   go_wp2_with fail
   go_ret
   exact ⟨rfl,hb.trans (hbw1.mono hb.size)⟩
 · go_enter func171,ntmps171
   go_upto_region 3 with fail
   refine wp_region_held_drew (S:=fun W'=>W'.rangeAt g 0 (rkL pk) /\ W'.rangeAt (ga + 1) 0 (rkL key) /\ W'.cell? ⟨ga,2,none⟩=some (.pointer (some ⟨g,0,none⟩)) /\ (binOp .eql 142 (.pointer (some ⟨g,0,none⟩)) (.pointer none)).run prog W'=.ok (.bool false) W') (by kernel_rfl) (HS.out _ (Below.refl _ _).drew) (fun hHeld=>?_)
   refine tkI 0 ?_
   simp only [Act.put,zq]
   refine tkI 1 ?_
   simp only [Act.put,zq]
   refine tkI 2 ?_
   simp only [Act.put,zq]
   refine tkI 3 ?_
   simp only [Act.put,zq]
   refine tkI 4 ?_
   simp only [Act.put,zq]
   refine tkI 5 ?_
   simp only [Act.put,zq]
   refine tkI 6 ?_
   simp only [Act.put,zq]
   refine tkH (i:=7) (v:=_) rfl (yieldsIf_load_mid (by rfl) _ _ rfl _ _ rfl (rkL pk) _ (fun w h=>h.1) Tryz.underlying249 rfl (by rw [rkL_len];exact size125)) ?_
   simp only [Act.put,zq]
   refine tkH (i:=8) (v:=_) rfl (yieldsIf_load_mid (by rfl) _ _ rfl _ _ rfl (rkL key) _ (fun w h=>h.2.1) Tryz.underlying249 rfl (by rw [rkL_len];exact size125)) ?_
   simp only [Act.put,zq]
   refine rdH 9 (fun K hK=>?_)
   go_simp
   refine (HAB.out _).mono ?_
   rintro e w1 ⟨rfl,hb1'⟩
   have hbw1:Below W.heap.size W w1:=((Below.refl W.heap.size W).drew).trans hb1'
   refine hK.out _ _ (HS.out _ hbw1) (fun hHeld=>?_)
   clear hK K
   refine tkI 10 ?_
   simp only [Act.put,zq]
   refine tkI 11 ?_
   simp only [Act.put,zq]
   refine wpAnyH_done (by kernel_rfl) ?_ _
   go_wp2_with fail
   go_ret
   exact ⟨rfl,hb.trans (hbw1.mono hb.size)⟩
theorem fits_any (over under key pk:ByteArray) (par:Option Addr) (w:World) (hp:ParAt par pk w):Calls prog 171 #[.agg #[.string over,.string under,.pointer par],.agg (rkL key).toArray] w fun e w'=>e=.returned (.bool (insW over under key && parW hgW pk key)) /\ Below w.heap.size w w':=by
 cases h:insW over under key with
 | false=>exact fits_no over under key par w h
 | true =>
  rw [Bool.true_and]
  unfold parW
  rcases hp with ⟨rfl,he⟩ | ⟨he,g,rfl,hg⟩
  · rw [he];exact fits_top over under key w h
  · rw [he];exact fits_par over under key pk g w h hg
end Go.Proofs.YtibjhkpgaaapaaaGreatDoor
