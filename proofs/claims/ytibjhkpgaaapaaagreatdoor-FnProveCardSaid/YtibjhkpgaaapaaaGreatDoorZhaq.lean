import Derived.Test.YtibjhkpgaaapaaaGreatDoorZhao
import Derived.Test.YtibjhkpgaaapaaaGreatDoorZhap
import Derived.Test.YtibjhkpgaaapaaaGreatDoorZhab
import Derived.Test.YtibjhkpgaaapaaaGreatDoorZhal
import Derived.Deep.AppendLies
set_option maxRecDepth 100000
set_option maxHeartbeats 2000000
namespace Go.Proofs.YtibjhkpgaaapaaaGreatDoor
open Go.RowKit Go.Proofs.Sha Tryz
theorem gt5_bad (sb gb c wd:Nat) (root:ByteArray) (v0 v2:Value) (w:World) (hb:w.heap[sb]?=some (.cells #[v0,.int .i64 (wd:Int),v2] 194)) (hr:root.size <= 1048576) (hk:hashOk root.size (wd:Int)=false) :
 Calls prog 111 #[.pointer (some ⟨sb,0,none⟩),.string root,into5 gb c,at5 c] w fun e w'=>e=.returned (.int .i64 1) /\ Below w.heap.size w w':=by
 have HV:=fun w'=>vlink_any root (wd:Int) w' hr
 rw [hk] at HV
 have hA:Below w.heap.size w (w.alloc (.cells #[at5 c] 171)):=(Below.refl _ _).alloc (Nat.le_refl _) _
 have c1:(w.alloc (.cells #[at5 c] 171)).cell? ⟨sb,1,none⟩=some (.int .i64 (wd:Int)):=ZC ((hA.block sb (Array.getElem?_eq_some_iff.1 hb).1).trans hb) 1
 go_enter func111,ntmps111
 go_wp2_with (first | (go_at_call 95;refine (HV _).mono ?_;rintro e w2 ⟨rfl,rfl⟩))
 go_ret
 exact ⟨rfl,hA⟩
theorem gt5_ok (fnd:ByteArray -> FN) (wd:Nat) (hfo:FndOk wd fnd) (hwd32:wd <= 32) (wg:World) (B0 sb gb c:Nat) (lo hi root:ByteArray) (v0 v2:Value) (w:World) (hb:w.heap[sb]?=some (.cells #[v0,.int .i64 (wd:Int),v2] 194)) (hr:root.size <= 1048576) (hk:hashOk root.size (wd:Int)=true) (hsz:root.size=0 \/ root.size=wd)
 (hbw:Below B0 wg w) (hBc:B0 <= c) (hBs:B0 <= w.heap.size) (hgb:w.heap[gb]?=some (.cells #[.string lo,.string hi] 75)) (hcb:Bld c [] w)
 (HF:Hid (∀ (hash:ByteArray) w',hash.size=wd -> Below B0 wg w' -> Calls prog 190 #[.pointer (some ⟨sb,0,none⟩),.string hash] w' fun e w''=>e=.returned (nodeT (fnd hash)) /\ Below w'.heap.size w' w''))
 (HR:Hid (∀ (k:ByteArray) w',okKey k=true -> Below B0 wg w' -> Calls prog 166 #[Value.string k] w' fun e w''=>e=.returned (.agg (rkL k).toArray) /\ Below w'.heap.size w' w'')) (R:Int × Nat × List PairT) (hRe:goF fnd hgW lo hi 501 root ⟨#[]⟩ ⟨#[]⟩ ⟨#[]⟩ 0=R) :
 Calls prog 111 #[.pointer (some ⟨sb,0,none⟩),.string root,into5 gb c,at5 c] w fun e w'=>e=.returned (.int .i64 R.1) /\ Ft c (fun q=>q=c) w w' /\ (R.1=0 -> Bld c (prL fnd lo hi 501 root ⟨#[]⟩ ⟨#[]⟩) w'):=by
 have HV:=fun w'=>vlink_any root (wd:Int) w' hr
 rw [hk] at HV
 have hA:Below w.heap.size w (w.alloc (.cells #[at5 c] 171)):=(Below.refl _ _).alloc (Nat.le_refl _) _
 have c1:(w.alloc (.cells #[at5 c] 171)).cell? ⟨sb,1,none⟩=some (.int .i64 (wd:Int)):=ZC ((hA.block sb (Array.getElem?_eq_some_iff.1 hb).1).trans hb) 1
 go_enter func111,ntmps111
 go_upto_region 4 with (first | (go_at_call 95;refine (HV _).mono ?_;rintro e w2 ⟨rfl,rfl⟩))
 have hgl:=(Array.getElem?_eq_some_iff.1 hgb).1
 have hcl:=hcb.lt
 have hW:Below w.heap.size w (((w.alloc (.cells #[at5 c] 171)).alloc (.cells #[.pointer (some ⟨sb,0,none⟩),.int .i64 0,.int .i64 0] 228)).alloc (.cells #[.pointer (some ⟨w.heap.size + 1,0,none⟩)] 226)):=(((Below.refl _ _).alloc (Nat.le_refl _) _).alloc (by simp) _).alloc (by simp;omega) _
 have nX:=heap_alloc_new ((w.alloc (.cells #[at5 c] 171)).alloc (.cells #[.pointer (some ⟨sb,0,none⟩),.int .i64 0,.int .i64 0] 228)) (.cells #[.pointer (some ⟨w.heap.size + 1,0,none⟩)] 226)
 have nL0:((w.alloc (.cells #[at5 c] 171)).alloc (.cells #[.pointer (some ⟨sb,0,none⟩),.int .i64 0,.int .i64 0] 228)).heap[w.heap.size + 1]?=some (.cells #[.pointer (some ⟨sb,0,none⟩),.int .i64 0,.int .i64 0] 228):=by
  have:=heap_alloc_new (w.alloc (.cells #[at5 c] 171)) (.cells #[.pointer (some ⟨sb,0,none⟩),.int .i64 0,.int .i64 0] 228)
  rw [World.size_alloc] at this
  exact this
 have nL:=(Below.heap_alloc ((w.alloc (.cells #[at5 c] 171)).alloc (.cells #[.pointer (some ⟨sb,0,none⟩),.int .i64 0,.int .i64 0] 228)) (.cells #[.pointer (some ⟨w.heap.size + 1,0,none⟩)] 226) (w.heap.size + 1) (by simp)).trans nL0
 clear nL0
 have nA:=(Below.heap_alloc ((w.alloc (.cells #[at5 c] 171)).alloc (.cells #[.pointer (some ⟨sb,0,none⟩),.int .i64 0,.int .i64 0] 228)) (.cells #[.pointer (some ⟨w.heap.size + 1,0,none⟩)] 226) w.heap.size (by simp;omega)).trans ((Below.heap_alloc (w.alloc (.cells #[at5 c] 171)) (.cells #[.pointer (some ⟨sb,0,none⟩),.int .i64 0,.int .i64 0] 228) w.heap.size (by simp)).trans (heap_alloc_new w (.cells #[at5 c] 171)))
 have hzW:(((w.alloc (.cells #[at5 c] 171)).alloc (.cells #[.pointer (some ⟨sb,0,none⟩),.int .i64 0,.int .i64 0] 228)).alloc (.cells #[.pointer (some ⟨w.heap.size + 1,0,none⟩)] 226)).heap.size=w.heap.size + 3:=by simp
 rw [World.size_alloc,World.size_alloc] at nX
 generalize ((w.alloc (.cells #[at5 c] 171)).alloc (.cells #[.pointer (some ⟨sb,0,none⟩),.int .i64 0,.int .i64 0] 228)).alloc (.cells #[.pointer (some ⟨w.heap.size + 1,0,none⟩)] 226)=W at hW nX nL nA hzW ⊢
 obtain ⟨S,hS⟩:∃ S,w.heap.size=S:=⟨_,rfl⟩
 have nc:Bld c [] W:=hcb.below hW
 have ng:W.heap[gb]?=some (.cells #[.string lo,.string hi] 75):=(hW.block gb hgl).trans hgb
 have hst:Stc B0 (S + 3) (S + 1) c gb (S + 1 + 1) S:=by
  rw [hS] at hgl hcl hBs
  obtain ⟨bcs,hbt⟩:=nc.ty
  have hne:gb ≠ c:=ne_of_type ng hbt (by decide)
  exact ⟨by omega,by omega,by omega,by omega,by omega,by omega,by omega,by omega,by omega,by omega,by omega,by omega,by omega,hne,by omega⟩
 have hbW:Below B0 wg W:=hbw.trans (hW.mono hBs)
 rw [hS] at nX nL nA hzW
 have hEn:Env5 wg B0 (S + 3) (S + 1) c gb (S + 1 + 1) S lo hi W:=⟨nX,nA,ng,hbW,by omega⟩
 have hLn:LD (S + 1) sb 0 0 W:=nL
 have HB:=branchAt_any root ⟨#[]⟩ ⟨#[]⟩ none W
 have HW:Hid (∀ p w3,LinkAt root ⟨#[]⟩ ⟨#[]⟩ none p w3 -> (∀ q,p=some q -> W.heap.size <= q.block) -> Below W.heap.size W w3 -> Calls prog 147 #[.pointer p,into5 gb c,atV (S + 1 + 1) S] w3 fun e w'=>(∃ x,e=.returned (.bool x)) /\ w'.cell? ⟨S + 1 + 1,0,none⟩=some (.pointer (some ⟨S + 1,0,none⟩)) /\ w'.cell? ⟨S + 1,2,none⟩=some (.int .i64 R.1) /\ Ft c (fun q=>q=c) w w' /\ (R.1=0 -> Bld c (prL fnd lo hi 501 root ⟨#[]⟩ ⟨#[]⟩) w')):=fun p w3 hl hp hb3=>by
  refine (walk5_any fnd wd hfo hwd32 wg B0 (S + 3) (S + 1) sb c gb (S + 1 + 1) S lo hi hst HF HR 501 root ⟨#[]⟩ ⟨#[]⟩ ⟨#[]⟩ none p 0 [] w3 (hEn.below hst hb3) hl (.inl ⟨rfl,rfl⟩) (hLn.below hb3) (nc.below hb3) (fun q hq=>by have:=hp q hq;omega) hsz (by omega) (by omega) (Nat.le_refl _)).mono ?_
  rw [hRe]
  rintro e w' ⟨rfl,f',g',n'⟩
  have hE':=(hEn.below hst hb3).ft hst f' (fun q hq=>by
   rcases hq with ⟨x,hx,e⟩ | e | e
   · have:=hp x hx;exact .inr (.inr (by omega))
   · exact .inl e
   · exact .inr (.inl e))
  have hld:∃ m,LD (S + 1) sb m R.1 w':=by
   by_cases h0:R.1=0
   · rw [h0];exact ⟨_,(g' h0).1⟩
   · exact n' h0
  obtain ⟨m,hld⟩:=hld
  refine ⟨⟨_,rfl⟩,ZC hE'.bx 0,ZC hld 2,?_,fun h0=>?_⟩
  · refine ((Ft.of_below (base:=c) (N:=fun q=>q=c) hW).trans (Ft.of_below (N:=fun q=>q=c) hb3) (fun _ _ x=>x)).trans f' (fun q hq hx=>?_)
    rcases hx with ⟨x,hx,e⟩ | e | e
    · have:=hp x hx;omega
    · omega
    · exact e
  · exact (g' h0).2
 clear hEn hLn nX nL nA nc ng hgl hcl hbW HF HR hcb
 go_wp2_with (first | (go_at_call 148;refine HB.mono ?_;rintro e w3 ⟨p,rfl,hl3,hp3,hb3⟩) | (go_at_call 147;refine (HW.out _ _ hl3 hp3 hb3).mono ?_;rintro e w4 ⟨⟨x,rfl⟩,d1,d2,d3⟩))
 go_ret
 exact ⟨rfl,d3⟩
def proveX (fnd:ByteArray -> FN) (wd:Nat) (root lo hi:ByteArray):ByteArray × Int :=
 if hashOk root.size (wd:Int)=true then
  if (goF fnd hgW lo hi 501 root ⟨#[]⟩ ⟨#[]⟩ ⟨#[]⟩ 0).1=0 then (⟨(prL fnd lo hi 501 root ⟨#[]⟩ ⟨#[]⟩).toArray⟩,0) else (⟨#[]⟩,(goF fnd hgW lo hi 501 root ⟨#[]⟩ ⟨#[]⟩ ⟨#[]⟩ 0).1)
 else (⟨#[]⟩,1)
theorem prove_any (fnd:ByteArray -> FN) (wd:Nat) (hfo:FndOk wd fnd) (hwd32:wd <= 32) (sb:Nat) (lo hi root:ByteArray) (v0 v2:Value) (w:World) (hb:w.heap[sb]?=some (.cells #[v0,.int .i64 (wd:Int),v2] 194)) (hr:root.size <= 1048576)
 (HF:Hid (∀ (hash:ByteArray) w',hash.size=wd -> Below w.heap.size w w' -> Calls prog 190 #[.pointer (some ⟨sb,0,none⟩),.string hash] w' fun e w''=>e=.returned (nodeT (fnd hash)) /\ Below w'.heap.size w' w''))
 (HR:Hid (∀ (k:ByteArray) w',okKey k=true -> Below w.heap.size w w' -> Calls prog 166 #[Value.string k] w' fun e w''=>e=.returned (.agg (rkL k).toArray) /\ Below w'.heap.size w' w'')) :
 Calls prog 53 #[.pointer (some ⟨sb,0,none⟩),.string root,.agg #[.string lo,.string hi]] w fun e w'=>e=.returned (.tuple #[.string (proveX fnd wd root lo hi).1,.int .i64 (proveX fnd wd root lo hi).2]) /\ Below w.heap.size w w':=by
 have hXe:proveX fnd wd root lo hi=proveX fnd wd root lo hi:=rfl
 conv at hXe=>rhs;unfold proveX
 obtain ⟨R,hR⟩:∃ R,goF fnd hgW lo hi 501 root ⟨#[]⟩ ⟨#[]⟩ ⟨#[]⟩ 0=R:=⟨_,rfl⟩
 rw [hR] at hXe
 have hW:Below w.heap.size w ((w.alloc (.cells #[.string lo,.string hi] 75)).alloc (.cells #[.pointer none,.slice none 0 0] 165)):=((Below.refl _ _).alloc (Nat.le_refl _) _).alloc (by simp) _
 have nC:=fresh_bld1 w (.cells #[.string lo,.string hi] 75)
 have nG:=(Below.heap_alloc (w.alloc (.cells #[.string lo,.string hi] 75)) (.cells #[.pointer none,.slice none 0 0] 165) w.heap.size (by simp)).trans (heap_alloc_new w (.cells #[.string lo,.string hi] 75))
 have hzW:((w.alloc (.cells #[.string lo,.string hi] 75)).alloc (.cells #[.pointer none,.slice none 0 0] 165)).heap.size=w.heap.size + 2:=by simp
 have hbW:=(hW.block sb (Array.getElem?_eq_some_iff.1 hb).1).trans hb
 cases hk:hashOk root.size (wd:Int) with
 | false =>
  rw [hk,if_neg (by decide)] at hXe
  rw [hXe]
  have HG:=gt5_bad sb w.heap.size (w.heap.size + 1) wd root v0 v2 _ hbW hr hk
  have HQ:Hid (∀ w2,Below ((w.alloc (.cells #[.string lo,.string hi] 75)).alloc (.cells #[.pointer none,.slice none 0 0] 165)).heap.size ((w.alloc (.cells #[.string lo,.string hi] 75)).alloc (.cells #[.pointer none,.slice none 0 0] 165)) w2 -> Below w.heap.size w w2):=fun w2 hb2=>hW.trans (hb2.mono hW.size)
  clear HF HR hR hzW nC nG hbW hW hb hXe
  go_enter func53,ntmps53
  go_wp2_with (first | (go_at_call 111;refine HG.mono ?_;rintro e w2 ⟨rfl,hb2⟩;replace hb2:=HQ.out _ hb2))
  go_ret2
  exact ⟨rfl,hb2⟩
 | true =>
  rw [hk,if_pos rfl] at hXe
  have hsz:root.size=0 \/ root.size=wd:=by
   unfold hashOk at hk
   rcases (Bool.or_eq_true _ _).mp hk with h | h
   · exact .inl (of_decide_eq_true h)
   · exact .inr (by have:=of_decide_eq_true h;omega)
  have HG:=gt5_ok fnd wd hfo hwd32 w w.heap.size sb w.heap.size (w.heap.size + 1) lo hi root v0 v2 _ hbW hr hk hsz hW (by omega) hW.size nG nC HF HR R hR
  have HQ:Hid (∀ w2,Ft (w.heap.size + 1) (fun q=>q=w.heap.size + 1) ((w.alloc (.cells #[.string lo,.string hi] 75)).alloc (.cells #[.pointer none,.slice none 0 0] 165)) w2 -> Below w.heap.size w w2):=fun w2 hf=>hW.trans (hf.below (by omega) (fun q e=>by omega) hW.size)
  by_cases h0:R.1=0
  · rw [if_pos h0] at hXe
    rw [hXe]
    rw [h0] at HG
    generalize prL fnd lo hi 501 root ⟨#[]⟩ ⟨#[]⟩=X at HG hXe ⊢
    have HS:Hid (∀ w2,Bld (w.heap.size + 1) X w2 -> Below w.heap.size w w2 -> Calls prog 114 #[.pointer (some ⟨w.heap.size + 1,0,none⟩)] w2 fun e w'=>e=.returned (.string ⟨X.toArray⟩) /\ Below w.heap.size w w'):=fun w2 h2 hb2=>by
     refine (bstring _ _ w2 h2).mono ?_
     rintro e w' ⟨rfl,hb3⟩
     exact ⟨rfl,hb2.trans (hb3.mono (by omega))⟩
    clear HF HR hR hzW nC nG hbW hW hb h0 hXe
    go_enter func53,ntmps53
    go_wp2_with (first | (go_at_call 111;refine HG.mono ?_;rintro e w2 ⟨rfl,hf2,hl2⟩;replace hl2:=hl2 (by trivial);replace hf2:=HQ.out _ hf2) | (go_at_call 114;refine (HS.out _ hl2 hf2).mono ?_;rintro e w3 ⟨rfl,hb3⟩))
    go_ret2
    exact ⟨rfl,hb3⟩
  · rw [if_neg h0] at hXe
    rw [hXe]
    clear HF HR hR hzW nC nG hbW hW hb hXe
    go_enter func53,ntmps53
    go_wp2_with (first | (go_at_call 111;refine HG.mono ?_;rintro e w2 ⟨rfl,hf2,hl2⟩;replace hf2:=HQ.out _ hf2))
    go_ret2
    exact ⟨rfl,hf2⟩
def DigSaid:Prop:=∀ (t:ByteArray) (k:Nat) (w:World),t.size <= 1048576 -> 1 <= k -> k <= 32 -> Calls prog 23 #[.string t,.int .i64 (k:Int)] w fun e w'=>e=.returned (.string ⟨((sha t.data.toList).take k).toArray⟩) /\ Below w.heap.size w w'
def hashT (wd:Nat) (s:ByteArray):ByteArray:=⟨((sha (78 :: s.data.toList)).take wd).toArray⟩
theorem info9:(prog.info? 9).map (fun i=>(i.zero,i.size,i.bytes))=some (some (.string ⟨#[]⟩),1,16):=by kernel_rfl
theorem ltext_any (e:ByteArray) (w:World) (he:e.size <= 1048575) :
 Calls prog 39 #[.string e] w fun x w'=>∃ t:ByteArray,x=.returned (.string t) /\ t.size <= 1048576 /\ Hid (t.data.toList=78 :: e.data.toList) /\ w=w':=by
 have z:¬ (9223372036854775807 < (⟨#[78]⟩:ByteArray).size + e.size):=by show ¬ _ < 1 + e.size;omega
 have z':¬ (9223372036854775807 < 1 + e.size):=by omega
 go_enter func39,ntmps39
 go_wp2
 go_ret
 refine ⟨_,rfl,?_,?_,rfl⟩
 · rw [ByteArray.size_append];show 1 + e.size <= _;omega
 · show (_:List UInt8)=_
   rw [ByteArray.data_append]
   simp
structure P1 (w:World) (ga:Nat) (n:Int) (a:Option Addr) (m c:Nat) (W:World):Prop where
 sz:w.heap.size=ga
 bl:Below ga w W
 na:W.heap[ga]?=some (.cells #[.int .i64 n,.slice a m c] 31)
section
variable {w:World} {ga:Nat} {n:Int} {a:Option Addr} {m c:Nat} {W W':World}
theorem P1.mk0 (w:World) (n:Int) (a:Option Addr) (m c:Nat):P1 w w.heap.size n a m c (w.alloc (.cells #[.int .i64 n,.slice a m c] 31)) :=
 ⟨rfl,(Below.refl _ w).alloc (Nat.le_refl _) _,heap_alloc_new w _⟩
theorem P1.belowAt (h:P1 w ga n a m c W) {k:Nat} (hk:ga < k) (hb:Below k W W'):P1 w ga n a m c W' :=
 ⟨h.sz,h.bl.trans (hb.mono (by omega)),(hb.block ga hk).trans h.na⟩
theorem P1.lt (h:P1 w ga n a m c W):ga < W.heap.size:=(Array.getElem?_eq_some_iff.1 h.na).1
theorem P1.below (h:P1 w ga n a m c W) (hb:Below W.heap.size W W'):P1 w ga n a m c W':=h.belowAt h.lt hb
theorem P1.grown (h:P1 w ga n a m c W) {g:Nat} (hg:W.grownBy W' (some g)) (hl:ga < g):P1 w ga n a m c W':=h.belowAt (Nat.lt_succ_self ga) (below_of_grown hg hl h.lt)
theorem P1.bw (h:P1 w ga n a m c W):Below w.heap.size w W:=by rw [h.sz];exact h.bl
end
theorem hashes_any (HD:Hid DigSaid) (wd:Nat) (a:Option Addr) (ss:List ByteArray) (c:Nat) (w:World) (h:SArg a ss w) (hq:Hid (∀ j,(ss.getD j ⟨#[]⟩).size <= 1048575)) (h1:1 <= wd) (h2:wd <= 32) :
 Calls prog 50 #[.agg #[.int .i64 (wd:Int),.slice a ss.length c]] w fun e w'=>∃ g c',e=.returned (.slice (some ⟨g,0,none⟩) ss.length c') /\ Row w' (w.heap.size + 1) g ss.length c' ((ss.map (hashT wd)).map Value.string) /\ Below w.heap.size w w':=by
 have hn:=h.le
 obtain ⟨i0,hi0,hz0,hz1,hz2⟩:=info_parts info9
 obtain ⟨N,hN⟩:∃ N,ss.length=N:=⟨_,rfl⟩
 rw [hN] at hn
 rw [hN]
 have hrow0:Row ((w.alloc (.cells #[.int .i64 (wd:Int),.slice a N c] 31)).alloc (.cells #[] 9)) (w.heap.size + 1) (w.heap.size + 1) 0 0 []:=by
  have:=Row.of_block (base:=w.heap.size + 1) (g:=w.heap.size + 1) (Nat.le_refl _) (by have:=heap_alloc_new (w.alloc (.cells #[.int .i64 (wd:Int),.slice a N c] 31)) (.cells #[] 9);rw [World.size_alloc] at this;exact this) 0 (Nat.zero_le _) (.inl rfl)
  simpa using this
 have hS0:=(P1.mk0 w (wd:Int) a N c).below ((Below.refl _ _).alloc (Nat.le_refl _) (.cells #[] 9))
 go_enter func50,ntmps50
 go_wp2_with fail
 obtain ⟨ga,hga⟩:∃ ga,w.heap.size=ga:=⟨_,rfl⟩
 generalize (w.alloc (.cells #[.int .i64 (wd:Int),.slice a N c] 31)).alloc (.cells #[] 9)=W0 at hrow0 hS0 ⊢
 rw [hga] at hrow0 hS0 ⊢
 go_loopw [3,4] (fun t3 t4 wr=>∃ k g c':Nat,k <= N /\ t4=.int .i64 (k:Int) /\ t3=.slice (some ⟨g,0,none⟩) k c' /\ Row wr (ga + 1) g k c' (((ss.take k).map (hashT wd)).map Value.string) /\ P1 w ga (wd:Int) a N c wr) (fun _ t4 _=>N - (intOf t4).toNat)
 case atStart=>exact ⟨0,ga + 1,0,Nat.zero_le _,rfl,rfl,hrow0,hS0⟩
 case round =>
  clear hrow0 hS0
  obtain ⟨k,g,c',hk,rfl,rfl,hrow,hS⟩:=hrel
  have d0:=ZC hS.na 0
  have d1:=ZC hS.na 1
  by_cases hlt:k < N
  · have z1:decide ((k:Int) < (N:Int))=true:=by simp;omega
    obtain ⟨b,off,rfl,hbl,hcs⟩:=h.at_ (by omega)
    obtain ⟨s,hs⟩:∃ s,ss.getD k ⟨#[]⟩=s:=⟨_,rfl⟩
    have hsz:s.size <= 1048575:=by rw [<- hs];exact hq.out k
    have hc0:=hcs k (by omega)
    rw [hs] at hc0
    have hC:Hid (∀ W,P1 w ga (wd:Int) (some ⟨b,off,none⟩) N c W -> W.cell? ⟨ga,1,none⟩=some (.slice (some ⟨b,off,none⟩) N c) /\ W.cell? ⟨b,off + k,none⟩=some (.string s) /\ W.cell? ⟨ga,0,none⟩=some (.int .i64 (wd:Int))):=fun W hW=>⟨ZC hW.na 1,(hW.bw.cell hbl).trans hc0,ZC hW.na 0⟩
    have hcx:=(hS.bw.cell hbl).trans hc0
    obtain ⟨X,hX⟩:∃ X,hashT wd s=X:=⟨_,rfl⟩
    have HX:Hid (∀ (t:ByteArray) w',t.size <= 1048576 -> Hid (t.data.toList=78 :: s.data.toList) -> Calls prog 23 #[.string t,.int .i64 (wd:Int)] w' fun e w''=>e=.returned (.string X) /\ Below w'.heap.size w' w''):=fun t w' ht HT=>by
     have:=HD.out t wd w' ht h1 h2
     rw [HT.out] at this
     rw [<- hX]
     exact this
    have hstep:Hid (((ss.take (k + 1)).map (hashT wd)).map Value.string=((ss.take k).map (hashT wd)).map Value.string ++ [.string X]):=by
     have hkl:k < ss.length:=by omega
     have hge:ss[k]=s:=by rw [<- hs,List.getD_eq_getElem?_getD,List.getElem?_eq_getElem hkl];rfl
     show _=_
     rw [List.take_succ_eq_append_getElem hkl,List.map_append,List.map_append,hge,<- hX]
     rfl
    have hgl:=hrow.ge
    have hsl:=hS.lt
    have hx0:(0:Int) <= (k:Int):=Int.natCast_nonneg _
    have hx1:(k:Int) < (N:Int):=by omega
    clear hcs hs hc0 hX
    generalize ((ss.take k).map (hashT wd)).map Value.string=L at hrow hstep
    go_wp2_with fail
    go_region_held3 (fun w'=>w'.cell? ⟨ga,1,none⟩=some (.slice (some ⟨b,off,none⟩) N c) /\ w'.cell? ⟨b,off + k,none⟩=some (.string s) /\ w'.cell? ⟨ga,0,none⟩=some (.int .i64 (wd:Int))) (first | exact ⟨d1,hcx,d0⟩ | exact hC.out _ hS4 | exact hC.out _ hS3 | exact hC.out _ hS2) (first | (go_at_call 39;refine (ltext_any s _ hsz).mono ?_;rintro e w1 ⟨t,rfl,ht,HT,rfl⟩) | (go_at_call 23;refine (HX.out t _ ht HT).mono ?_;rintro e w2 ⟨rfl,hb2⟩;have hbx:Below wr.heap.size wr w2:=(Below.refl wr.heap.size wr).drew.trans hb2;have hS2:=hS.below hbx;have hrow2:=hrow.below hbx;have hS3:=hS2.below ((Below.refl _ w2).alloc (Nat.le_refl _) (.cells #[.string X] 9));have hsz2:=hbx.size;clear hb2) | (refine step_append_row _ (by rfl) (.tmp 13) (.tmp 23) 25 (by rfl) 9 i0 (.string ⟨#[]⟩) 16 Tryz.underlying25 hi0 hz0 hz1 hz2 (by rfl) (ga + 1) g k c' _ (by rfl) (hrow2.alloc _) ⟨w2.heap.size,0,none⟩ 1 1 [.string X] (by rfl) rfl (World.news_of_block (heap_alloc_new w2 _)) (by simp [Value.oneCell']) (by unfold maxLen;omega) (by omega) (by simp;omega) (w2.heap.size + 1) (by simp) ?_;intro g4 c4 w4 hrow4 hgrow4 hg4 hkeep4;have hS4:=hS3.grown hgrow4 hgl))
    go_wp2_with fail
    go_roundw
    case rel=>exact ⟨k + 1,g4,c4,hlt,by go_num,rfl,by rw [hstep.out];exact hrow4,hS4⟩
    case measure=>simp [intOf];omega
  · obtain rfl:k=N:=by omega
    have z1:decide ((k:Int) < (k:Int))=false:=by simp
    have htk:ss.take k=ss:=List.take_of_length_le (by omega)
    rw [htk] at hrow
    go_wp2_with fail
    go_ret
    exact ⟨g,c',rfl,by rw [hga];exact hrow,hS.bw⟩
theorem own_cells {w:World} {base g n:Nat} {v:Value} {xs:List Value} (h:w.ownsRow base 9 1 v n xs) (hv:v.ownBlock=some g):base <= g /\ g < w.heap.size /\ ∃ cur,w.heap[g]?=some (.cells cur 9 (0,0)):=by
 rcases h.2 with ⟨rfl,_⟩ | ⟨g',cap,cur,rfl,hb,hg,_⟩
 · cases hv
 · obtain rfl:g'=g:=Option.some.inj hv
   exact ⟨hb,(Array.getElem?_eq_some_iff.1 hg).1,cur,hg⟩
theorem own_kept {w w':World} {base n:Nat} {v:Value} {xs:List Value} (h:w.ownsRow base 9 1 v n xs) (hk:∀ g,v.ownBlock=some g -> g < w.heap.size -> w'.heap[g]?=w.heap[g]?):w'.ownsRow base 9 1 v n xs:=by
 refine ⟨h.1,?_⟩
 rcases h.2 with ⟨h1,h2⟩ | ⟨g,cap,cur,hv,hb,hg,rest⟩
 · exact .inl ⟨h1,h2⟩
 · exact .inr ⟨g,cap,cur,hv,hb,(hk g (by rw [hv];rfl) (Array.getElem?_eq_some_iff.1 hg).1).trans hg,rest⟩
theorem own_sarg {w:World} {base n c:Nat} {a:Option Addr} {ss:List ByteArray} (h:w.ownsRow base 9 1 (.slice a ss.length c) n (ss.map Value.string)) (hl:ss.length <= 1048576) (hs:∀ j,(ss.getD j ⟨#[]⟩).size <= 1048576):SArg a ss w:=by
 refine ⟨hl,hs,fun hn=>?_⟩
 rcases h.2 with ⟨e,h0⟩ | ⟨g,cap,cur,e,hb,hg,q1,q2,q3,q4⟩
 · simp only [Value.slice.injEq] at e;omega
 · simp only [Value.slice.injEq] at e
   obtain ⟨rfl,e2,rfl⟩:=e
   refine ⟨g,0,rfl,(Array.getElem?_eq_some_iff.1 hg).1,fun j hj=>?_⟩
   rw [Nat.zero_add,cell_of_row w g j cur 9 (0,0) hg]
   have hx:(ss.map Value.string)[j]?=some (.string (ss.getD j ⟨#[]⟩)):=by
    rw [List.getElem?_map,List.getElem?_eq_getElem hj,List.getD_eq_getElem?_getD,List.getElem?_eq_getElem hj];rfl
   rw [<- q4,List.getElem?_take,if_pos (by omega)] at hx
   simpa using hx
theorem wrapI_in (x:Int) (h:-9223372036854775808 <= x /\ x <= 9223372036854775807):IntKind.i64.wrap x=x:=by rw [IntKind.wrap_i64];omega
theorem placesF_app (wd:Nat) (es:List ByteArray) (e:ByteArray) (k:Nat) (hk:k <= es.length):placesF wd (es ++ [e]) k=placesF wd es k:=by
 induction k with
 | zero=>rfl
 | succ k ih =>
  rw [placesF,placesF,ih (by omega)]
  congr 2
  rw [List.getD_eq_getElem?_getD,List.getD_eq_getElem?_getD,List.getElem?_append_left (by omega)]
theorem placesF_snoc (wd:Nat) (es:List ByteArray) (e:ByteArray):placesF wd (es ++ [e]) (es ++ [e]).length=addF (placesF wd es es.length) (cutW wd (sha (78 :: e.data.toList))) (es.length:Int):=by
 rw [List.length_append,List.length_singleton,placesF,placesF_app wd es e es.length (Nat.le_refl _)]
 congr 1
 rw [List.getD_eq_getElem?_getD,List.getElem?_append_right (Nat.le_refl _),Nat.sub_self]
 rfl
structure StockAt (sb r base wd:Nat) (es:List ByteArray) (a:Option Addr) (c:Nat) (w:World):Prop where
 blk:w.heap[sb]?=some (.cells #[.slice a es.length c,.int .i64 (wd:Int),.map (some r)] 194)
 own:w.ownsRow base 9 1 (.slice a es.length c) es.length (es.map Value.string)
 map:MapF (placesF wd es es.length) r w
 hl:sb < base
 hr:r < base
 hne:sb ≠ r
 hb:base <= w.heap.size
theorem StockAt.below {sb r base wd:Nat} {es:List ByteArray} {a:Option Addr} {c:Nat} {w w':World} (h:StockAt sb r base wd es a c w) (hb:Below w.heap.size w w'):StockAt sb r base wd es a c w':=by
 have h1:=h.hl
 have h2:=h.hb
 exact ⟨(hb.block sb (by omega)).trans h.blk,own_kept h.own (fun g _ hg=>hb.block g hg),h.map.below hb,h1,h.hr,h.hne,Nat.le_trans h2 hb.size⟩
theorem newStock_any (wd:Nat) (w:World):Calls prog 115 #[.int .i64 (wd:Int)] w fun e w'=>∃ sb r,e=.returned (.pointer (some ⟨sb,0,none⟩)) /\ StockAt sb r (sb + 1) wd [] none 0 w' /\ Below w.heap.size w w' /\ w.heap.size <= r /\ r < sb:=by
 go_enter func115,ntmps115
 go_wp2_with fail
 refine (newP_any (wd:Int) w).mono ?_
 rintro e w1 ⟨r,rfl,hr,hM,hb⟩
 have hrl:r < w1.heap.size:=by
  obtain ⟨es,cl,hg,_,_⟩:=hM.is
  exact (Array.getElem?_eq_some_iff.1 hg).1
 have hbA:Below w1.heap.size w1 (w1.alloc (.cells #[.slice none 0 0,.int .i64 (wd:Int),.map (some r)] 194)):=(Below.refl _ _).alloc (Nat.le_refl _) _
 have nA:=heap_alloc_new w1 (.cells #[.slice none 0 0,.int .i64 (wd:Int),.map (some r)] 194)
 go_wp2_with fail
 go_ret
 exact ⟨w1.heap.size,r,rfl,⟨nA,World.ownsRow_nil _ _ _ _,hM.below hbA,by omega,by omega,by omega,by simp⟩,hb.trans (hbA.mono hb.size),hr,hrl⟩
theorem stockAdd_all {K:World -> Prop} (HH:Hid (HashSaid K)) (keep:Hid (∀ w1 w2,K w1 -> Below w1.heap.size w1 w2 -> K w2)) (sb r base wd:Nat) (es:List ByteArray) (a:Option Addr) (c:Nat) (enc:ByteArray) (w:World) (h:StockAt sb r base wd es a c w) (hK:K w) (hs:enc.size <= 1048576) (h1:wd <= 32) (hlen:es.length <= 1048576) :
 Calls prog 116 #[.pointer (some ⟨sb,0,none⟩),.string enc] w fun e w'=>∃ a' c',e=.returned (.tuple #[]) /\ StockAt sb r base wd (es ++ [enc]) a' c' w' /\ (∀ n,n <= sb -> n <= r -> Below n w w') /\ ∀ q,q < base -> q ≠ sb -> q ≠ r -> w'.heap[q]?=w.heap[q]?:=by
 obtain ⟨F,hF⟩:∃ F,placesF wd es es.length=F:=⟨_,rfl⟩
 have HF:Hid (placesF wd (es ++ [enc]) (es ++ [enc]).length=addF F (cutW wd (sha (78 :: enc.data.toList))) (es.length:Int)):=by
  show _=_
  rw [placesF_snoc,hF]
 obtain ⟨i0,hi0,hz0,hz1,hz2⟩:=info_parts info9
 have hM:=h.map
 rw [hF] at hM
 obtain ⟨m,hm⟩:∃ m,es.length=m:=⟨_,rfl⟩
 have HAdd:Hid (∀ w',Below w.heap.size w w' -> Calls prog 153 #[.agg #[.int .i64 (wd:Int),.map (some r)],.string enc,.int .i64 (m:Int)] w' fun e w''=>e=.returned (.tuple #[]) /\ MapF (addF F (cutW wd (sha (78 :: enc.data.toList))) (m:Int)) r w'' /\ w'.grownBy w'' (some r)):=fun w' hb=>add_any HH wd r F enc _ w' (hM.below hb) (keep.out _ _ hK hb) keep hs h1
 have hblk:=h.blk
 have hlb:=h.hl
 have hrb:=h.hr
 have hne:=h.hne
 have hbs:=h.hb
 have oA:=h.own
 rw [hm] at hblk oA hlen
 have HX:Hid (∀ w5 g4 c4,w5.heap[sb]?=some (.cells #[.slice (some ⟨g4,0,none⟩) (m + 1) c4,.int .i64 (wd:Int),.map (some r)] 194) →
  w5.ownsRow base 9 1 (.slice (some ⟨g4,0,none⟩) (m + 1) c4) (m + 1) (es.map Value.string ++ [.string enc]) -> MapF (addF F (cutW wd (sha (78 :: enc.data.toList))) (m:Int)) r w5 -> base <= w5.heap.size →
  StockAt sb r base wd (es ++ [enc]) (some ⟨g4,0,none⟩) c4 w5):=by
  intro w5 g4 c4 q1 q2 q3 q4
  have hl:(es ++ [enc]).length=m + 1:=by rw [List.length_append,hm];rfl
  refine ⟨by rw [hl];exact q1,by rw [hl,List.map_append];exact q2,?_,hlb,hrb,hne,q4⟩
  rw [HF.out,hm];exact q3
 generalize addF F (cutW wd (sha (78 :: enc.data.toList))) (m:Int)=G at HX HAdd
 clear HF hM hF HH keep hK hs h1
 have HC:Hid (∀ W:World,W.heap[sb]?=w.heap[sb]? -> W.cell? ⟨sb,0,none⟩=some (.slice a m c) /\ W.cell? ⟨sb,1,none⟩=some (.int .i64 (wd:Int)) /\ W.cell? ⟨sb,2,none⟩=some (.map (some r))):=fun W hW=>by
  have hb:=hW.trans hblk
  exact ⟨ZC hb 0,ZC hb 1,ZC hb 2⟩
 have hlt:sb < w.heap.size:=by omega
 replace oA:Hid _:=oA
 replace hblk:Hid _:=hblk
 replace hi0:Hid _:=hi0
 replace hz0:Hid _:=hz0
 replace hz1:Hid _:=hz1
 replace hz2:Hid _:=hz2
 clear h hm
 go_enter func116,ntmps116
 go_wp2_with fail
 go_region_held3 (fun W=>W.cell? ⟨sb,0,none⟩=some (.slice a m c) /\ W.cell? ⟨sb,1,none⟩=some (.int .i64 (wd:Int)) /\ W.cell? ⟨sb,2,none⟩=some (.map (some r))) (first | exact HC.out _ rfl | exact HC.out _ hlb1) (first | (go_at_call 153;refine (HAdd.out _ (Below.refl w.heap.size w).drew).mono ?_;rintro e w1 ⟨rfl,hM1,hg1'⟩;have hg1:w.grownBy w1 (some r):=grownBy_trans (grownBy_of_below (Below.refl w.heap.size w).drew _) hg1';have hlb1:w1.heap[sb]?=w.heap[sb]?:=hg1.block sb hlt (fun e=>hne (Option.some.inj e));clear hg1'))
 have hb1:=hlb1.trans hblk.out
 have oA1:w1.ownsRow base 9 1 (.slice a m c) m (es.map Value.string):=own_kept oA.out (fun g hv hg=>hg1.block g hg (fun e=>by have:=Option.some.inj e;have:=(own_cells oA.out hv).1;omega))
 have hs1:=hg1.size
 have c3:=ZC hb1 0
 have hbA:Below w1.heap.size w1 (w1.alloc (.cells #[.string enc] 9)):=(Below.refl _ _).alloc (Nat.le_refl _) _
 clear HAdd HC
 go_wp2_with (first | (refine wpList_append_lies _ rfl (.tmp 19) (.tmp 21) 25 rfl base 9 i0 (.string ⟨#[]⟩) 1 16 Tryz.underlying25 hi0.out hz0.out hz1.out hz2.out rfl (by decide) _ m (es.map Value.string) rfl (oA1.alloc _) ⟨w1.heap.size,0,none⟩ 1 1 [.string enc] rfl rfl (World.news_of_block (heap_alloc_new w1 _)) (by simp [Value.oneCell']) (by decide) (by unfold maxLen;omega) (by omega) (by simp;omega) (w1.heap.size + 1) (by simp) ?_;intro g4 c4 w4 hown4 hgrow4 hat4 hlt4;have hb4:=(hgrow4.block sb (by simp;omega) (fun e=>by have:=(own_cells oA1 e.symm).1;omega)).trans ((hbA.block sb (by omega)).trans hb1);have k3:=ZC hb4 0;have f3:w4.frozen? ⟨sb,0,none⟩=false:=by rw [World.frozen?,hb4];rfl))
 go_end0
 obtain ⟨w5,hw5⟩:∃ w5,w5=w4.setCell ⟨sb,0,none⟩ (.slice (some ⟨g4,0,none⟩) (m + 1) c4):=⟨_,rfl⟩
 have hs4:=hgrow4.size
 simp at hs4
 have hg5:=grownBy_setCell w4 sb 0 (.slice (some ⟨g4,0,none⟩) (m + 1) c4)
 have hs5:=hg5.size
 have hg4b:base <= g4:=(own_cells hown4 rfl).1
 rw [<- hw5] at hg5 hs5
 refine ⟨some ⟨g4,0,none⟩,c4,rfl,?_,?_,?_⟩
 · rw [<- hw5]
   refine HX.out w5 g4 c4 (by rw [hw5];exact heap_setCell_same w4 sb 0 _ 194 _ hb4) (own_kept hown4 (fun g hv hg=>by have e:g4=g:=Option.some.inj hv;exact hg5.block g hg (fun e'=>by have:=Option.some.inj e';omega))) ?_ (by omega)
   have hMa:=hM1.below hbA
   have hMb:MapF G r w4:=by
    obtain ⟨es',cl,hh,q1,q2⟩:=hMa.is
    exact ⟨es',cl,(hgrow4.block r (Array.getElem?_eq_some_iff.1 hh).1 (fun e=>by have:=(own_cells oA1 e.symm).1;omega)).trans hh,q1,q2⟩
   exact hMb.kept hg5 (fun e=>hne e.symm)
 · rw [<- hw5]
   intro n hn1 hn2
   have b1:Below n w w1:=below_of_grown hg1 hn2 (by omega)
   have b2:Below n w1 (w1.alloc (.cells #[.string enc] 9)):=hbA.mono (by omega)
   have b3:Below n (w1.alloc (.cells #[.string enc] 9)) w4:=⟨hgrow4.os,hgrow4.tape,hgrow4.output,hgrow4.size,fun k hk=>hgrow4.block k (by simp;omega) (fun e=>by have:=(own_cells oA1 e.symm).1;omega)⟩
   have b4:Below n w4 w5:=below_of_grown hg5 hn1 (by omega)
   exact ((b1.trans b2).trans b3).trans b4
 · rw [<- hw5]
   intro q hq hq1 hq2
   have e1:=hg1.block q (by omega) (fun e=>hq2 (Option.some.inj e))
   have e2:=hbA.block q (by omega)
   have e3:=hgrow4.block q (by simp;omega) (fun e=>by have:=(own_cells oA1 e.symm).1;omega)
   have e4:=hg5.block q (by omega) (fun e=>hq1 (Option.some.inj e))
   exact ((e4.trans e3).trans e2).trans e1
theorem stockAdd_any {K:World -> Prop} (HH:Hid (HashSaid K)) (keep:Hid (∀ w1 w2,K w1 -> Below w1.heap.size w1 w2 -> K w2)) (sb r base wd:Nat) (es:List ByteArray) (a:Option Addr) (c:Nat) (enc:ByteArray) (w:World) (h:StockAt sb r base wd es a c w) (hK:K w) (hs:enc.size <= 1048576) (h1:wd <= 32) (hlen:es.length <= 1048576) :
 Calls prog 116 #[.pointer (some ⟨sb,0,none⟩),.string enc] w fun e w'=>∃ a' c',e=.returned (.tuple #[]) /\ StockAt sb r base wd (es ++ [enc]) a' c' w' /\ ∀ n,n <= sb -> n <= r -> Below n w w' :=
 (stockAdd_all HH keep sb r base wd es a c enc w h hK hs h1 hlen).mono (by rintro e w' ⟨a',c',he,q1,q2,_⟩;exact ⟨a',c',he,q1,q2⟩)
end Go.Proofs.YtibjhkpgaaapaaaGreatDoor
