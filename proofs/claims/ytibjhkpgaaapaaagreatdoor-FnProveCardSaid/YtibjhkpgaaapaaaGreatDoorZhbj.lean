import Derived.Test.YtibjhkpgaaapaaaGreatDoorZhbi
import Derived.Test.YtibjhkpgaaapaaaGreatDoorZhax
import Derived.Test.YtibjhkpgaaapaaaGreatDoorZhbh
import Derived.Test.YtibjhkpgaaapaaaGreatDoorZhbe
import Derived.Test.YtibjhkpgaaapaaaGreatDoorZhay
namespace Go.Proofs.YtibjhkpgaaapaaaGreatDoor
open Go.RowKit Go.Proofs.Sha Tryz
theorem sv_sub (wd:Nat) (ss:List ByteArray):∀ (es ad0 ad:List ByteArray),es.foldl (svStep wd ss) (.go ad0)=.go ad -> (∀ x ∈ ad,x ∈ ad0 \/ x ∈ es) /\ ad.length <= ad0.length + es.length
 | [],ad0,ad,h=>by
  have:ad0=ad:=by injection h
  subst this
  exact ⟨fun x hx=>.inl hx,Nat.le_refl _⟩
 | e :: es,ad0,ad,h=>by
  rw [List.foldl_cons] at h
  cases hf:fst2 wd ss ad0 (hashT wd e) with
  | some u =>
   rw [svStep_some hf] at h
   split at h
   · obtain ⟨a1,a2⟩:=sv_sub wd ss es ad0 ad h
     exact ⟨fun x hx=>(a1 x hx).imp id (List.mem_cons_of_mem _),by rw [List.length_cons];omega⟩
   · rw [sv_stuck wd ss es _ rfl] at h;cases h
  | none =>
   rw [svStep_none hf] at h
   split at h
   · rw [sv_stuck wd ss es _ rfl] at h;cases h
   · obtain ⟨a1,a2⟩:=sv_sub wd ss es _ ad h
     refine ⟨fun x hx=>?_,by rw [List.length_append] at a2;rw [List.length_cons];simp at a2;omega⟩
     rcases a1 x hx with q | q
     · rcases List.mem_append.1 q with q | q
       · exact .inl q
       · exact .inr (by rw [List.mem_singleton.1 q];exact List.mem_cons_self ..)
     · exact .inr (List.mem_cons_of_mem _ q)
structure SmT (xs:List ByteArray) (n s:Nat):Prop where
 len:xs.length <= n
 sz:∀ x ∈ xs,x.size <= s
theorem SmT.getD {xs:List ByteArray} {n s:Nat} (h:SmT xs n s) (j:Nat):(xs.getD j ⟨#[]⟩).size <= s:=by
 rw [List.getD_eq_getElem?_getD]
 cases hx:xs[j]? with
 | none=>exact Nat.zero_le _
 | some y=>exact h.sz y (List.mem_of_getElem? hx)
theorem SmT.app {xs ys:List ByteArray} {n m s:Nat} (h:SmT xs n s) (k:SmT ys m s):SmT (xs ++ ys) (n + m) s :=
 ⟨by rw [List.length_append];have:=h.len;have:=k.len;omega,fun x hx=>(List.mem_append.1 hx).elim (h.sz x) (k.sz x)⟩
theorem saveO_ok {wd:Nat} (h2:wd <= 32) {ss:List ByteArray} {ps:List PairT} {n k:Nat} (hs:SmT ss n 10000) (hp:ps.length <= k) (h0:(saveO (wd:Int) ss ps).cd=0):SmT (saveO (wd:Int) ss ps).xs (n + k) 10000 /\ (saveO (wd:Int) ss ps).root.size <= 32 /\ (saveO (wd:Int) ss ps).n=(wd:Int):=by
 unfold saveO at h0 ⊢
 split at h0
 · rename_i hq
   rw [if_pos hq]
   unfold savO at h0 ⊢
   rw [Int.toNat_natCast] at h0 ⊢
   cases hR:svAll wd ss (encsT wd (cutTree ps)) with
   | full=>rw [hR] at h0;cases h0
   | clash u e=>rw [hR] at h0;cases h0
   | go ad =>
    obtain ⟨a1,a2⟩:=sv_sub wd ss _ [] ad hR
    refine ⟨hs.app ⟨?_,fun x hx=>?_⟩,?_,rfl⟩
    · rw [encsT_len,cutTree_size] at a2
      simp at a2
      omega
    · rcases a1 x hx with q | q
      · cases q
      · exact encsT_size wd _ x q
    · show (rootT wd (cutTree ps)).size <= 32
      have:=rootT_size wd h2 (cutTree ps)
      omega
 · cases h0
structure PSt where
 ss:List ByteArray
 roots:List ByteArray
 ps:List PairT
 z:Nat
def stepP (wd:Nat) (nf:List PairT × Nat × Nat -> List PairT × Nat) (i:Nat) (s:PSt):PSt :=
 ⟨if (saveO (wd:Int) s.ss s.ps).cd=0 then (saveO (wd:Int) s.ss s.ps).xs else s.ss,if (saveO (wd:Int) s.ss s.ps).cd=0 then s.roots ++ [(saveO (wd:Int) s.ss s.ps).root] else s.roots,(nf (s.ps,s.z,14 + 3 * i)).1,(nf (s.ps,s.z,14 + 3 * i)).2⟩
def stP (wd:Nat) (nf:List PairT × Nat × Nat -> List PairT × Nat) (s0:PSt):Nat -> PSt
 | 0=>s0
 | i + 1=>stepP wd nf i (stP wd nf s0 i)
structure PInv (z0 i:Nat) (s:PSt):Prop where
 ps:SmP s.ps (14 + 3 * i)
 z:s.z <= z0 + 13 * i
 ss:SmT s.ss (100 * i) 10000
 roots:SmT s.roots i 32
theorem SArg.grown {a:Option Addr} {ss:List ByteArray} {w w':World} {row:Option Nat} (h:SArg a ss w) (hg:w.grownBy w' row) (hn:∀ b off,a=some ⟨b,off,none⟩ -> 0 < ss.length -> some b ≠ row):SArg a ss w':=by
 refine ⟨h.le,h.sz,fun hp=>?_⟩
 obtain ⟨b,off,e,hb,hc⟩:=h.at_ hp
 exact ⟨b,off,e,Nat.lt_of_lt_of_le hb hg.size,fun j hj=>(hg.cell_far ⟨b,off + j,none⟩ hb (hn b off e hp)).trans (hc j hj)⟩
theorem pool_cell {W:World} {g o:Nat} {n:Int} {v:Option Addr} {m c:Nat} {s:ByteArray} (h:W.heap[g]?=some (.cells #[.int .i64 n,.slice v m c] 31)) (k:W.cell? ⟨g,o,none⟩=some (.string s)):False:=by
 have:=(ZC h o).symm.trans k
 match o with
 | 0=>simp at this
 | 1=>simp at this
 | o + 2=>simp at this
theorem SArg.pool {a:Option Addr} {ss:List ByteArray} {W:World} {g:Nat} {n:Int} {v:Option Addr} {m c:Nat} (hS:SArg a ss W) (h:W.heap[g]?=some (.cells #[.int .i64 n,.slice v m c] 31)) (b off:Nat) (e:a=some ⟨b,off,none⟩) (hp:0 < ss.length):b ≠ g:=fun q=>by
 obtain ⟨b',off',e',_,hc⟩:=hS.at_ hp
 rw [e] at e'
 simp only [Option.some.injEq,Addr.mk.injEq,and_true] at e'
 obtain ⟨rfl,rfl⟩:=e'
 subst q
 exact pool_cell h (hc 0 hp)
theorem PArg.pool {a:Option Addr} {ps:List PairT} {W:World} {g:Nat} {n:Int} {v:Option Addr} {m c:Nat} (hS:PArg a ps W) (h:W.heap[g]?=some (.cells #[.int .i64 n,.slice v m c] 31)) (b off:Nat) (e:a=some ⟨b,off,none⟩) (hp:0 < ps.length):b ≠ g:=fun q=>by
 obtain ⟨b',off',e',_,hc⟩:=hS.at_ hp
 rw [e] at e'
 simp only [Option.some.injEq,Addr.mk.injEq,and_true] at e'
 obtain ⟨rfl,rfl⟩:=e'
 subst q
 exact pool_cell h (hc 0 hp).1
structure PD (w:World) (gq wd:Nat) (ss roots:List ByteArray) (ps:List PairT) (ap:Option Addr) (cp:Nat) (ar:Option Addr) (cr:Nat) (a4:Option Addr) (c4:Nat) (W:World):Prop where
 res:W.heap[w.heap.size]?=some (.cells #[.int .i64 0,.slice none 0 0] 31)
 pool:W.heap[gq]?=some (.cells #[.int .i64 (wd:Int),.slice ap ss.length cp] 31)
 parg:SArg ap ss W
 rown:OwnT w roots ar roots.length cr W
 ppar:PArg a4 ps W
 pcap:ps.length <= c4
 n0:w.heap.size < gq
 n1:∀ b off,ap=some ⟨b,off,none⟩ -> 0 < ss.length -> (Value.slice ar roots.length cr).ownBlock ≠ some b
 n2:∀ b off,a4=some ⟨b,off,none⟩ -> 0 < ps.length -> (Value.slice ar roots.length cr).ownBlock ≠ some b
section
variable {w:World} {gq wd:Nat} {ss roots:List ByteArray} {ps:List PairT} {ap:Option Addr} {cp:Nat} {ar:Option Addr} {cr:Nat} {a4:Option Addr} {c4:Nat} {W W':World}
theorem PD.below (h:PD w gq wd ss roots ps ap cp ar cr a4 c4 W) (hb:Below W.heap.size W W'):PD w gq wd ss roots ps ap cp ar cr a4 c4 W' :=
 ⟨pblk_below hb h.res,pblk_below hb h.pool,h.parg.below hb,h.rown.below hb,h.ppar.below hb,h.pcap,h.n0,h.n1,h.n2⟩
theorem PD.near (h:PD w gq wd ss roots ps ap cp ar cr a4 c4 W) {qs:List PairT} {a5:Option Addr} {c5:Nat} (hb:Below W.heap.size W W') (hP:PArg a5 qs W') (hc:qs.length <= c5) (hg:∀ b off,a5=some ⟨b,off,none⟩ -> W.heap.size <= b \/ (a5=a4 /\ qs=ps)):PD w gq wd ss roots qs ap cp ar cr a5 c5 W':=by
 have k:=h.below hb
 refine ⟨k.res,k.pool,k.parg,k.rown,hP,hc,k.n0,k.n1,fun b off e hp q=>?_⟩
 rcases hg b off e with hl | ⟨hl,hl2⟩
 · have:=(ownG_cells h.rown.own q).2.1
   omega
 · exact h.n2 b off (hl ▸ e) (hl2 ▸ hp) q
theorem PD.take (h:PD w gq wd ss roots ps ap cp ar cr a4 c4 W) {ss':List ByteArray} {ap':Option Addr} {cp':Nat} (hS:SArg ap' ss' W) (hg:∀ b off,ap'=some ⟨b,off,none⟩ -> 0 < ss'.length -> (Value.slice ar roots.length cr).ownBlock ≠ some b) :
 PD w gq wd ss' roots ps ap' cp' ar cr a4 c4 ((W.setCell ⟨gq,0,none⟩ (.int .i64 (wd:Int))).setCell ⟨gq,1,none⟩ (.slice ap' ss'.length cp')):=by
 have hq1:=heap_setCell_same W gq 0 _ 31 (.int .i64 (wd:Int)) h.pool
 have hq2:=heap_setCell_same _ gq 1 _ 31 (.slice ap' ss'.length cp') hq1
 have hgw:w.heap.size <= gq:=Nat.le_of_lt h.n0
 have hne:∀ q,q ≠ gq -> ((W.setCell ⟨gq,0,none⟩ (.int .i64 (wd:Int))).setCell ⟨gq,1,none⟩ (.slice ap' ss'.length cp')).heap[q]?=W.heap[q]?:=fun q hq=>(Below.heap_setCell _ _ _ _ (by show q ≠ gq;exact hq)).trans (Below.heap_setCell _ _ _ _ (by show q ≠ gq;exact hq))
 have hg1:W.grownBy ((W.setCell ⟨gq,0,none⟩ (.int .i64 (wd:Int))).setCell ⟨gq,1,none⟩ (.slice ap' ss'.length cp')) (some gq):=grownBy_trans (grownBy_setCell W gq 0 _) (grownBy_setCell _ gq 1 _)
 refine ⟨(hne _ (Nat.ne_of_lt h.n0)).trans h.res,hq2,hS.grown hg1 (fun b off e hp q=>hS.pool h.pool b off e hp (Option.some.inj q)),⟨ownG_kept h.rown.own (fun q hv _=>hne q (fun e=>?_)),(h.rown.bel.setCell (p:=⟨gq,0,none⟩) hgw _).setCell (p:=⟨gq,1,none⟩) hgw _,h.rown.len⟩,h.ppar.grown hg1 (fun b off e hp q=>h.ppar.pool h.pool b off e hp (Option.some.inj q)),h.pcap,h.n0,hg,h.n2⟩
 obtain ⟨_,_,cur,h9⟩:=ownG_cells h.rown.own hv
 rw [e,h.pool] at h9
 simp at h9
theorem PD.root (h:PD w gq wd ss roots ps ap cp ar cr a4 c4 W) {w5:World} {o:Obj} {g5 c5:Nat} {y:ByteArray} (hown:w5.ownsRow w.heap.size 9 1 (.slice (some ⟨g5,0,none⟩) (roots.length + 1) c5) (roots.length + 1) (roots.map Value.string ++ [.string y])) (hgrow:(W.alloc o).grownBy w5 (Value.slice ar roots.length cr).ownBlock) (hat:(Value.slice ar roots.length cr).ownBlock=some g5 \/ g5=W.heap.size + 1) :
 PD w gq wd ss (roots ++ [y]) ps ap cp (some ⟨g5,0,none⟩) c5 a4 c4 w5:=by
 have hlen:(roots ++ [y]).length=roots.length + 1:=by rw [List.length_append];rfl
 have hblk:∀ {q:Nat} {cs:Array Value},W.heap[q]?=some (.cells cs 31) -> w5.heap[q]?=some (.cells cs 31):=fun {q cs} hq=>by
  have hl:=(Array.getElem?_eq_some_iff.1 hq).1
  refine (hgrow.block q (by simp;omega) (fun e=>?_)).trans ((Below.heap_alloc W o q hl).trans hq)
  obtain ⟨_,_,cur,h9⟩:=ownG_cells h.rown.own e.symm
  rw [hq] at h9
  simp at h9
 have al:Below W.heap.size W (W.alloc o):=(Below.refl _ _).alloc (Nat.le_refl _) _
 have hT:=h.rown.more hown hgrow rfl
 refine ⟨hblk h.res,hblk h.pool,(h.parg.below al).grown hgrow (fun b off e hp q=>h.n1 b off e hp q.symm),by rw [hlen];exact hT,(h.ppar.below al).grown hgrow (fun b off e hp q=>h.n2 b off e hp q.symm),h.pcap,h.n0,fun b off e hp q=>?_,fun b off e hp q=>?_⟩
 · have hq:g5=b:=Option.some.inj q
   subst hq
   rcases hat with r | r
   · exact h.n1 g5 off e hp r
   · obtain ⟨b',off',e',hb',_⟩:=h.parg.at_ hp
     rw [e] at e'
     simp only [Option.some.injEq,Addr.mk.injEq,and_true] at e'
     omega
 · have hq:g5=b:=Option.some.inj q
   subst hq
   rcases hat with r | r
   · exact h.n2 g5 off e hp r
   · obtain ⟨b',off',e',hb',_⟩:=h.ppar.at_ hp
     rw [e] at e'
     simp only [Option.some.injEq,Addr.mk.injEq,and_true] at e'
     omega
end
theorem rangeM_sm (D:Dec) (n:Int) (hdo:∀ wd:Nat,(wd:Int)=n -> DecOk wd D) (ss:List ByteArray) (root lo hi:ByteArray):(rangeM (fndD D n.toNat ss) n ss.length root lo hi).1.length <= 500 /\ SmallP (rangeM (fndD D n.toNat ss) n ss.length root lo hi).1:=by
 by_cases hp:(poolOk n ss.length && hashOk root.size n)=true
 · have hp':1 <= n /\ n <= 32 /\ ss.length <= 20000:=of_decide_eq_true ((Bool.and_eq_true _ _).mp hp).1
   exact rangeM_small (fndD_ok D n.toNat ss (hdo n.toNat (by omega))) n ss.length root lo hi
 · rw [rangeM_bad (by simpa using hp)]
   exact ⟨by decide,nil_small⟩
theorem u8_wf {x:Int} (h:(Lit.int .u8 x).wf=true):0 <= x /\ x < 256:=by
 have e1:IntKind.u8.min=0:=rfl
 have e2:IntKind.u8.max=255:=rfl
 unfold Lit.wf at h
 rw [Bool.and_eq_true,decide_eq_true_eq,decide_eq_true_eq,e1,e2] at h
 omega
theorem BL.of {a:Option Addr} {xs:List Int} {w:World} (hl:xs.length <= 1048576) (hw:∀ x ∈ xs,(Lit.int .u8 x).wf=true)
 (h:0 < xs.length -> ∃ b off:Nat,a=some ⟨b,off,none⟩ /\ b < w.heap.size /\ ∀ j,j < xs.length -> w.cell? ⟨b,off + j,none⟩=some (.int .u8 (xs.getD j 0))):∃ ys:List Nat,ys.length=xs.length /\ Code8 ys /\ BL a ys w:=by
 have hg:∀ j,(xs.map Int.toNat).getD j 0=(xs.getD j 0).toNat:=fun j=>by
  rw [List.getD_eq_getElem?_getD,List.getD_eq_getElem?_getD,List.getElem?_map]
  cases xs[j]? <;> rfl
 have hm:∀ j,0 <= xs.getD j 0 /\ xs.getD j 0 < 256:=fun j=>by
  by_cases hj:j < xs.length
  · have:xs.getD j 0 ∈ xs:=by
     rw [List.getD_eq_getElem?_getD,List.getElem?_eq_getElem hj]
     exact List.getElem_mem hj
    exact u8_wf (hw _ this)
  · rw [List.getD_eq_getElem?_getD,List.getElem?_eq_none (by omega)]
    exact ⟨Int.le_refl _,by decide⟩
 refine ⟨xs.map Int.toNat,List.length_map _,⟨by rw [List.length_map];exact hl,fun j=>?_⟩,⟨fun hp=>?_⟩⟩
 · rw [hg]
   have:=hm j
   omega
 · rw [List.length_map] at hp
   obtain ⟨b,off,ha,hlt,hc⟩:=h hp
   refine ⟨b,off,ha,hlt,fun j hj=>?_⟩
   rw [List.length_map] at hj
   rw [hc j hj,hg,Int.toNat_of_nonneg (hm j).1]
def DecEnc (wd:Nat) (D:Dec):Prop:=∀ k v l r,nodeOk k.size v.size l.size r.size (wd:Int)=true -> D.ok (encS k v l r wd)=true /\ D.k (encS k v l r wd)=k /\ D.v (encS k v l r wd)=v /\ D.l (encS k v l r wd)=l /\ D.r (encS k v l r wd)=r
theorem fst2_more {wd:Nat} {ss ad:List ByteArray} {h u x:ByteArray} (hf:fst2 wd ss ad h=some u):fst2 wd ss (ad ++ [x]) h=some u:=by
 unfold fst2 at hf ⊢
 cases hi:firstI (hitB wd (ss ++ ad) h) (ss.length + ad.length) with
 | none=>rw [hi] at hf;cases hf
 | some i =>
  have hl:=firstI_lt hi
  have e:∀ j,j < ss.length + ad.length -> (ss ++ (ad ++ [x])).getD j ⟨#[]⟩=(ss ++ ad).getD j ⟨#[]⟩:=fun j hj=>by
   rw [<- List.append_assoc,List.getD_eq_getElem?_getD,List.getD_eq_getElem?_getD,List.getElem?_append_left (by rw [List.length_append];exact hj)]
  have h1:firstI (hitB wd (ss ++ (ad ++ [x])) h) (ss.length + ad.length)=some i:=by
   rw [<- hi]
   refine firstI_congr fun j hj=>?_
   unfold hitB
   rw [e j hj]
  have h2:=firstI_up h1 1
  rw [hi] at hf
  rw [List.length_append,List.length_singleton,<- Nat.add_assoc,h2,Option.map_some,e i hl]
  exact hf
theorem fst2_last {wd:Nat} {ss ad:List ByteArray} {e:ByteArray} (hf:fst2 wd ss ad (hashT wd e)=none):fst2 wd ss (ad ++ [e]) (hashT wd e)=some e:=by
 unfold fst2 at hf ⊢
 cases hi:firstI (hitB wd (ss ++ ad) (hashT wd e)) (ss.length + ad.length) with
 | some i=>rw [hi] at hf;cases hf
 | none =>
  have g:(ss ++ (ad ++ [e])).getD (ss.length + ad.length) ⟨#[]⟩=e:=by
   rw [<- List.append_assoc,List.getD_eq_getElem?_getD,List.getElem?_append_right (by rw [List.length_append];exact Nat.le_refl _),List.length_append,Nat.sub_self]
   rfl
  have h1:firstI (hitB wd (ss ++ (ad ++ [e])) (hashT wd e)) (ss.length + ad.length)=none:=by
   rw [<- hi]
   refine firstI_congr fun j hj=>?_
   unfold hitB
   rw [<- List.append_assoc,List.getD_eq_getElem?_getD,List.getD_eq_getElem?_getD,List.getElem?_append_left (by rw [List.length_append];exact hj)]
  have h2:hitB wd (ss ++ (ad ++ [e])) (hashT wd e) (ss.length + ad.length)=true:=by
   unfold hitB
   rw [g]
   exact decide_eq_true rfl
  rw [List.length_append,List.length_singleton,<- Nat.add_assoc,firstI_step_yes h1 h2,Option.map_some,g]
theorem sv_has (wd:Nat) (ss:List ByteArray):∀ (es ad0 ad:List ByteArray),es.foldl (svStep wd ss) (.go ad0)=.go ad -> (∀ h u,fst2 wd ss ad0 h=some u -> fst2 wd ss ad h=some u) /\ ∀ e ∈ es,fst2 wd ss ad (hashT wd e)=some e
 | [],ad0,ad,h=>by
  have:ad0=ad:=by injection h
  subst this
  exact ⟨fun _ _ q=>q,fun e he=>by cases he⟩
 | e :: es,ad0,ad,h=>by
  rw [List.foldl_cons] at h
  cases hf:fst2 wd ss ad0 (hashT wd e) with
  | some u =>
   rw [svStep_some hf] at h
   by_cases hu:u=e
   · subst hu
     rw [if_pos rfl] at h
     obtain ⟨a1,a2⟩:=sv_has wd ss es ad0 ad h
     refine ⟨a1,fun x hx=>?_⟩
     rcases List.mem_cons.1 hx with rfl | hx
     · exact a1 _ _ hf
     · exact a2 x hx
   · rw [if_neg hu,sv_stuck wd ss es _ rfl] at h;cases h
  | none =>
   rw [svStep_none hf] at h
   split at h
   · rw [sv_stuck wd ss es _ rfl] at h;cases h
   · obtain ⟨a1,a2⟩:=sv_has wd ss es _ ad h
     refine ⟨fun q u hq=>a1 q u (fst2_more hq),fun x hx=>?_⟩
     rcases List.mem_cons.1 hx with rfl | hx
     · exact a1 _ _ (fst2_last hf)
     · exact a2 x hx
theorem fnd_of (D:Dec) (wd:Nat) (hD:DecEnc wd D) {ss ad:List ByteArray} {k v l r:ByteArray} (ho:nodeOk k.size v.size l.size r.size (wd:Int)=true) (hf:fst2 wd ss ad (hashT wd (encS k v l r wd))=some (encS k v l r wd)):fndD D wd (ss ++ ad) (hashT wd (encS k v l r wd))=((k,v,l,r),0):=by
 unfold fst2 at hf
 unfold fndD
 rw [List.length_append]
 cases hi:firstI (hitB wd (ss ++ ad) (hashT wd (encS k v l r wd))) (ss.length + ad.length) with
 | none=>rw [hi] at hf;cases hf
 | some i =>
  rw [hi] at hf
  have g:(ss ++ ad).getD i ⟨#[]⟩=encS k v l r wd:=Option.some.inj hf
  obtain ⟨q1,q2,q3,q4,q5⟩:=hD k v l r ho
  show (if D.ok ((ss ++ ad).getD i ⟨#[]⟩)=true then ((D.k ((ss ++ ad).getD i ⟨#[]⟩),D.v ((ss ++ ad).getD i ⟨#[]⟩),D.l ((ss ++ ad).getD i ⟨#[]⟩),D.r ((ss ++ ad).getD i ⟨#[]⟩)),(0:Int)) else ((⟨#[]⟩,⟨#[]⟩,⟨#[]⟩,⟨#[]⟩),3))=_
  rw [g,if_pos q1,q2,q3,q4,q5]
def HasT (fnd:ByteArray -> FN) (wd:Nat):Tr PairT -> Prop
 | .nil=>True
 | .node l x r=>fnd (rootT wd (.node l x r))=((x.1,x.2,rootT wd l,rootT wd r),0) /\ HasT fnd wd l /\ HasT fnd wd r
theorem nodeOk_of {wd:Nat} (h1:1 <= wd) (h2:wd <= 32) {x:PairT} {l r:Tr PairT} (hk:okKey x.1=true) (hv:okVal x.2=true):nodeOk x.1.size x.2.size (rootT wd l).size (rootT wd r).size (wd:Int)=true:=by
 unfold okKey at hk
 unfold okVal at hv
 rw [decide_eq_true_eq] at hk hv
 have hl:=rootT_size wd h2 l
 have hr:=rootT_size wd h2 r
 unfold nodeOk hashOk
 rw [Bool.and_eq_true,Bool.and_eq_true,decide_eq_true_eq]
 refine ⟨by omega,?_,?_⟩
 · rw [Bool.or_eq_true,decide_eq_true_eq,decide_eq_true_eq];omega
 · rw [Bool.or_eq_true,decide_eq_true_eq,decide_eq_true_eq];omega
theorem has_all (D:Dec) (wd:Nat) (hD:DecEnc wd D) (h1:1 <= wd) (h2:wd <= 32) {ss ad:List ByteArray}:∀ (t:Tr PairT),(∀ p ∈ t.inord,okKey p.1=true /\ okVal p.2=true) -> (∀ e ∈ encsT wd t,fst2 wd ss ad (hashT wd e)=some e) -> HasT (fndD D wd (ss ++ ad)) wd t
 | .nil,_,_=>trivial
 | .node l x r,hok,he=>by
  have hx:=hok x (by simp [Tr.inord])
  have hm:encT wd (.node l x r) ∈ encsT wd (.node l x r):=by simp [encsT]
  refine ⟨?_,has_all D wd hD h1 h2 l (fun p hp=>hok p (by simp [Tr.inord,hp])) (fun e q=>he e (by simp [encsT,q])),has_all D wd hD h1 h2 r (fun p hp=>hok p (by simp [Tr.inord,hp])) (fun e q=>he e (by simp [encsT,q]))⟩
  exact fnd_of D wd hD (nodeOk_of h1 h2 hx.1 hx.2) (he _ hm)
theorem goF_tree {fnd:ByteArray -> FN} {wd:Nat} (h1:1 <= wd) (h2:wd <= 32):∀ (t:Tr PairT) (f:Nat) (over under par:ByteArray) (cnt:Nat),t.size < f -> t.heap abP -> KeysUp (keys t.inord) -> (∀ p ∈ t.inord,lessB over p.1=true /\ (emp under=true \/ lessB p.1 under=true) /\ (emp par=true \/ hgW par p.1=true)) -> cnt + t.size <= 500 -> HasT fnd wd t -> goF fnd hgW ⟨#[]⟩ ⟨#[]⟩ f (rootT wd t) over under par cnt=(0,cnt + t.size,t.inord)
 | .nil,0,_,_,_,_,h,_,_,_,_,_=>by simp [Tr.size] at h
 | .nil,f + 1,over,under,par,cnt,_,_,_,_,_,_=>by
  rw [goF_skip (by rfl)]
  rfl
 | .node l x r,0,_,_,_,_,h,_,_,_,_,_=>by simp at h
 | .node l x r,f + 1,over,under,par,cnt,hf,hh,hk,hp,hc,hs=>by
  obtain ⟨q1,q2,q3,q4⟩:=hh
  obtain ⟨s1,s2,s3⟩:=hs
  have h':KeysUp (keys l.inord ++ x.1 :: keys r.inord):=by
   have e:keys (Tr.node l x r).inord=keys l.inord ++ x.1 :: keys r.inord:=by simp [Tr.inord,keys]
   rw [<- e];exact hk
  obtain ⟨k1,⟨k4,k5⟩,k3⟩:=ku_app h'
  have hlx:∀ y ∈ l.inord,lessB y.1 x.1=true:=fun y hy=>k3 _ (mem_keys hy) _ (List.mem_cons_self ..)
  have hxr:∀ y ∈ r.inord,lessB x.1 y.1=true:=fun y hy=>k4 _ (mem_keys hy)
  have hx:=hp x (by simp [Tr.inord])
  simp only [Tr.size] at hf hc
  have hrs:emp (rootT wd (.node l x r))=false:=by
   unfold emp
   have:(rootT wd (.node l x r)).size=wd:=digB_size _ _ h2
   rw [this,decide_eq_false]
   omega
  have hL:=goF_tree h1 h2 l f over x.1 x.1 (cnt + 1) (by omega) q3 k1 (fun p hpl=>⟨(hp p (by simp [Tr.inord,hpl])).1,.inr (hlx p hpl),.inr (q1 p hpl)⟩) (by omega) s2
  have hR:=goF_tree h1 h2 r f x.1 under x.1 (cnt + 1 + l.size) (by omega) q4 k5 (fun p hpr=>⟨hxr p hpr,(hp p (by simp [Tr.inord,hpr])).2.1,.inr (q2 p hpr)⟩) (by omega) s3
  have hins:(insW over under x.1 && parW hgW par x.1)=true:=by
   unfold insW parW
   rw [hx.1,Bool.true_and,Bool.and_eq_true,Bool.or_eq_true,Bool.or_eq_true]
   exact ⟨hx.2.1,hx.2.2⟩
  rw [goF_node (by rw [hrs,canW_all];rfl) s1 hins (by omega) hL hR,if_neg (by simp),if_neg (by simp),hasW_all,if_pos rfl]
  simp only [Tr.size,Tr.inord,Prod.mk.injEq,true_and]
  refine ⟨by omega,?_⟩
  rw [List.append_assoc]
  rfl
theorem ku_of_map {ps:List PairT} (h:isMapT ps=true):KeysUp (keys ps):=by
 have hm:mapTo ps ps.length=true:=by
  unfold isMapT at h
  exact ((Bool.and_eq_true _ _).mp h).2
 have key:∀ (l:List PairT),(∀ i j,i < j -> j < l.length -> lessB (l.getD i noPair).1 (l.getD j noPair).1=true) -> KeysUp (keys l):=by
  intro l
  induction l with
  | nil=>intro _;trivial
  | cons x xs ih =>
   intro hl
   refine ⟨fun k hk=>?_,ih fun i j hij hj=>?_⟩
   · obtain ⟨p,hp,rfl⟩:=List.mem_map.1 hk
     obtain ⟨i,hi,rfl⟩:=List.getElem_of_mem hp
     have:=hl 0 (i + 1) (by omega) (by simpa using hi)
     have e0:(x :: xs).getD 0 noPair=x:=by simp [List.getD_eq_getElem?_getD]
     have e1:(x :: xs).getD (i + 1) noPair=xs[i]:=by simp [List.getD_eq_getElem?_getD,hi]
     rw [e0,e1] at this
     exact this
   · have:=hl (i + 1) (j + 1) (by omega) (by simpa using hj)
     have e0:∀ q,(x :: xs).getD (q + 1) noPair=xs.getD q noPair:=fun q=>by simp [List.getD_eq_getElem?_getD]
     rw [e0,e0] at this
     exact this
 refine key ps fun i j hij hj=>?_
 have:=mapTo_less ps ps.length hm i j hij hj
 unfold lessB
 rw [ByteArray.toList_eq,ByteArray.toList_eq]
 exact this
theorem firstI_is {p:Nat -> Bool}:∀ {k i:Nat},firstI p k=some i -> p i=true
 | 0,i,h=>by simp [firstI] at h
 | k + 1,i,h=>by
  rw [firstI] at h
  cases hk:firstI p k with
  | some j =>
   rw [hk] at h
   cases h
   exact firstI_is hk
  | none =>
   rw [hk] at h
   simp only at h
   split at h
   · cases h;assumption
   · cases h
theorem fst2_is {wd:Nat} {ss ad:List ByteArray} {e u:ByteArray} (h:fst2 wd ss ad (hashT wd e)=some u):hashT wd u=hashT wd e /\ u ∈ ss ++ ad:=by
 unfold fst2 at h
 cases hi:firstI (hitB wd (ss ++ ad) (hashT wd e)) (ss.length + ad.length) with
 | none=>rw [hi] at h;cases h
 | some i =>
  rw [hi] at h
  simp only [Option.map_some,Option.some.injEq] at h
  have h1:=firstI_is hi
  have hl:=firstI_lt hi
  unfold hitB at h1
  rw [h,decide_eq_true_eq] at h1
  refine ⟨?_,?_⟩
  · unfold hashT at h1 ⊢
    simp only at h1
    rw [h1]
  · rw [<- h,List.getD_eq_getElem?_getD,List.getElem?_eq_getElem (by rw [List.length_append];omega)]
    exact List.getElem_mem _
theorem sv_ends (wd:Nat) (ss:List ByteArray):∀ (es ad0:List ByteArray),(∀ u e,es.foldl (svStep wd ss) (.go ad0)=.clash u e -> u ≠ e /\ hashT wd u=hashT wd e /\ (u ∈ ss \/ u ∈ ad0 \/ u ∈ es) /\ e ∈ es) /\ (es.foldl (svStep wd ss) (.go ad0)=.full -> 20000 <= ss.length + ad0.length + es.length)
 | [],ad0=>⟨fun u e h=>(by cases h),fun h=>(by cases h)⟩
 | e :: es,ad0=>by
  rw [List.foldl_cons]
  cases hf:fst2 wd ss ad0 (hashT wd e) with
  | some u =>
   rw [svStep_some hf]
   split
   · obtain ⟨a1,a2⟩:=sv_ends wd ss es ad0
     refine ⟨fun u' e' h=>?_,fun h=>by have:=a2 h;rw [List.length_cons];omega⟩
     obtain ⟨b1,b2,b3,b4⟩:=a1 u' e' h
     exact ⟨b1,b2,b3.imp id (fun q=>q.imp id (List.mem_cons_of_mem _)),List.mem_cons_of_mem _ b4⟩
   · rename_i hne
     rw [sv_stuck wd ss es _ rfl]
     refine ⟨fun u' e' h=>?_,fun h=>by cases h⟩
     cases h
     obtain ⟨b1,b2⟩:=fst2_is hf
     refine ⟨hne,b1,?_,List.mem_cons_self⟩
     rcases List.mem_append.1 b2 with q | q
     · exact .inl q
     · exact .inr (.inl q)
  | none =>
   rw [svStep_none hf]
   split
   · rename_i hfl
     rw [sv_stuck wd ss es _ rfl]
     refine ⟨fun u' e' h=>(by cases h),fun _=>?_⟩
     rw [List.length_cons]
     omega
   · obtain ⟨a1,a2⟩:=sv_ends wd ss es (ad0 ++ [e])
     refine ⟨fun u' e' h=>?_,fun h=>by have:=a2 h;rw [List.length_append] at this;rw [List.length_cons];simp at this;omega⟩
     obtain ⟨b1,b2,b3,b4⟩:=a1 u' e' h
     refine ⟨b1,b2,?_,List.mem_cons_of_mem _ b4⟩
     rcases b3 with q | q | q
     · exact .inl q
     · rcases List.mem_append.1 q with q | q
       · exact .inr (.inl q)
       · exact .inr (.inr (by rw [List.mem_singleton.1 q];exact List.mem_cons_self))
     · exact .inr (.inr (List.mem_cons_of_mem _ q))
theorem savO_cases {wd n k s:Nat} {ss:List ByteArray} {ps:List PairT} (hs:SmT ss n s) (h10:10000 <= s) (hp:ps.length <= k) (hnk:n + k < 20000) :
 (∃ ad,svAll wd ss (encsT wd (cutTree ps))=.go ad /\ savO wd ss (cutTree ps)=⟨0,(wd:Int),ss ++ ad,rootT wd (cutTree ps),⟨#[]⟩,⟨#[]⟩⟩ /\ SmT (ss ++ ad) (n + k) s) ∨
 (∃ u e,savO wd ss (cutTree ps)=⟨4,(wd:Int),ss,⟨#[]⟩,txt u,txt e⟩ /\ u ≠ e /\ hashT wd u=hashT wd e /\ u.size <= s /\ e.size <= s):=by
 have hen:=sv_ends wd ss (encsT wd (cutTree ps)) []
 unfold savO
 cases hR:svAll wd ss (encsT wd (cutTree ps)) with
 | full =>
  have:=hen.2 hR
  rw [encsT_len,cutTree_size] at this
  have h1:=hs.len
  simp at this
  omega
 | clash u e =>
  obtain ⟨b1,b2,b3,b4⟩:=hen.1 u e hR
  refine .inr ⟨u,e,rfl,b1,b2,?_,Nat.le_trans (encsT_size wd _ e b4) h10⟩
  rcases b3 with q | q | q
  · exact hs.sz u q
  · cases q
  · exact Nat.le_trans (encsT_size wd _ u q) h10
 | go ad =>
  obtain ⟨a1,a2⟩:=sv_sub wd ss _ [] ad hR
  refine .inl ⟨ad,rfl,rfl,hs.app ⟨?_,fun x hx=>?_⟩⟩
  · rw [encsT_len,cutTree_size] at a2
    simp at a2
    omega
  · rcases a1 x hx with q | q
    · cases q
    · exact Nat.le_trans (encsT_size wd _ x q) h10
end Go.Proofs.YtibjhkpgaaapaaaGreatDoor
