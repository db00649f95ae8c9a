import Derived.Test.YtibjhkpgaaapaaaGreatDoorZhad
import Derived.Test.YtibjhkpgaaapaaaGreatDoorZhab
import Derived.Deep.Cut
import Derived.Deep.RegionHeld3
import Derived.Lib.Builder
import Derived.Deep.QuietTactic
import Derived.BigQuiet
import Derived.Test.YtibjhkpgaaapaaaGreatDoorProg
import Derived.Test.YtibjhkpgaaapaaaGreatDoorZhaa
import Derived.WalkSpells
import Derived.WalkLawsBesides
import Derived.StillTactics
import Derived.Laws.Pointers
import Derived.Deep.AppendLies
import Derived.WalkKit
set_option maxRecDepth 100000
set_option maxHeartbeats 400000
namespace Go.Proofs.YtibjhkpgaaapaaaGreatDoor
open Go.RowKit Go.Proofs.Sha Tryz
abbrev FN:=(ByteArray × ByteArray × ByteArray × ByteArray) × Int
structure FndOk (wd:Nat) (fnd:ByteArray -> FN):Prop where
 code:∀ h,(fnd h).2=0 \/ (fnd h).2=2 \/ (fnd h).2=3
 node:∀ h,(fnd h).2=0 -> okKey (fnd h).1.1=true /\ okVal (fnd h).1.2.1=true /\ ((fnd h).1.2.2.1.size=0 \/ (fnd h).1.2.2.1.size=wd) /\ ((fnd h).1.2.2.2.size=0 \/ (fnd h).1.2.2.2.size=wd)
def lessB (a b:ByteArray):Bool:=Op.bytesLess a.toList b.toList
def emp (a:ByteArray):Bool:=decide (a.size=0)
def canW (over under lo hi:ByteArray):Bool:=(emp hi || (lessB lo hi && lessB over hi)) && (emp under || lessB lo under)
def insW (over under k:ByteArray):Bool:=lessB over k && (emp under || lessB k under)
def hasW (lo hi k:ByteArray):Bool:=!lessB k lo && (emp hi || lessB k hi)
def parW (hg:ByteArray -> ByteArray -> Bool) (par k:ByteArray):Bool:=emp par || hg par k
def goF (fnd:ByteArray -> FN) (hg:ByteArray -> ByteArray -> Bool) (lo hi:ByteArray):Nat -> ByteArray -> ByteArray -> ByteArray -> ByteArray -> Nat -> Int × Nat × List PairT
 | 0,_,_,_,_,_=>(9,0,[])
 | f + 1,hash,over,under,par,cnt =>
  if (emp hash || !canW over under lo hi)=true then (0,cnt,[]) else
  if (fnd hash).2=2 then (2,0,[]) else
  if (fnd hash).2 ≠ 0 then (3,0,[]) else
  if (insW over under (fnd hash).1.1 && parW hg par (fnd hash).1.1)=false then (3,0,[]) else
  if 500 < cnt + 1 then (6,0,[]) else
  if (goF fnd hg lo hi f (fnd hash).1.2.2.1 over (fnd hash).1.1 (fnd hash).1.1 (cnt + 1)).1 ≠ 0 then ((goF fnd hg lo hi f (fnd hash).1.2.2.1 over (fnd hash).1.1 (fnd hash).1.1 (cnt + 1)).1,0,[]) else
  if (goF fnd hg lo hi f (fnd hash).1.2.2.2 (fnd hash).1.1 under (fnd hash).1.1 (goF fnd hg lo hi f (fnd hash).1.2.2.1 over (fnd hash).1.1 (fnd hash).1.1 (cnt + 1)).2.1).1 ≠ 0 then ((goF fnd hg lo hi f (fnd hash).1.2.2.2 (fnd hash).1.1 under (fnd hash).1.1 (goF fnd hg lo hi f (fnd hash).1.2.2.1 over (fnd hash).1.1 (fnd hash).1.1 (cnt + 1)).2.1).1,0,[]) else
  (0,(goF fnd hg lo hi f (fnd hash).1.2.2.2 (fnd hash).1.1 under (fnd hash).1.1 (goF fnd hg lo hi f (fnd hash).1.2.2.1 over (fnd hash).1.1 (fnd hash).1.1 (cnt + 1)).2.1).2.1,
   (goF fnd hg lo hi f (fnd hash).1.2.2.1 over (fnd hash).1.1 (fnd hash).1.1 (cnt + 1)).2.2 ++ (if hasW lo hi (fnd hash).1.1=true then [((fnd hash).1.1,(fnd hash).1.2.1)] else []) ++
   (goF fnd hg lo hi f (fnd hash).1.2.2.2 (fnd hash).1.1 under (fnd hash).1.1 (goF fnd hg lo hi f (fnd hash).1.2.2.1 over (fnd hash).1.1 (fnd hash).1.1 (cnt + 1)).2.1).2.2)
section
variable {fnd:ByteArray -> FN} {hg:ByteArray -> ByteArray -> Bool} {lo hi:ByteArray}
theorem goF_skip {f:Nat} {hash over under par:ByteArray} {cnt:Nat} (h:(emp hash || !canW over under lo hi)=true):goF fnd hg lo hi (f + 1) hash over under par cnt=(0,cnt,[]):=by rw [goF,if_pos h]
theorem goF_missing {f:Nat} {hash over under par:ByteArray} {cnt:Nat} (h:(emp hash || !canW over under lo hi)=false) (h2:(fnd hash).2=2):goF fnd hg lo hi (f + 1) hash over under par cnt=(2,0,[]):=by rw [goF,if_neg (by rw [h];decide),if_pos h2]
theorem goF_corrupt {f:Nat} {hash over under par:ByteArray} {cnt:Nat} (h:(emp hash || !canW over under lo hi)=false) (h2:(fnd hash).2=3):goF fnd hg lo hi (f + 1) hash over under par cnt=(3,0,[]):=by rw [goF,if_neg (by rw [h];decide),if_neg (by rw [h2];decide),if_pos (by rw [h2];decide)]
theorem goF_place {f:Nat} {hash over under par:ByteArray} {cnt:Nat} (h:(emp hash || !canW over under lo hi)=false) (h2:(fnd hash).2=0) (h3:(insW over under (fnd hash).1.1 && parW hg par (fnd hash).1.1)=false):goF fnd hg lo hi (f + 1) hash over under par cnt=(3,0,[]):=by
 rw [goF,if_neg (by rw [h];decide),if_neg (by rw [h2];decide),if_neg (by rw [h2];decide),if_pos h3]
theorem goF_many {f:Nat} {hash over under par:ByteArray} {cnt:Nat} (h:(emp hash || !canW over under lo hi)=false) (h2:(fnd hash).2=0) (h3:(insW over under (fnd hash).1.1 && parW hg par (fnd hash).1.1)=true) (h4:500 < cnt + 1):goF fnd hg lo hi (f + 1) hash over under par cnt=(6,0,[]):=by
 rw [goF,if_neg (by rw [h];decide),if_neg (by rw [h2];decide),if_neg (by rw [h2];decide),if_neg (by rw [h3];decide),if_pos h4]
theorem goF_node {f:Nat} {hash over under par:ByteArray} {cnt:Nat} {k v l r:ByteArray} (h:(emp hash || !canW over under lo hi)=false) (h2:fnd hash=((k,v,l,r),0)) (h3:(insW over under k && parW hg par k)=true) (h4:cnt + 1 <= 500)
 {L R:Int × Nat × List PairT} (hL:goF fnd hg lo hi f l over k k (cnt + 1)=L) (hR:goF fnd hg lo hi f r k under k L.2.1=R) :
 goF fnd hg lo hi (f + 1) hash over under par cnt=if L.1 ≠ 0 then (L.1,0,[]) else if R.1 ≠ 0 then (R.1,0,[]) else (0,R.2.1,L.2.2 ++ (if hasW lo hi k=true then [(k,v)] else []) ++ R.2.2):=by
 rw [goF,h2]
 simp only [hL,hR]
 rw [if_neg (by rw [h];decide),if_neg (by decide),if_neg (by simp),if_neg (by rw [h3];decide),if_neg (by omega)]
theorem goF_cnt:∀ (f:Nat) (hash over under par:ByteArray) (cnt:Nat),cnt <= 500 -> (goF fnd hg lo hi f hash over under par cnt).1=0 -> cnt <= (goF fnd hg lo hi f hash over under par cnt).2.1 /\ (goF fnd hg lo hi f hash over under par cnt).2.1 <= 500
 | 0,_,_,_,_,_,_,h=>by rw [goF] at h;exact absurd h (by decide)
 | f + 1,hash,over,under,par,cnt,hc,h=>by
  cases h1:(emp hash || !canW over under lo hi) with
  | true=>rw [goF_skip h1] at h ⊢;exact ⟨Nat.le_refl _,hc⟩
  | false =>
   by_cases h2:(fnd hash).2=2
   · rw [goF_missing h1 h2] at h;exact absurd h (by decide)
   · by_cases h20:(fnd hash).2=0
     · cases h3:(insW over under (fnd hash).1.1 && parW hg par (fnd hash).1.1) with
       | false=>rw [goF_place h1 h20 h3] at h;exact absurd h (by decide)
       | true =>
        by_cases h4:500 < cnt + 1
        · rw [goF_many h1 h20 h3 h4] at h;exact absurd h (by decide)
        · have e:fnd hash=(((fnd hash).1.1,(fnd hash).1.2.1,(fnd hash).1.2.2.1,(fnd hash).1.2.2.2),0):=by rw [<- h20]
          rw [goF_node h1 e h3 (by omega) rfl rfl] at h ⊢
          have il:=goF_cnt f (fnd hash).1.2.2.1 over (fnd hash).1.1 (fnd hash).1.1 (cnt + 1) (by omega)
          split at h
          · rename_i q;exact absurd h q
          · rename_i q
            have il:=il (by simpa using q)
            split at h
            · rename_i q2;exact absurd h q2
            · rename_i q2
              have ir:=goF_cnt f (fnd hash).1.2.2.2 (fnd hash).1.1 under (fnd hash).1.1 _ il.2 (by simpa using q2)
              rw [if_neg q,if_neg q2]
              exact ⟨Nat.le_trans (Nat.le_trans (Nat.le_succ _) il.1) ir.1,ir.2⟩
     · rw [goF,if_neg (by rw [h1];decide),if_neg h2,if_pos h20] at h;exact absurd h (by decide)
end
def BR (b:Nat) (hash over under:ByteArray) (par:Option Addr) (w:World):Prop:=w.heap[b]?=some (.cells #[.string hash,.string over,.string under,.pointer par,.string ⟨#[]⟩,.string ⟨#[]⟩,.string ⟨#[]⟩,.string ⟨#[]⟩,.pointer none,.pointer none] 225)
def BF (b:Nat) (hash over under:ByteArray) (par:Option Addr) (k v l r:ByteArray) (pl pr:Option Addr) (w:World):Prop:=w.heap[b]?=some (.cells #[.string hash,.string over,.string under,.pointer par,.string k,.string v,.string l,.string r,.pointer pl,.pointer pr] 225)
theorem emp_iff (s:ByteArray):s.toList.isEmpty=emp s:=by
 rw [ByteArray.toList_eq]
 unfold emp
 by_cases h:s.size=0
 · rw [decide_eq_true h]
   have:s.data.toList.length=0:=h
   rw [List.length_eq_zero_iff.1 this];rfl
 · rw [decide_eq_false h]
   have:s.data.toList.length ≠ 0:=h
   cases hs:s.data.toList with
   | nil=>rw [hs] at this;exact absurd rfl this
   | cons a b=>rfl
theorem branchAt_none (over under:ByteArray) (par:Option Addr) (w:World):Calls prog 148 #[.string ⟨#[]⟩,.agg #[.string over,.string under,.pointer par]] w fun e w'=>e=.returned (.pointer none) /\ Below w.heap.size w w':=by
 have hb:Below w.heap.size w (w.alloc (.cells #[.string over,.string under,.pointer par] 144)):=(Below.refl _ _).alloc (Nat.le_refl _) _
 go_enter func148,ntmps148
 go_wp2_with fail
 go_ret
 exact ⟨rfl,hb⟩
theorem branchAt_some (hash over under:ByteArray) (par:Option Addr) (w:World) (hn:emp hash=false):Calls prog 148 #[.string hash,.agg #[.string over,.string under,.pointer par]] w fun e w'=>(∃ b,e=.returned (.pointer (some ⟨b,0,none⟩)) /\ w.heap.size <= b /\ BR b hash over under par w') /\ Below w.heap.size w w':=by
 have hz:hash.toList.isEmpty=false:=(emp_iff hash).trans hn
 have hb:Below w.heap.size w ((w.alloc (.cells #[.string over,.string under,.pointer par] 144)).alloc (.cells #[.string hash,.string over,.string under,.pointer par,.string ⟨#[]⟩,.string ⟨#[]⟩,.string ⟨#[]⟩,.string ⟨#[]⟩,.pointer none,.pointer none] 225)):=((Below.refl _ _).alloc (Nat.le_refl _) _).alloc (by simp) _
 have nA:=heap_alloc_new (w.alloc (.cells #[.string over,.string under,.pointer par] 144)) (.cells #[.string hash,.string over,.string under,.pointer par,.string ⟨#[]⟩,.string ⟨#[]⟩,.string ⟨#[]⟩,.string ⟨#[]⟩,.pointer none,.pointer none] 225)
 rw [World.size_alloc] at nA
 go_enter func148,ntmps148
 go_wp2_with fail
 go_ret
 exact ⟨⟨w.heap.size + 1,rfl,by omega,nA⟩,hb⟩
theorem info5:(prog.info? 5).map (fun i=>(i.zero,i.size,i.bytes))=some (some (.int .u8 0),1,1):=by kernel_rfl
theorem padded_any (s:ByteArray) (w:World) (hs:s.size <= 1048576) :
 Calls prog 122 #[.string s] w fun e w'=>∃ g cap,e=.returned (.slice (some ⟨g,0,none⟩) (pad s.data.toList).length cap) /\ Row w' w.heap.size g (pad s.data.toList).length cap ((pad s.data.toList).map B) /\ Below w.heap.size w w':=by
 obtain ⟨i0,hi0,hz0,hz1,hz2⟩:=info_parts info5
 have hl:s.data.toList.length=s.size:=rfl
 go_enter func122,ntmps122
 go_wp2_with (first | (refine wpList_bytes_row _ rfl (.tmp 6) 9 41 5 rfl s rfl Tryz.underlying9 Tryz.underlying41 Tryz.underlying5 ?_;intro g0 cap0 w0 hrow0 hbel0) | (at_builtin;refine wpList_append_row _ rfl (.tmp 8) (.tmp 9) 41 rfl 5 i0 (.int .u8 0) 1 Tryz.underlying41 hi0 hz0 hz1 hz2 rfl w.heap.size g0 s.size cap0 _ rfl (hrow0.alloc _) ⟨w0.heap.size,0,none⟩ 1 1 [.int .u8 128] rfl rfl (World.news_of_block (heap_alloc_new w0 _)) (by simp [Value.oneCell']) (by unfold maxLen;omega) (by omega) (by have:=hbel0.size;simp;omega) (w0.heap.size + 1) (by simp) ?_;intro g1 cap1 w1 hrow1 hgrow1 _ _))
 have hbel1:Below w.heap.size w w1:=(hbel0.alloc hbel0.size _).grown hgrow1 (by have:=hbel0.size;simp;omega) (fun q hq=>by cases hq;exact hrow0.ge)
 have hrow1':Row w1 w.heap.size g1 (s.size + 1 + 0) cap1 ((s.data.toList ++ [128] ++ List.replicate 0 0).map B):=by simpa [B] using hrow1
 clear hgrow1 hrow1 hrow0 hbel0
 go_loopw [3] (fun v wr=>∃ j g cap:Nat,j <= zpad s.size /\ v=.slice (some ⟨g,0,none⟩) (s.size + 1 + j) cap /\ Row wr w.heap.size g (s.size + 1 + j) cap ((s.data.toList ++ [128] ++ List.replicate j 0).map B) /\ Below w.heap.size w wr) (fun v _=>zpad s.size + s.size + 1 - lenOf v)
 case atStart=>exact ⟨0,g1,cap1,Nat.zero_le _,rfl,hrow1',hbel1⟩
 case round =>
  clear hrow1' hbel1
  obtain ⟨j,g,cap,hj,rfl,hrow,hbel⟩:=hrel
  have hsz:=hbel.size
  have hge:=hrow.ge
  have hz:=zpad_lt s.size
  by_cases hlt:j < zpad s.size
  · have hm:=zpad_ne s.size j hlt
    go_wp2_with (at_builtin;refine wpList_append_row _ rfl (.tmp 15) (.tmp 16) 41 rfl 5 i0 (.int .u8 0) 1 Tryz.underlying41 hi0 hz0 hz1 hz2 rfl w.heap.size g (s.size + 1 + j) cap _ rfl (hrow.alloc _) ⟨wr.heap.size,0,none⟩ 1 1 [.int .u8 0] rfl rfl (World.news_of_block (heap_alloc_new wr _)) (by simp [Value.oneCell']) (by unfold maxLen;omega) (by omega) (by simp;omega) (wr.heap.size + 1) (by simp) ?_;intro g2 cap2 w2 hrow2 hgrow2 _ _)
    go_roundw
    case rel =>
     have e:(s.data.toList ++ [128] ++ List.replicate j 0).map B ++ [.int .u8 0]=(s.data.toList ++ [128] ++ List.replicate (j + 1) 0).map B:=by
      rw [List.replicate_succ',<- List.append_assoc,List.map_append (l₂:=[0])];rfl
     rw [e] at hrow2
     exact ⟨j + 1,g2,cap2,by omega,rfl,hrow2,(hbel.alloc hsz _).grown hgrow2 (by simp;omega) (fun q hq=>by cases hq;exact hge)⟩
    case measure=>simp [lenOf];omega
  · obtain rfl:j=zpad s.size:=by omega
    have hm:=zpad_eq s.size
    have hm':((((s.size:Int) + 1 + ((zpad s.size:Nat):Int)) % 64) != 56)=false:=by
     rw [bne_eq_false_iff_eq];omega
    go_wp2_with fail
    try rw [hm']
    go_loopw [3,5] (fun v i wr=>∃ k g cap:Nat,k <= 8 /\ i=.int .i64 (7 - (k:Int)) /\ v=.slice (some ⟨g,0,none⟩) (s.size + 1 + zpad s.size + k) cap /\ Row wr w.heap.size g (s.size + 1 + zpad s.size + k) cap ((s.data.toList ++ [128] ++ List.replicate (zpad s.size) 0 ++ beTo (8 * s.size) k).map B) /\ Below w.heap.size w wr) (fun v _ _=>zpad s.size + s.size + 9 - lenOf v)
    case atStart=>exact ⟨0,g,cap,by omega,rfl,rfl,by simpa [beTo] using hrow,hbel⟩
    case round =>
     clear hrow hbel hge hsz
     obtain ⟨k,g,cap,hk,rfl,rfl,hrow,hbel⟩:=hrel
     have hsz:=hbel.size
     have hge:=hrow.ge
     by_cases hlt2:k < 8
     · go_wp2_with (at_builtin;refine wpList_append_row _ rfl (.tmp 26) (.tmp 33) 41 rfl 5 i0 (.int .u8 0) 1 Tryz.underlying41 hi0 hz0 hz1 hz2 rfl w.heap.size g (s.size + 1 + zpad s.size + k) cap _ rfl (hrow.alloc _) ⟨wr.heap.size,0,none⟩ 1 1 [_] rfl rfl (World.news_of_block (heap_alloc_new wr _)) (by simp [Value.oneCell']) (by unfold maxLen;omega) (by omega) (by simp;omega) (wr.heap.size + 1) (by simp) ?_;intro g2 cap2 w2 hrow2 hgrow2 _ _)
       go_roundw
       case rel =>
        rw [lenByte_form] at hrow2
        have e:(s.data.toList ++ [128] ++ List.replicate (zpad s.size) 0 ++ beTo (8 * s.size) k).map B ++ [.int .u8 ((lenByte (8 * s.size) (7 - k)).toNat:Int)]=(s.data.toList ++ [128] ++ List.replicate (zpad s.size) 0 ++ beTo (8 * s.size) (k + 1)).map B:=by
         rw [beTo_succ,<- List.append_assoc,List.map_append (l₂:=[lenByte (8 * s.size) (7 - k)])];rfl
        rw [e] at hrow2
        exact ⟨k + 1,g2,cap2,by omega,by go_num,rfl,hrow2,(hbel.alloc hsz _).grown hgrow2 (by simp;omega) (fun q hq=>by cases hq;exact hge)⟩
       case measure=>simp [lenOf];omega
     · obtain rfl:k=8:=by omega
       go_wp2
       go_ret
       have e:pad s.data.toList=s.data.toList ++ [128] ++ List.replicate (zpad s.size) 0 ++ beTo (8 * s.size) 8:=by rw [pad,hl]
       have e2:(pad s.data.toList).length=s.size + 1 + zpad s.size + 8:=by rw [pad_length,hl];omega
       rw [e2,e]
       exact ⟨g,cap,rfl,hrow,hbel⟩
end Go.Proofs.YtibjhkpgaaapaaaGreatDoor
namespace Go.Proofs.Sha
open Go Go.RowKit
section
variable {P:Program} (w:World)
theorem run_append_keep (t ty:TypeId) (base:Nat) (e:TypeId) (i:TypeInfo) (z:Value) (size bytes:Nat) (ht:P.underlying t=some (.slice e)) (hi:P.info? e=some i) (hz:i.zero=some z)
 (hsize:i.size=size) (hby:i.bytes=bytes) (hzs:z.cells.size=size) (hsz:0 < size)
 (g n cap:Nat) (xs:List Value) (hown:w.ownsRow base e size (.slice (some ⟨g,0,none⟩) n cap) n xs)
 (ad:Addr) (m c:Nat) (news:List Value) (hl:news.length=m * size) (hnews:∀ j u,news[j]?=some u -> w.cell? (ad.add j)=some u) (h1:∀ u ∈ news,u.oneCell'=true)
 (hm:0 < m) (h63:n + m <= maxLen) (hbytes:(n + m) * bytes <= 140737488355328) (hbase:base <= w.heap.size) (H:Nat) (hH:w.heap.size=H) :
 ∃ g' cap' w',(Builtin.append_ #[t,t] ty #[.slice (some ⟨g,0,none⟩) n cap,.slice (some ad) m c]).run P w=.ok (.slice (some ⟨g',0,none⟩) (n + m) cap') w' ∧
  w'.ownsRow base e size (.slice (some ⟨g',0,none⟩) (n + m) cap') (n + m) (xs ++ news) /\ w.grownBy w' (some g) /\ (g'=g \/ g'=H) /\ g' < w'.heap.size ∧
  (∀ j,j < n * size -> w'.cell? ⟨g,j,none⟩=w.cell? ⟨g,j,none⟩):=by
 obtain ⟨g',cap',w',hr,h2,h3,h4,h5⟩:=run_append_lies (P:=P) w t ty base e i z size bytes ht hi hz hsize hby hzs hsz _ n xs hown ad m c news hl hnews h1 hm h63 hbytes hbase H hH
 refine ⟨g',cap',w',hr,h2,h3,?_,h5,?_⟩
 · rcases h4 with h4 | h4
   · left
     simpa [Value.ownBlock] using h4.symm
   · exact .inr h4
 · intro j hj
   rcases hown.2 with ⟨hv,_⟩ | ⟨g0,cap0,cur,hv,hbg,hg,hnc,hcm,hcs,htake⟩
   · cases hv
   · cases hv
     by_cases hroom:n + m <= cap
     · subst hsize
       have hfit:n * i.size + news.length <= cur.size:=by rw [hl,hcs,<- Nat.add_mul];exact Nat.mul_le_mul_right _ hroom
       have hr2:=run_append_room (P:=P) w t ty e i ht hi g n cap cur hg ad m c news hl hnews h1 hroom hfit
       rw [hr2] at hr
       injection hr with _ hw
       subst hw
       rw [cell_of_row _ g j _ e (0,0) (setRow_heap w g cur _ e (0,0) hg),cell_of_row w g j cur e (0,0) hg]
       have hjl:j < (List.take (n * i.size) cur.toList).length:=by simp;omega
       simp only [List.append_assoc,List.getElem?_toArray]
       rw [List.getElem?_append_left hjl,List.getElem?_take,if_pos hj]
       simp
     · subst hsize
       subst hby
       have holds:∀ j u,xs[j]?=some u -> w.cell? ((⟨g,0,none⟩:Addr).add j)=some u:=hown.cells (g:=g) rfl
       have hr2:=run_append_grow (P:=P) w t ty e i z ht hi hz ⟨g,0,none⟩ n cap xs hown.1 holds ad m c news hl hnews (by omega) (by simp only [maxLen] at h63;omega) (growslice_fits (by omega) hbytes)
       rw [hr2] at hr
       injection hr with _ hw
       subst hw
       have hlt:g < w.heap.size:=(Array.getElem?_eq_some_iff.1 hg).1
       exact World.cell?_of_block (w:=w) (heap_alloc_old w.drew _ hlt)
theorem wp_append_keep {o:Oper} {a:Act} {K:Act -> World -> Prop} {Q:Exit -> Act -> World -> Prop} (s x:Operand) (t:TypeId)
 (ho:o.op=.call { callee:=.builtin .append,args:=#[s,x],argTypes:=#[t,t] })
 (base:Nat) (e:TypeId) (i:TypeInfo) (z:Value) (size bytes:Nat) (ht:P.underlying t=some (.slice e)) (hi:P.info? e=some i) (hz:i.zero=some z)
 (hsize:i.size=size) (hby:i.bytes=bytes) (hzs:z.cells.size=size) (hsz:0 < size)
 (g n cap:Nat) (xs:List Value) (hs:a.eval s=.slice (some ⟨g,0,none⟩) n cap) (hown:w.ownsRow base e size (.slice (some ⟨g,0,none⟩) n cap) n xs)
 (ad:Addr) (m c:Nat) (news:List Value) (hx:a.eval x=.slice (some ad) m c) (hl:news.length=m * size) (hnews:∀ j u,news[j]?=some u -> w.cell? (ad.add j)=some u) (h1:∀ u ∈ news,u.oneCell'=true)
 (hm:0 < m) (h63:n + m <= maxLen) (hbytes:(n + m) * bytes <= 140737488355328) (hbase:base <= w.heap.size) (H:Nat) (hH:w.heap.size=H)
 (h:∀ g' cap' w',w'.ownsRow base e size (.slice (some ⟨g',0,none⟩) (n + m) cap') (n + m) (xs ++ news) -> w.grownBy w' (some g) -> (g'=g \/ g'=H) -> g' < w'.heap.size →
  (∀ j,j < n * size -> w'.cell? ⟨g,j,none⟩=w.cell? ⟨g,j,none⟩) -> K (a.put o.dst (.slice (some ⟨g',0,none⟩) (n + m) cap')) w'):o.wp P a w K Q:=by
 obtain ⟨g',cap',w',hr,h2,h3,h4,h5,h6⟩:=run_append_keep (P:=P) w t o.type base e i z size bytes ht hi hz hsize hby hzs hsz g n cap xs hown ad m c news hl hnews h1 hm h63 hbytes hbase H hH
 unfold Oper.wp execOp
 simp only [ho,resolve,invoke,builtin,Sem.run_bind,Sem.run_pure,Result.andThen_ok,List.map_toArray,List.map_cons,List.map_nil,hs,hx,hr]
 exact h g' cap' w' h2 h3 h4 h5 h6
theorem step_append_keep {ops:Array Oper} {o:Oper} {a:Act} {K:Act -> World -> Prop} {Q:Exit -> Act -> World -> Prop} {E:Prop} (hgd:o.guard=none) (s x:Operand) (t:TypeId)
 (ho:o.op=.call { callee:=.builtin .append,args:=#[s,x],argTypes:=#[t,t] })
 (base:Nat) (e:TypeId) (i:TypeInfo) (z:Value) (size bytes:Nat) (ht:P.underlying t=some (.slice e)) (hi:P.info? e=some i) (hz:i.zero=some z)
 (hsize:i.size=size) (hby:i.bytes=bytes) (hzs:z.cells.size=size) (hsz:0 < size)
 (g n cap:Nat) (xs:List Value) (hs:a.eval s=.slice (some ⟨g,0,none⟩) n cap) (hown:w.ownsRow base e size (.slice (some ⟨g,0,none⟩) n cap) n xs)
 (ad:Addr) (m c:Nat) (news:List Value) (hx:a.eval x=.slice (some ad) m c) (hl:news.length=m * size) (hnews:∀ j u,news[j]?=some u -> w.cell? (ad.add j)=some u) (h1:∀ u ∈ news,u.oneCell'=true)
 (hm:0 < m) (h63:n + m <= maxLen) (hbytes:(n + m) * bytes <= 140737488355328) (hbase:base <= w.heap.size) (H:Nat) (hH:w.heap.size=H)
 (h:∀ g' cap' w',w'.ownsRow base e size (.slice (some ⟨g',0,none⟩) (n + m) cap') (n + m) (xs ++ news) -> w.grownBy w' (some g) -> (g'=g \/ g'=H) -> g' < w'.heap.size →
  (∀ j,j < n * size -> w'.cell? ⟨g,j,none⟩=w.cell? ⟨g,j,none⟩) -> K (a.put o.dst (.slice (some ⟨g',0,none⟩) (n + m) cap')) w') :
 if Region.wanted o (yielded ops a.tmps)=true then Oper.wp P o a w K Q else E:=by
 have hw:Region.wanted o (yielded ops a.tmps)=true:=by simp [Region.wanted,hgd]
 rw [if_pos hw]
 exact wp_append_keep w s x t ho base e i z size bytes ht hi hz hsize hby hzs hsz g n cap xs hs hown ad m c news hx hl hnews h1 hm h63 hbytes hbase H hH h
end
end Go.Proofs.Sha
namespace Go.Proofs.YtibjhkpgaaapaaaGreatDoor
open Go.RowKit Go.Proofs.Sha Tryz
theorem info24:(prog.info? 177).map (fun i=>(i.zero,i.size,i.bytes))=some (some (.int .u32 0),1,4):=by kernel_rfl
theorem turn_any (x:UInt32) (n:Int) (h1:1 <= n) (h2:n <= 31) (w:World) :
 Calls prog 155 #[.int .u32 x.toNat,.int .i64 n] w fun e w'=>e=.returned (.int .u32 (turn x n.toNat).toNat) /\ w=w':=by
 obtain ⟨m,rfl⟩:=Int.eq_ofNat_of_zero_le (show 0 <= n by omega)
 rw [Int.toNat_natCast]
 go_enter func155,ntmps155
 go_wp2
 go_ret
 exact ⟨ret_int (turn_spec x m),rfl⟩
theorem schedule_any (m:List UInt8) (mb mc fr:Nat) (w:World) (hl:m.length <= 2000000) (hf:fr + 64 <= m.length)
 (hc:∀ j,j < m.length -> w.cell? ⟨mb,j,none⟩=some (.int .u8 ((m.getD j 0).toNat:Int))) :
 Calls prog 154 #[.slice (some ⟨mb,0,none⟩) m.length mc,.int .i64 fr] w fun e w'=>∃ g cap,e=.returned (.slice (some ⟨g,0,none⟩) 64 cap) /\ w'.ownsRow w.heap.size 177 1 (.slice (some ⟨g,0,none⟩) 64 cap) 64 ((sched (m.drop fr) 64).map U) /\ Below w.heap.size w w':=by
 obtain ⟨i0,hi0,hz0,hz1,hz2⟩:=info_parts info24
 have hmb:mb < w.heap.size:=World.block_lt_of_cell? w _ (hc 0 (by omega))
 go_enter func154,ntmps154
 go_wp2_with fail
 go_loopw [5,6] (fun v i wr=>∃ k g cap:Nat,k <= 16 /\ i=.int .i64 k /\ v=.slice (some ⟨g,0,none⟩) k cap /\ wr.ownsRow w.heap.size 177 1 (.slice (some ⟨g,0,none⟩) k cap) k ((sched (m.drop fr) k).map U) /\ Below w.heap.size w wr) (fun _ i _=>16 - (intOf i).toNat)
 case atStart=>exact ⟨0,w.heap.size,0,Nat.zero_le _,rfl,rfl,World.ownsRow_made w #[] 0 (Nat.le_refl _) (by decide) rfl,(Below.refl _ _).alloc (Nat.le_refl _) _⟩
 case round =>
  obtain ⟨k,g,cap,hk,rfl,rfl,hown,hbel⟩:=hrel
  have hsz:=hbel.size
  by_cases hlt:k < 16
  · obtain ⟨p,hp⟩:∃ p,p=fr + 4 * k:=⟨_,rfl⟩
    have hpl:p + 3 < m.length:=by omega
    have c0:wr.cell? ⟨mb,p,none⟩=some (.int .u8 ((m.getD p 0).toNat:Int)):=(hbel.cell hmb).trans (hc _ (by omega))
    have c1:wr.cell? ⟨mb,p + 1,none⟩=some (.int .u8 ((m.getD (p + 1) 0).toNat:Int)):=(hbel.cell hmb).trans (hc _ (by omega))
    have c2:wr.cell? ⟨mb,p + 2,none⟩=some (.int .u8 ((m.getD (p + 2) 0).toNat:Int)):=(hbel.cell hmb).trans (hc _ (by omega))
    have c3:wr.cell? ⟨mb,p + 3,none⟩=some (.int .u8 ((m.getD (p + 3) 0).toNat:Int)):=(hbel.cell hmb).trans (hc _ (by omega))
    generalize hb0:m.getD p 0=b0 at *
    generalize hb1:m.getD (p + 1) 0=b1 at *
    generalize hb2:m.getD (p + 2) 0=b2 at *
    generalize hb3:m.getD (p + 3) 0=b3 at *
    have HB:Hid (m.getD p 0=b0 /\ m.getD (p + 1) 0=b1 /\ m.getD (p + 2) 0=b2 /\ m.getD (p + 3) 0=b3):=⟨hb0,hb1,hb2,hb3⟩
    clear hb0 hb1 hb2 hb3
    have hge:w.heap.size <= g:=(hown.lt g rfl).1
    have hne:some mb ≠ some g:=by simp;omega
    go_wp2_with fail
    rw [show (fr:Int) + 4 * (k:Int)=(p:Int) from by omega]
    have q0:(0:Int) <= (p:Int):=by omega
    have q1:(p:Int) < (m.length:Int):=by omega
    have q2:(p:Int) + 1 < (m.length:Int):=by omega
    have q3:(p:Int) + 2 < (m.length:Int):=by omega
    have q4:(p:Int) + 3 < (m.length:Int):=by omega
    have w1:IntKind.i64.wrap ((p:Int) + 1)=(p:Int) + 1:=wrap_i64_in _ (by omega) (by omega)
    have r1:(0:Int) <= (p:Int) + 1:=by omega
    have t1:((p:Int) + 1).toNat=p + 1:=by omega
    have w2:IntKind.i64.wrap ((p:Int) + 2)=(p:Int) + 2:=wrap_i64_in _ (by omega) (by omega)
    have r2:(0:Int) <= (p:Int) + 2:=by omega
    have t2:((p:Int) + 2).toNat=p + 2:=by omega
    have w3:IntKind.i64.wrap ((p:Int) + 3)=(p:Int) + 3:=wrap_i64_in _ (by omega) (by omega)
    have r3:(0:Int) <= (p:Int) + 3:=by omega
    have t3:((p:Int) + 3).toNat=p + 3:=by omega
    have HP:Hid (p=fr + 4 * k):=hp
    clear hp
    go_region_held3 (fun w'=>w'.cell? ⟨mb,p,none⟩=some (.int .u8 (b0.toNat:Int)) /\ w'.cell? ⟨mb,p + 1,none⟩=some (.int .u8 (b1.toNat:Int)) /\ w'.cell? ⟨mb,p + 2,none⟩=some (.int .u8 (b2.toNat:Int)) /\ w'.cell? ⟨mb,p + 3,none⟩=some (.int .u8 (b3.toNat:Int)))
     (first | go_keep | (go_split_ands;refine ⟨?_,?_,?_,?_⟩ <;> (rw [hgrow.cell_far _ (by simp;omega) hne];assumption)))
     ((refine step_append_keep _ (by rfl) _ _ _ (by rfl) w.heap.size 177 i0 _ 1 4 Tryz.underlying178 hi0 hz0 hz1 hz2 rfl (by omega) g k cap _ (by rfl) ((hown.alloc _).drew) ⟨wr.heap.size,0,none⟩ 1 1 [_] (by rfl) (by rfl) (World.news_of_block (heap_alloc_new wr _)) (by simp [Value.oneCell']) (by omega) (by unfold maxLen;omega) (by omega) (by simp;omega) (wr.heap.size + 1) (by simp) ?_;intro gg cap' wx hown1 hgrow hat hlt1 hold))
    go_wp2
    go_roundw
    case rel =>
     rw [<- sched_lo m fr k p b0 b1 b2 b3 hlt HP.out HB.out] at hown1
     exact ⟨k + 1,gg,cap',by omega,by go_num,rfl,hown1,(hbel.alloc hsz _).drew.grown hgrow (by simp;omega) (fun q hq=>by cases hq;exact hge)⟩
    case measure=>simp [intOf];omega
  · obtain rfl:k=16:=by omega
    go_wp2_with fail
    go_loopw [5,8] (fun v i wr=>∃ k g cap:Nat,16 <= k /\ k <= 64 /\ i=.int .i64 k /\ v=.slice (some ⟨g,0,none⟩) k cap /\ wr.ownsRow w.heap.size 177 1 (.slice (some ⟨g,0,none⟩) k cap) k ((sched (m.drop fr) k).map U) /\ Below w.heap.size w wr) (fun _ i _=>64 - (intOf i).toNat)
    case atStart=>exact ⟨16,g,cap,by omega,by omega,rfl,rfl,hown,hbel⟩
    case round =>
     clear hown hbel hsz
     obtain ⟨k,g,cap,h16,hk,rfl,rfl,hown,hbel⟩:=hrel
     have hsz:=hbel.size
     have hge:w.heap.size <= g:=(hown.lt g rfl).1
     by_cases hlt:k < 64
     · have c15:=own_u hown (sched_length _ _) (k - 15) (by omega)
       have c2:=own_u hown (sched_length _ _) (k - 2) (by omega)
       have c16:=own_u hown (sched_length _ _) (k - 16) (by omega)
       have c7:=own_u hown (sched_length _ _) (k - 7) (by omega)
       generalize h15:(sched (m.drop fr) k).getD (k - 15) 0=x15 at *
       generalize h2:(sched (m.drop fr) k).getD (k - 2) 0=x2 at *
       generalize h16':(sched (m.drop fr) k).getD (k - 16) 0=x16 at *
       generalize h7:(sched (m.drop fr) k).getD (k - 7) 0=x7 at *
       have HB:Hid ((sched (m.drop fr) k).getD (k - 16) 0=x16 /\ (sched (m.drop fr) k).getD (k - 15) 0=x15 /\ (sched (m.drop fr) k).getD (k - 7) 0=x7 /\ (sched (m.drop fr) k).getD (k - 2) 0=x2):=⟨h16',h15,h7,h2⟩
       clear h15 h2 h16' h7
       go_wp2_with (go_at_call 155;refine (turn_any _ _ (by omega) (by omega) _).mono ?_;rintro e w' ⟨rfl,rfl⟩)
       rw [far_form,near_form]
       generalize hs0:sumFar x15=sf at *
       generalize hs1:sumNear x2=sn at *
       have HS:Hid (sumFar x15=sf /\ sumNear x2=sn):=⟨hs0,hs1⟩
       clear hs0 hs1
       have q1:(k:Int) - 16 < (k:Int):=by omega
       have q2:(k:Int) - 7 < (k:Int):=by omega
       have w1:IntKind.i64.wrap ((k:Int) - 16)=(k:Int) - 16:=wrap_i64_in _ (by omega) (by omega)
       have r1:(16:Int) <= (k:Int):=by omega
       have t1:((k:Int) - 16).toNat=k - 16:=by omega
       have w2:IntKind.i64.wrap ((k:Int) - 7)=(k:Int) - 7:=wrap_i64_in _ (by omega) (by omega)
       have r2:(7:Int) <= (k:Int):=by omega
       have t2:((k:Int) - 7).toNat=k - 7:=by omega
       go_region_held3 (fun w'=>w'.cell? ⟨g,k - 16,none⟩=some (.int .u32 (x16.toNat:Int)) /\ w'.cell? ⟨g,k - 7,none⟩=some (.int .u32 (x7.toNat:Int)))
        (first | go_keep | (go_split_ands;refine ⟨?_,?_⟩ <;> (rw [hold _ (by omega)];assumption)))
        ((refine step_append_keep _ (by rfl) _ _ _ (by rfl) w.heap.size 177 i0 _ 1 4 Tryz.underlying178 hi0 hz0 hz1 hz2 rfl (by omega) g k cap _ (by rfl) ((hown.alloc _).drew) ⟨wr.heap.size,0,none⟩ 1 1 [_] (by rfl) (by rfl) (World.news_of_block (heap_alloc_new wr _)) (by simp [Value.oneCell']) (by omega) (by unfold maxLen;omega) (by omega) (by simp;omega) (wr.heap.size + 1) (by simp) ?_;intro gg cap' wx hown1 hgrow hat hlt1 hold))
       go_wp2
       go_roundw
       case rel =>
        rw [<- HS.out.1,<- HS.out.2,<- sched_hi (m.drop fr) k x16 x15 x7 x2 h16 HB.out] at hown1
        (repeat apply Exists.intro)
        exact ⟨⟨k + 1,gg,cap',by omega,by omega,by go_num,rfl,hown1,(hbel.alloc hsz _).drew.grown hgrow (by simp;omega) (fun q hq=>by cases hq;exact hge)⟩,rfl⟩
       case measure=>simp [intOf];omega
     · go_wp2
       go_ret
       obtain rfl:k=64:=by omega
       exact ⟨g,cap,rfl,hown,hbel⟩
end Go.Proofs.YtibjhkpgaaapaaaGreatDoor
