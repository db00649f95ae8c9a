import Derived.Test.YtibjhkpgaaapaaaGreatDoorZhax
import Derived.Test.YtibjhkpgaaapaaaGreatDoorZhat
import Derived.Test.YtibjhkpgaaapaaaGreatDoorZhak
import Derived.Deep.AppendLies
import Derived.Deep.Cut
import Derived.Test.YtibjhkpgaaapaaaGreatDoorZhaj
import Derived.Test.YtibjhkpgaaapaaaGreatDoorZhai
import Derived.Test.YtibjhkpgaaapaaaGreatDoorZhaf
import Derived.Test.YtibjhkpgaaapaaaGreatDoorZhau
import Derived.Test.YtibjhkpgaaapaaaGreatDoorZhad
import Derived.Test.YtibjhkpgaaapaaaGreatDoorZhaa
set_option maxRecDepth 100000
set_option maxHeartbeats 3000000
namespace Go.Proofs.YtibjhkpgaaapaaaGreatDoor
open Go.RowKit Go.Proofs.Sha Tryz
abbrev ChT:=ByteArray × Bool × ByteArray × Bool × ByteArray
def kU:List PairT -> List PairT -> List ByteArray
 | [],[]=>[]
 | p :: ps,[]=>p.1 :: kU ps []
 | [],q :: qs=>q.1 :: kU [] qs
 | p :: ps,q :: qs=>if p.1=q.1 then p.1 :: kU ps qs else if lessB p.1 q.1=true then p.1 :: kU ps (q :: qs) else q.1 :: kU (p :: ps) qs
termination_by ps qs=>ps.length + qs.length
theorem ku_append:∀ {a b:List ByteArray},KeysUp a -> KeysUp b -> (∀ x ∈ a,∀ y ∈ b,lessB x y=true) -> KeysUp (a ++ b)
 | [],_,_,hb,_=>hb
 | x :: xs,b,ha,hb,h=>by
  refine ⟨fun y hy=>?_,ku_append ha.2 hb (fun z hz=>h z (List.mem_cons_of_mem _ hz))⟩
  rcases List.mem_append.1 hy with hy | hy
  · exact ha.1 y hy
  · exact h x List.mem_cons_self y hy
theorem ins_parts {over under k:ByteArray} (h:insW over under k=true):lessB over k=true /\ (emp under=true \/ lessB k under=true):=by
 unfold insW at h
 obtain ⟨h1,h2⟩:=(Bool.and_eq_true _ _).mp h
 exact ⟨h1,(Bool.or_eq_true _ _).mp h2⟩
theorem goF_up {fnd:ByteArray -> FN} {hg:ByteArray -> ByteArray -> Bool} {lo hi:ByteArray} {wd:Nat} (hfo:FndOk wd fnd):∀ (f:Nat) (hash over under par:ByteArray) (cnt:Nat),KeysUp (keys (goF fnd hg lo hi f hash over under par cnt).2.2) /\ ∀ x ∈ keys (goF fnd hg lo hi f hash over under par cnt).2.2,lessB over x=true /\ (emp under=true \/ lessB x under=true)
 | 0,_,_,_,_,_=>by rw [goF];exact ⟨trivial,fun x hx=>by simp at hx⟩
 | f + 1,hash,over,under,par,cnt=>by
  have hnil:KeysUp (keys ([]:List PairT)) /\ ∀ x ∈ keys ([]:List PairT),lessB over x=true /\ (emp under=true \/ lessB x under=true):=⟨trivial,fun x hx=>by simp at hx⟩
  cases h1:(emp hash || !canW over under lo hi) with
  | true=>rw [goF_skip h1];exact hnil
  | false =>
   by_cases h2:(fnd hash).2=2
   · rw [goF_missing h1 h2];exact hnil
   · by_cases h20:(fnd hash).2=0
     · cases h3:(insW over under (fnd hash).1.1 && parW hg par (fnd hash).1.1) with
       | false=>rw [goF_place h1 h20 h3];exact hnil
       | true =>
        by_cases h4:500 < cnt + 1
        · rw [goF_many h1 h20 h3 h4];exact hnil
        · have e:fnd hash=(((fnd hash).1.1,(fnd hash).1.2.1,(fnd hash).1.2.2.1,(fnd hash).1.2.2.2),0):=by rw [<- h20]
          rw [goF_node h1 e h3 (by omega) rfl rfl]
          obtain ⟨hk1,hk2⟩:=ins_parts ((Bool.and_eq_true _ _).mp h3).1
          have hke:emp (fnd hash).1.1=false:=by
           have okk:=(hfo.node hash h20).1
           have h9:1 <= (fnd hash).1.1.size:=by
            unfold okKey at okk
            simp at okk
            omega
           unfold emp
           exact decide_eq_false (by omega)
          obtain ⟨l1,l2⟩:=goF_up hfo f (fnd hash).1.2.2.1 over (fnd hash).1.1 (fnd hash).1.1 (cnt + 1)
          obtain ⟨r1,r2⟩:=goF_up hfo f (fnd hash).1.2.2.2 (fnd hash).1.1 under (fnd hash).1.1 (goF fnd hg lo hi f (fnd hash).1.2.2.1 over (fnd hash).1.1 (fnd hash).1.1 (cnt + 1)).2.1
          generalize goF fnd hg lo hi f (fnd hash).1.2.2.2 (fnd hash).1.1 under (fnd hash).1.1 (goF fnd hg lo hi f (fnd hash).1.2.2.1 over (fnd hash).1.1 (fnd hash).1.1 (cnt + 1)).2.1=R at r1 r2 ⊢
          generalize goF fnd hg lo hi f (fnd hash).1.2.2.1 over (fnd hash).1.1 (fnd hash).1.1 (cnt + 1)=L at l1 l2 ⊢
          generalize (fnd hash).1.1=k at *
          split
          · exact hnil
          · split
            · exact hnil
            · have hl:∀ x ∈ keys L.2.2,lessB over x=true /\ lessB x k=true:=fun x hx=>⟨(l2 x hx).1,by
               rcases (l2 x hx).2 with h | h
               · rw [hke] at h;cases h
               · exact h⟩
              have hin:∀ x,x ∈ keys (if hasW lo hi k=true then [(k,(fnd hash).1.2.1)] else []) -> x=k:=fun x hx=>by
               split at hx
               · simpa using hx
               · simp at hx
              have hiu:KeysUp (keys (if hasW lo hi k=true then [(k,(fnd hash).1.2.1)] else [])):=by
               split
               · exact ⟨fun x hx=>by simp at hx,trivial⟩
               · trivial
              have hun:∀ x,lessB x k=true -> (emp under=true \/ lessB x under=true):=fun x hx=>by
               rcases hk2 with h | h
               · exact .inl h
               · exact .inr (lessB_tr hx h)
              generalize (if hasW lo hi k=true then [(k,(fnd hash).1.2.1)] else [])=I at hin hiu ⊢
              have ha:KeysUp (keys L.2.2 ++ keys I):=ku_append l1 hiu (fun x hx y hy=>by rw [hin y hy];exact (hl x hx).2)
              have hb:KeysUp ((keys L.2.2 ++ keys I) ++ keys R.2.2):=ku_append ha r1 (fun x hx y hy=>by
               rcases List.mem_append.1 hx with hx | hx
               · exact lessB_tr (hl x hx).2 (r2 y hy).1
               · rw [hin x hx];exact (r2 y hy).1)
              have e3:keys (L.2.2 ++ I ++ R.2.2)=(keys L.2.2 ++ keys I) ++ keys R.2.2:=by simp [keys]
              simp only [e3]
              refine ⟨hb,fun x hx=>?_⟩
              rcases List.mem_append.1 hx with hx | hx
              · rcases List.mem_append.1 hx with hx | hx
                · exact ⟨(hl x hx).1,hun x (hl x hx).2⟩
                · rw [hin x hx];exact ⟨hk1,hk2⟩
              · exact ⟨lessB_tr hk1 (r2 x hx).1,(r2 x hx).2⟩
     · rw [goF,if_neg (by rw [h1];decide),if_neg h2,if_pos h20];exact hnil
theorem drop_getD (ps:List PairT) (i:Nat) (h:i < ps.length):ps.drop i=ps.getD i noPair :: ps.drop (i + 1):=by
 rw [List.drop_eq_getElem_cons h]
 congr 1
 simp [List.getD_eq_getElem?_getD,List.getElem?_eq_getElem h]
theorem ba_eq {a b:ByteArray}:(a.toList == b.toList)=decide (a=b):=by
 by_cases e:a=b
 · subst e;simp
 · rw [decide_eq_false e,beq_eq_false_iff_ne]
   intro h
   rw [ByteArray.toList_eq,ByteArray.toList_eq] at h
   exact e (ByteArray.ext (Array.toList_inj.1 h))
structure OwnP (w:World) (xs:List PairT) (a:Option Addr) (m c:Nat) (W:World):Prop where
 own:W.ownsRow w.heap.size 81 2 (.slice a m c) m (flatP xs)
 bel:Below w.heap.size w W
 len:xs.length=m
theorem OwnP.below {w W W':World} {xs:List PairT} {a:Option Addr} {m c:Nat} (h:OwnP w xs a m c W) (hb:Below W.heap.size W W'):OwnP w xs a m c W' :=
 ⟨own2_kept h.own (fun q _ hq=>hb.block q hq),h.bel.trans (hb.mono h.bel.size),h.len⟩
theorem OwnP.more {w W W':World} {xs:List PairT} {a:Option Addr} {m c m' g cap:Nat} {y:PairT} {o:Obj} (h:OwnP w xs a m c W) (hown:W'.ownsRow w.heap.size 81 2 (.slice (some ⟨g,0,none⟩) m' cap) m' (flatP xs ++ [.string y.1,.string y.2])) (hgrow:(W.alloc o).grownBy W' (Value.slice a m c).ownBlock) (hm:m'=m + 1):OwnP w (xs ++ [y]) (some ⟨g,0,none⟩) m' cap W':=by
 have ha:=h.below ((Below.refl W.heap.size W).alloc (Nat.le_refl _) o)
 refine ⟨by rw [flatP_app];exact hown,ha.bel.grown hgrow ha.bel.size (fun q hq=>(own2_cells ha.own hq).1),by rw [List.length_append,h.len,hm];rfl⟩
def PairsAt (xs:List PairT) (w:World) (e:Ending) (w':World):Prop:=∃ a c,e=.returned (.slice a xs.length c) /\ OwnP w xs a xs.length c w'
theorem take_getD (ps:List PairT) (i:Nat) (h:i < ps.length):ps.take (i + 1)=ps.take i ++ [ps.getD i noPair]:=by
 rw [List.take_add_one,List.getElem?_eq_getElem h]
 simp [List.getD_eq_getElem?_getD,List.getElem?_eq_getElem h]
theorem wout_app (a b:List PairT) (k:ByteArray):wout (a ++ b) k=wout a k ++ wout b k:=List.filter_append ..
theorem wout_le (ps:List PairT) (k:ByteArray):(wout ps k).length <= ps.length:=List.length_filter_le ..
theorem OwnP.nil (w:World):OwnP w [] (some ⟨w.heap.size,0,none⟩) 0 0 (w.alloc (.cells #[] 81)) :=
 ⟨own2_nil (Nat.le_refl _) (heap_alloc_new w _),(Below.refl _ _).alloc (Nat.le_refl _) _,rfl⟩
theorem without_any (a:Option Addr) (ps:List PairT) (c:Nat) (key:ByteArray) (w:World) (h:PArg a ps w):Calls prog 137 #[.slice a ps.length c,.string key] w (PairsAt (wout ps key) w):=by
 obtain ⟨i0,hi0,hz0,hz1,hz2⟩:=info_parts2 info37
 have hn:=h.le
 obtain ⟨N,hN⟩:∃ N,ps.length=N:=⟨_,rfl⟩
 rw [hN] at hn ⊢
 have hNl:Hid (ps.length=N):=hN
 clear hN
 have hO:=OwnP.nil w
 go_enter func137,ntmps137
 go_wp2_with fail
 go_loopw [5,6] (fun t5 t6 wr=>∃ k:Nat,k <= N /\ t6=.int .i64 (k:Int) /\ ∃ (a':Option Addr) (m d':Nat),t5=.slice a' m d' /\ OwnP w (wout (ps.take k) key) a' m d' wr) (fun _ t6 _=>N - (intOf t6).toNat)
 case atStart=>exact ⟨0,Nat.zero_le _,rfl,_,_,_,rfl,hO⟩
 case round =>
  obtain ⟨k,hk,rfl,a',m,d',rfl,hW⟩:=hrel
  by_cases hlt:k < N
  · have z1:decide ((k:Int) < (N:Int))=true:=by simp;omega
    have hx0:(0:Int) <= (k:Int):=Int.natCast_nonneg _
    have hx1:(k:Int) < (N:Int):=by omega
    obtain ⟨b1,off1,rfl,hbl1,hc⟩:=(h.below hW.bel).at_ (by rw [hNl.out];omega)
    obtain ⟨hc1,hc2⟩:=hc k (by rw [hNl.out];exact hlt)
    have hml:m <= 1048576:=by have:=hW.len;have:=wout_le (ps.take k) key;rw [List.length_take] at this;omega
    have htk:Hid (wout (ps.take (k + 1)) key=wout (ps.take k) key ++ wout [ps.getD k noPair] key):=by
     show _=_
     rw [take_getD ps k (by rw [hNl.out];exact hlt),wout_app]
    generalize ps.getD k noPair=p at hc1 hc2 htk
    obtain ⟨pk,pv⟩:=p
    simp only at hc1 hc2
    have hbs:=hW.bel.size
    by_cases e:pk=key
    · have z2:(pk.toList == key.toList)=true:=by rw [ba_eq,decide_eq_true e]
      have hf:Hid (wout [(pk,pv)] key=[]):=by show _=_;simp [wout,e]
      clear e hc
      go_wp2_with fail
      go_roundw
      case rel=>exact ⟨k + 1,hlt,by go_num,_,_,_,rfl,by rw [htk.out,hf.out,List.append_nil];exact hW⟩
      case measure=>simp [intOf];omega
    · have z2:(pk.toList == key.toList)=false:=by rw [ba_eq,decide_eq_false e]
      have hf:Hid (wout [(pk,pv)] key=[(pk,pv)]):=by show _=_;simp [wout,e]
      have own:=hW.own
      clear e hc
      go_wp2_with (at_builtin;refine wpList_append_lies _ rfl (.tmp 21) (.tmp 26) 35 rfl w.heap.size 81 i0 (.agg #[.string ⟨#[]⟩,.string ⟨#[]⟩]) 2 32 Tryz.underlying35 hi0 hz0 hz1 hz2 rfl (by decide) (.slice a' m d') m (flatP (wout (ps.take k) key)) rfl (own.alloc _) ⟨wr.heap.size,0,none⟩ 1 1 [.string pk,.string pv] rfl rfl (World.news_of_block (heap_alloc_new wr _)) (by simp [Value.oneCell']) (by decide) (by unfold maxLen;omega) (by omega) (by simp;omega) (wr.heap.size + 1) (by simp) ?_;intro g5 c5 w5 hown5 hgrow5 hat5 hlt5)
      go_roundw
      case rel=>exact ⟨k + 1,hlt,by go_num,_,_,_,rfl,by rw [htk.out,hf.out];exact hW.more hown5 hgrow5 rfl⟩
      case measure=>simp [intOf];omega
  · obtain rfl:k=N:=by omega
    have z1:decide ((k:Int) < (k:Int))=false:=by simp
    rw [List.take_of_length_le (by rw [hNl.out];exact Nat.le_refl _)] at hW
    have hl:=hW.len
    subst hl
    go_wp2_with fail
    go_ret
    exact ⟨_,_,rfl,hW⟩
theorem below_draws {B:Nat} {a w:World} (n:Nat) (h:Below B a w):Below B a (w.drewN n):=⟨h.os,h.tape,h.output,h.size,h.block⟩
theorem mapOk_any (a:Option Addr) (ps:List PairT) (c:Nat) (w:World) (h:PArg a ps w) :
 Calls prog 68 #[.slice a ps.length c] w fun e w'=>e=.returned (.bool (isMapT ps)) /\ Below w.heap.size w w':=by
 have hn:=h.le
 obtain ⟨n,hnn⟩:∃ n,ps.length=n:=⟨_,rfl⟩
 obtain ⟨B,hB⟩:∃ B,isMapT ps=B:=⟨_,rfl⟩
 rw [hB,hnn]
 rw [hnn] at hn
 by_cases hx:500 < n
 · have hf:Hid (B=false):=by show B=false;rw [<- hB];unfold isMapT;rw [decide_eq_false (by omega),Bool.false_and]
   have z1:decide ((500:Int) < (n:Int))=true:=by rw [decide_eq_true_eq];omega
   have z2:decide ((n:Int) > 500)=true:=by rw [decide_eq_true_eq];omega
   clear hB
   go_enter func68,ntmps68
   go_wp2_with fail
   go_ret
   exact ⟨by rw [hf.out];rfl,Below.refl _ _⟩
 · have hBm:Hid (B=mapTo ps n):=by show B=_;rw [<- hB];unfold isMapT;rw [decide_eq_true (by omega),Bool.true_and,hnn]
   have z1:decide ((500:Int) < (n:Int))=false:=by rw [decide_eq_false_iff_not];omega
   have z2:decide ((n:Int) > 500)=false:=by rw [decide_eq_false_iff_not];omega
   have hnl:Hid (ps.length=n):=hnn
   clear hB hnn
   go_enter func68,ntmps68
   go_wp2_with fail
   go_loopw [3] (fun t3 wr=>∃ k:Nat,k <= n /\ t3=.int .i64 (k:Int) /\ Hid (mapTo ps k=true) /\ Below w.heap.size w wr) (fun t3 _=>n - (intOf t3).toNat)
   case atStart=>exact ⟨0,Nat.zero_le _,rfl,rfl,Below.refl _ _⟩
   case round =>
    obtain ⟨k,hk,rfl,hm,hbw⟩:=hrel
    by_cases hlt:k < n
    · have z3:decide ((k:Int) < (n:Int))=true:=by simp;omega
      have hx0:(0:Int) <= (k:Int):=Int.natCast_nonneg _
      have hx1:(k:Int) < (n:Int):=by omega
      obtain ⟨b,off,rfl,hbl,hc⟩:=(h.below hbw).at_ (by rw [hnl.out];omega)
      obtain ⟨hc1,hc2⟩:=hc k (by rw [hnl.out];exact hlt)
      have hgd:Hid (goodAt ps k=(okKey (ps.getD k noPair).1 && (okVal (ps.getD k noPair).2 && Op.bytesLess (lastK ps k).toList (ps.getD k noPair).1.toList))):=rfl
      obtain ⟨hs1,hs2⟩:=h.sz k
      have hkn:∀ pk:ByteArray,okKey pk=true -> Op.bytesLess (⟨#[]⟩:ByteArray).toList pk.toList=true:=fun pk hok=>by
       unfold okKey at hok
       rw [decide_eq_true_eq] at hok
       have:pk.toList ≠ []:=fun e=>by
        have hl:=congrArg List.length e
        rw [ByteArray.toList_eq] at hl
        have h0:pk.data.toList.length=pk.size:=rfl
        have h1:pk.size=0:=h0.symm.trans hl
        omega
       have e0:(⟨#[]⟩:ByteArray).toList=[]:=by rw [ByteArray.toList_eq]
       rw [e0]
       cases hp:pk.toList with
       | nil=>exact absurd hp this
       | cons x y=>rfl
      generalize hpk:(ps.getD k noPair).1=pk at hc1 hgd hs1
      generalize (ps.getD k noPair).2=pv at hc2 hgd hs2
      have H1:∀ w',Calls prog 125 #[.string pk,.string pv] w' fun e w''=>e=.returned (.bool (okKey pk && okVal pv)) /\ w''=w':=fun w'=>pairOk_q pk pv w' hs1 hs2
      cases hk1:(okKey pk && okVal pv) with
      | false =>
       rw [hk1] at H1
       have hbf:Hid (B=false):=by
        show B=false
        rw [hBm.out]
        exact mapTo_false ps k n hlt (by rw [hgd.out,<- Bool.and_assoc,hk1,Bool.false_and])
       replace H1:Hid _:=H1
       clear hk1 hgd hm hBm hc hkn hpk
       go_upto_region 6 with fail
       go_quiet ((go_at_call 125;exact Calls.quiet_of_same (H1.out _)))
       go_wp2_with fail
       go_ret
       exact ⟨by rw [hbf.out];rfl,below_draws nq hbw⟩
      | true =>
       rw [hk1] at H1
       have hok:okKey pk=true:=by cases hq:okKey pk with
        | true=>rfl
        | false=>rw [hq,Bool.false_and] at hk1;cases hk1
       have hg2:Hid (goodAt ps k=Op.bytesLess (lastK ps k).toList pk.toList):=by show _=_;rw [hgd.out,<- Bool.and_assoc,hk1,Bool.true_and]
       replace H1:Hid _:=H1
       by_cases hk0:k=0
       · have hm':Hid (mapTo ps (k + 1)=true):=by
          show _=_
          rw [mapTo,hm.out,hg2.out,Bool.true_and]
          subst hk0
          exact hkn pk hok
         have y0:¬ (0 < (k:Int)):=by omega
         have y1:decide (0 < (k:Int))=false:=by rw [decide_eq_false_iff_not];exact y0
         have y2:¬ (0 < k):=by omega
         have y3:decide (0 < k)=false:=by rw [decide_eq_false_iff_not];exact y2
         clear hk1 hgd hm hBm hc hkn hpk hg2 hk0 hok
         go_upto_region 6 with fail
         go_quiet ((go_at_call 125;exact Calls.quiet_of_same (H1.out _)))
         go_wp2_with fail
         go_roundw
         case rel=>exact ⟨k + 1,hlt,by go_num,hm',below_draws nq hbw⟩
         case measure=>simp [intOf];omega
       · have y0:0 < (k:Int):=by omega
         have y1:decide (0 < (k:Int))=true:=by rw [decide_eq_true_eq];exact y0
         have y2:0 < k:=by omega
         have y3:decide (0 < k)=true:=by rw [decide_eq_true_eq];exact y2
         obtain ⟨hc3,hc4⟩:=hc (k - 1) (by rw [hnl.out];omega)
         obtain ⟨hs3,hs4⟩:=h.sz (k - 1)
         have hlk:lastK ps k=(ps.getD (k - 1) noPair).1:=by cases k with | zero=>exact absurd rfl hk0 | succ k'=>rfl
         rw [hlk] at hg2
         generalize (ps.getD (k - 1) noPair).1=pl at hc3 hs3 hg2
         have H2:∀ w',Calls prog 85 #[.string pl,.string pk] w' fun e w''=>e=.returned (.bool (Op.bytesLess pl.toList pk.toList)) /\ ∃ m,w''=w'.drewN m:=fun w'=>by
          rw [ByteArray.toList_eq,ByteArray.toList_eq]
          exact less_q pl pk w' hs3 hs1
         have x0:(0:Int) <= (k:Int) - 1:=by omega
         have x1:(k:Int) - 1 < (n:Int):=by omega
         have x2:((k:Int) - 1).toNat=k - 1:=by omega
         have x3:wrap64 ((k:Int) - 1)=(k:Int) - 1:=by unfold wrap64;omega
         cases hlt2:Op.bytesLess pl.toList pk.toList with
         | false =>
          rw [hlt2] at H2 hg2
          have hbf:Hid (B=false):=by
           show B=false
           rw [hBm.out]
           exact mapTo_false ps k n hlt hg2.out
          replace H2:Hid _:=H2
          clear hk1 hgd hm hBm hc hkn hpk hg2 hk0 hok hlt2 hlk hc4 hs4
          go_upto_region 6 with fail
          go_quiet (first | (go_at_call 125;exact Calls.quiet_of_same (H1.out _)) | (go_at_call 85;exact Calls.quiet_of (H2.out _)))
          go_wp2_with fail
          go_ret
          exact ⟨by rw [hbf.out];rfl,below_draws nq hbw⟩
         | true =>
          rw [hlt2] at H2 hg2
          have hm':Hid (mapTo ps (k + 1)=true):=by
           show _=_
           rw [mapTo,hm.out,hg2.out];rfl
          replace H2:Hid _:=H2
          clear hk1 hgd hm hBm hc hkn hpk hg2 hk0 hok hlt2 hlk hc4 hs4
          go_upto_region 6 with fail
          go_quiet (first | (go_at_call 125;exact Calls.quiet_of_same (H1.out _)) | (go_at_call 85;exact Calls.quiet_of (H2.out _)))
          go_wp2_with fail
          go_roundw
          case rel=>exact ⟨k + 1,hlt,by go_num,hm',below_draws nq hbw⟩
          case measure=>simp [intOf];omega
    · obtain rfl:k=n:=by omega
      have z3:decide ((k:Int) < (k:Int))=false:=by simp
      have hbt:Hid (B=true):=by show B=true;rw [hBm.out,hm.out]
      clear hBm hm
      go_wp2_with fail
      go_ret
      exact ⟨by rw [hbt.out];rfl,hbw⟩
def keyAt (ps:List PairT) (k:Nat):ByteArray:=(ps.getD k noPair).1
def shaB (s:ByteArray):ByteArray:=⟨(sha s.data.toList).toArray⟩
theorem shaB_size (s:ByteArray):(shaB s).size=32:=by
 show (sha s.data.toList).toArray.size=32
 rw [List.size_toArray,sha_len]
def beats (x y a b:ByteArray):Bool:=Op.bytesLess y.data.toList x.data.toList || ((x.toList == y.toList) && Op.bytesLess a.data.toList b.data.toList)
def topTo (ps:List PairT):Nat -> Nat
 | 0=>0
 | k + 1=>if beats (shaB (keyAt ps (k + 1))) (shaB (keyAt ps (topTo ps k))) (keyAt ps (k + 1)) (keyAt ps (topTo ps k))=true then k + 1 else topTo ps k
theorem topTo_le (ps:List PairT):∀ k,topTo ps k <= k
 | 0=>Nat.le_refl _
 | k + 1=>by
  rw [topTo]
  split
  · exact Nat.le_refl _
  · exact Nat.le_succ_of_le (topTo_le ps k)
theorem top_any (a:Option Addr) (ps:List PairT) (c:Nat) (w:World) (h:PArg a ps w) (h0:0 < ps.length) :
 Calls prog 126 #[.slice a ps.length c] w fun e w'=>e=.returned (.int .i64 (topTo ps (ps.length - 1):Int)) /\ Below w.heap.size w w':=by
 have hn:=h.le
 have HW:∀ w',Below w.heap.size w w' -> PArg a ps w':=fun w' hb=>h.below hb
 obtain ⟨b,off,rfl,hbl,hc⟩:=h.at_ h0
 have HC:∀ w',Below w.heap.size w w' -> ∀ j,j < ps.length -> w'.cell? ⟨b,off + j * 2,none⟩=some (.string (keyAt ps j)):=fun w' hb j hj=>(hb.cell (p:=⟨b,off + j * 2,none⟩) hbl).trans (hc j hj).1
 obtain ⟨n,hnn⟩:∃ n,ps.length=n:=⟨_,rfl⟩
 rw [hnn]
 rw [hnn] at hn h0
 have HS:∀ j,(keyAt ps j).size <= 1048576:=fun j=>(h.sz j).1
 replace HW:Hid _:=HW
 replace HS:Hid _:=HS
 rw [hnn] at HC
 replace HC:Hid _:=HC
 have hnl:Hid (ps.length=n):=hnn
 have hc0:w.cell? ⟨b,off + 0 * 2,none⟩=some (.string (keyAt ps 0)):=HC.out w (Below.refl _ _) 0 h0
 have hc0':w.cell? ⟨b,off,none⟩=some (.string (keyAt ps 0)):=hc0
 have y0:(0:Int) < (n:Int):=by omega
 have H0:=fun w'=>spec_any (keyAt ps 0) w' (HS.out 0)
 have hX0:Hid ((⟨(sha (keyAt ps 0).data.toList).toArray⟩:ByteArray)=shaB (keyAt ps 0)):=rfl
 generalize (⟨(sha (keyAt ps 0).data.toList).toArray⟩:ByteArray)=X0 at H0 hX0
 replace H0:Hid _:=H0
 clear hnn hc h hc0
 generalize hk0:keyAt ps 0=k0 at hc0' H0
 have hk0':Hid (keyAt ps 0=k0):=hk0
 clear hk0
 go_enter func126,ntmps126
 go_wp2_with (go_at_call 64;refine (H0.out _).mono ?_)
 rintro _ w1 ⟨rfl,hb1⟩
 go_wp2_with fail
 go_loopw [3,4,5] (fun t3 t4 t5 wr=>∃ k T j:Nat,Hid (topTo ps k=T) /\ Hid (j=k + 1) /\ T <= k /\ k < n /\ t3=.int .i64 (T:Int) /\ t4=.string (shaB (keyAt ps T)) /\ t5=.int .i64 (j:Int) /\ Below w.heap.size w wr) (fun _ _ t5 _=>n - (intOf t5).toNat)
 case atStart=>exact ⟨0,0,1,rfl,rfl,Nat.le_refl _,h0,rfl,by rw [<- hX0.out],rfl,hb1⟩
 case round =>
  obtain ⟨k,T,j,hT,hj,hTk,hk,rfl,rfl,rfl,hbw⟩:=hrel
  by_cases hlt:j < n
  · have z3:decide ((j:Int) < (n:Int))=true:=by simp;omega
    have z4:decide (j < n)=true:=by rw [decide_eq_true_eq];exact hlt
    have z0:(0:Int) <= (j:Int):=Int.natCast_nonneg _
    have z1:(j:Int) < (n:Int):=by omega
    have q0:(0:Int) <= (T:Int):=Int.natCast_nonneg _
    have q1:(T:Int) < (n:Int):=by omega
    have hc1:=HC.out wr hbw j hlt
    have H1:=fun w'=>spec_any (keyAt ps j) w' (HS.out j)
    have hX:Hid ((⟨(sha (keyAt ps j).data.toList).toArray⟩:ByteArray)=shaB (keyAt ps j)):=rfl
    rw [hX.out] at H1
    have hxs:=shaB_size (keyAt ps j)
    have hys:=shaB_size (keyAt ps T)
    have hks:=HS.out j
    have hls:=HS.out T
    have hst:Hid (topTo ps j=if beats (shaB (keyAt ps j)) (shaB (keyAt ps T)) (keyAt ps j) (keyAt ps T)=true then j else T):=by
     show _=_
     rw [hj.out,topTo,hT.out]
    have HD:∀ w',Below w.heap.size w w' -> w'.cell? ⟨b,off + j * 2,none⟩=some (.string (keyAt ps j)) /\ w'.cell? ⟨b,off + T * 2,none⟩=some (.string (keyAt ps T)):=fun w' hb=>⟨HC.out w' hb j hlt,HC.out w' hb T (by omega)⟩
    obtain ⟨x,hx⟩:∃ x,shaB (keyAt ps j)=x:=⟨_,rfl⟩
    obtain ⟨y,hy⟩:∃ y,shaB (keyAt ps T)=y:=⟨_,rfl⟩
    obtain ⟨kj,hkj⟩:∃ x,keyAt ps j=x:=⟨_,rfl⟩
    obtain ⟨kt,hkt⟩:∃ x,keyAt ps T=x:=⟨_,rfl⟩
    rw [hx,hy,hkj,hkt] at hst
    rw [hy]
    rw [hx] at hxs
    rw [hy] at hys
    rw [hkj] at hks
    rw [hkt] at hls
    rw [hkj,hkt] at HD
    rw [hkj] at hc1
    rw [hx,hkj] at H1
    have hxx:Hid (shaB (keyAt ps j)=x):=hx
    have hyy:Hid (shaB (keyAt ps T)=y):=hy
    have hxl:x.size <= 1048576:=by omega
    have hyl:y.size <= 1048576:=by omega
    replace HD:Hid _:=HD
    replace H1:Hid _:=H1
    have H2:=fun w'=>less_q y x w' hyl hxl
    have H3:=fun w'=>less_q kj kt w' hks hls
    clear hx hy hkj hkt hxs hys hxl hyl hX
    go_upto_region 7 with (go_at_call 64;refine (H1.out _).mono ?_)
    rintro _ w2 ⟨rfl,hb2⟩
    have hbw2:Below w.heap.size w w2:=hbw.trans (hb2.mono hbw.size)
    obtain ⟨hd1,hd2⟩:=HD.out w2 hbw2
    clear hb2 hbw hc1
    have hTj:T <= j:=by have:=hj.out;omega
    go_upto_region 7 with fail
    cases v1:Op.bytesLess y.data.toList x.data.toList with
    | true =>
     rw [v1] at H2
     have hbt:Hid (beats x y kj kt=true):=by show _=_;unfold beats;rw [v1,Bool.true_or]
     replace H2:Hid _:=H2
     replace H3:Hid _:=H3
     clear v1
     go_quiet (first | (go_at_call_of 85 (Value.string y);exact Calls.quiet_of (H2.out _)) | (go_at_call_of 85 (Value.string kj);exact Calls.quiet_of (H3.out _)))
     go_wp2_with fail
     go_roundw
     case rel=>exact ⟨j,j,j + 1,by show _=_;rw [hst.out,hbt.out];rfl,rfl,Nat.le_refl _,hlt,rfl,by rw [hxx.out],by go_num,below_draws nq hbw2⟩
     case measure=>simp [intOf];omega
    | false =>
     rw [v1] at H2
     replace H2:Hid _:=H2
     cases v2:(x.toList == y.toList) with
     | false =>
      have hbt:Hid (beats x y kj kt=false):=by show _=_;unfold beats;rw [v1,v2];rfl
      replace H3:Hid _:=H3
      clear v1
      go_quiet (first | (go_at_call_of 85 (Value.string y);exact Calls.quiet_of (H2.out _)) | (go_at_call_of 85 (Value.string kj);exact Calls.quiet_of (H3.out _)))
      go_wp2_with fail
      go_roundw
      case rel=>exact ⟨j,T,j + 1,by show _=_;rw [hst.out,hbt.out];rfl,rfl,hTj,hlt,rfl,by rw [hyy.out],by go_num,below_draws nq hbw2⟩
      case measure=>simp [intOf];omega
     | true =>
      have hb3:Hid (beats x y kj kt=Op.bytesLess kj.data.toList kt.data.toList):=by show _=_;unfold beats;rw [v1,v2];rfl
      clear v1
      cases v3:Op.bytesLess kj.data.toList kt.data.toList with
      | true =>
       rw [v3] at H3 hb3
       replace H3:Hid _:=H3
       clear v3
       go_quiet (first | (go_at_call_of 85 (Value.string y);exact Calls.quiet_of (H2.out _)) | (go_at_call_of 85 (Value.string kj);exact Calls.quiet_of (H3.out _)))
       go_wp2_with fail
       go_roundw
       case rel=>exact ⟨j,j,j + 1,by show _=_;rw [hst.out,hb3.out];rfl,rfl,Nat.le_refl _,hlt,rfl,by rw [hxx.out],by go_num,below_draws nq hbw2⟩
       case measure=>simp [intOf];omega
      | false =>
       rw [v3] at H3 hb3
       replace H3:Hid _:=H3
       clear v3
       go_quiet (first | (go_at_call_of 85 (Value.string y);exact Calls.quiet_of (H2.out _)) | (go_at_call_of 85 (Value.string kj);exact Calls.quiet_of (H3.out _)))
       go_wp2_with fail
       go_roundw
       case rel=>exact ⟨j,T,j + 1,by show _=_;rw [hst.out,hb3.out];rfl,rfl,hTj,hlt,rfl,by rw [hyy.out],by go_num,below_draws nq hbw2⟩
       case measure=>simp [intOf];omega
  · have z3:decide ((j:Int) < (n:Int))=false:=by simp;omega
    have hjn:n - 1=k:=by have:=hj.out;omega
    have hTn:Hid (topTo ps (n - 1)=T):=by show _=_;rw [hjn];exact hT.out
    clear hjn hT hj
    go_wp2_with fail
    go_ret
    exact ⟨by rw [hTn.out];rfl,hbw⟩
theorem less_irr (a:List UInt8):Op.bytesLess a a=false:=by
 induction a with
 | nil=>rfl
 | cons x y ih=>rw [Op.bytesLess];simp [ih]
theorem beats_rk (x y a b:ByteArray):beats x y a b=rk x.data.toList y.data.toList a.data.toList b.data.toList:=by
 unfold beats rk
 rw [ByteArray.toList_eq,ByteArray.toList_eq]
 by_cases h:x.data.toList=y.data.toList
 · rw [if_pos h,h,less_irr,Bool.false_or,beq_self_eq_true,Bool.true_and]
 · rw [if_neg h,beq_eq_false_iff_ne.2 h,Bool.false_and,Bool.or_false]
end Go.Proofs.YtibjhkpgaaapaaaGreatDoor
namespace Go.Proofs.Sha
inductive Tr (α:Type) where
 | nil:Tr α
 | node (l:Tr α) (x:α) (r:Tr α):Tr α
section
variable {α:Type} (ab:α -> α -> Bool)
def Tr.inord:Tr α -> List α
 | .nil=>[]
 | .node l x r=>l.inord ++ x :: r.inord
def Tr.size:Tr α -> Nat
 | .nil=>0
 | .node l _ r=>l.size + r.size + 1
def Tr.heap:Tr α -> Prop
 | .nil=>True
 | .node l x r=>(∀ y ∈ l.inord,ab x y=true) /\ (∀ y ∈ r.inord,ab x y=true) /\ l.heap /\ r.heap
def Tr.merge:Tr α -> Tr α -> Tr α
 | .nil,b=>b
 | .node l x r,.nil=>.node l x r
 | .node l x r,.node l2 y r2=>if ab x y then .node l x (Tr.merge r (.node l2 y r2)) else .node (Tr.merge (.node l x r) l2) y r2
termination_by a b=>a.size + b.size
decreasing_by
 all_goals simp only [Tr.size];omega
theorem Tr.merge_inord (a b:Tr α):(Tr.merge ab a b).inord=a.inord ++ b.inord:=by
 fun_induction Tr.merge ab a b with
 | case1 b=>rfl
 | case2 l x r=>simp [Tr.inord]
 | case3 l x r l2 y r2 h ih=>simp only [Tr.inord] at ih ⊢;rw [ih];simp
 | case4 l x r l2 y r2 h ih=>simp only [Tr.inord] at ih ⊢;rw [ih];simp
structure Ranked (l:List α):Prop where
 tot:∀ x ∈ l,∀ y ∈ l,x ≠ y -> ab x y=true \/ ab y x=true
 asy:∀ x ∈ l,∀ y ∈ l,ab x y=true -> ab y x=false
 tra:∀ x ∈ l,∀ y ∈ l,∀ z ∈ l,ab x y=true -> ab y z=true -> ab x z=true
theorem Ranked.sub {l m:List α} (h:Ranked ab l) (hs:∀ x ∈ m,x ∈ l):Ranked ab m :=
 ⟨fun x hx y hy=>h.tot x (hs x hx) y (hs y hy),fun x hx y hy=>h.asy x (hs x hx) y (hs y hy),fun x hx y hy z hz=>h.tra x (hs x hx) y (hs y hy) z (hs z hz)⟩
theorem Tr.merge_heap (a b:Tr α) (ha:a.heap ab) (hb:b.heap ab) (hr:Ranked ab (a.inord ++ b.inord)) (hd:∀ x ∈ a.inord,∀ y ∈ b.inord,x ≠ y):(Tr.merge ab a b).heap ab:=by
 fun_induction Tr.merge ab a b with
 | case1 b=>exact hb
 | case2 l x r=>exact ha
 | case3 l x r l2 y r2 h ih =>
  obtain ⟨p1,p2,p3,p4⟩:=ha
  have hxm:x ∈ (Tr.node l x r).inord ++ (Tr.node l2 y r2).inord:=by simp [Tr.inord]
  have hym:y ∈ (Tr.node l x r).inord ++ (Tr.node l2 y r2).inord:=by simp [Tr.inord]
  refine ⟨p1,fun z hz=>?_,p3,ih p4 hb (hr.sub ab (fun z hz=>?_)) (fun u hu v hv=>hd u (by simp [Tr.inord,hu]) v hv)⟩
  · rw [Tr.merge_inord,List.mem_append] at hz
    rcases hz with hz | hz
    · exact p2 z hz
    · obtain ⟨q1,q2,_,_⟩:=hb
      have hzm:z ∈ (Tr.node l x r).inord ++ (Tr.node l2 y r2).inord:=List.mem_append_right _ hz
      simp only [Tr.inord,List.mem_append,List.mem_cons] at hz
      rcases hz with hz | rfl | hz
      · exact hr.tra x hxm y hym z hzm h (q1 z hz)
      · exact h
      · exact hr.tra x hxm y hym z hzm h (q2 z hz)
  · rw [List.mem_append] at hz ⊢
    rcases hz with hz | hz
    · left;simp [Tr.inord,hz]
    · exact .inr hz
 | case4 l x r l2 y r2 h ih =>
  obtain ⟨p1,p2,p3,p4⟩:=hb
  have hxm:x ∈ (Tr.node l x r).inord ++ (Tr.node l2 y r2).inord:=by simp [Tr.inord]
  have hym:y ∈ (Tr.node l x r).inord ++ (Tr.node l2 y r2).inord:=by simp [Tr.inord]
  have hyx:ab y x=true:=by
   rcases hr.tot x hxm y hym (hd x (by simp [Tr.inord]) y (by simp [Tr.inord])) with q | q
   · exact absurd q h
   · exact q
  refine ⟨fun z hz=>?_,p2,ih ha p3 (hr.sub ab (fun z hz=>?_)) (fun u hu v hv=>hd u hu v (by simp [Tr.inord,hv])),p4⟩
  · rw [Tr.merge_inord,List.mem_append] at hz
    rcases hz with hz | hz
    · obtain ⟨q1,q2,_,_⟩:=ha
      have hzm:z ∈ (Tr.node l x r).inord ++ (Tr.node l2 y r2).inord:=List.mem_append_left _ hz
      simp only [Tr.inord,List.mem_append,List.mem_cons] at hz
      rcases hz with hz | rfl | hz
      · exact hr.tra y hym x hxm z hzm hyx (q1 z hz)
      · exact hyx
      · exact hr.tra y hym x hxm z hzm hyx (q2 z hz)
    · exact p1 z hz
  · rw [List.mem_append] at hz ⊢
    rcases hz with hz | hz
    · exact .inl hz
    · right;simp [Tr.inord,hz]
theorem split_one {x:α}:∀ {l r l2 r2:List α},(l ++ x :: r).Nodup -> l ++ x :: r=l2 ++ x :: r2 -> l=l2 /\ r=r2
 | [],_,[],_,_,h=>by simp at h;exact ⟨rfl,h⟩
 | [],r,y :: l2,r2,hn,h=>by
  simp at h
  obtain ⟨rfl,h2⟩:=h
  rw [h2] at hn
  simp at hn
 | y :: l,r,[],r2,hn,h=>by
  simp at h
  obtain ⟨rfl,_⟩:=h
  simp at hn
 | y :: l,r,z :: l2,r2,hn,h=>by
  simp only [List.cons_append,List.cons.injEq] at h
  obtain ⟨rfl,h2⟩:=h
  have hn2:(l ++ x :: r).Nodup:=by
   rw [List.cons_append,List.nodup_cons] at hn
   exact hn.2
  obtain ⟨q1,q2⟩:=split_one hn2 h2
  exact ⟨by rw [q1],q2⟩
theorem Tr.unique (a b:Tr α) (ha:a.heap ab) (hb:b.heap ab) (h:a.inord=b.inord) (hn:a.inord.Nodup) (hr:Ranked ab a.inord):a=b:=by
 induction a generalizing b with
 | nil =>
  cases b with
  | nil=>rfl
  | node l x r=>simp [Tr.inord] at h
 | node l x r ihl ihr =>
  cases b with
  | nil=>simp [Tr.inord] at h
  | node l2 y r2 =>
   obtain ⟨p1,p2,p3,p4⟩:=ha
   obtain ⟨q1,q2,q3,q4⟩:=hb
   simp only [Tr.inord] at h hn hr
   have hxm:x ∈ l.inord ++ x :: r.inord:=by simp
   have hym:y ∈ l.inord ++ x :: r.inord:=by rw [h];simp
   have hxy:x=y:=by
    apply Classical.byContradiction
    intro hne
    have h1:ab x y=true:=by
     have:=hym
     simp only [List.mem_append,List.mem_cons] at this
     rcases this with m | m | m
     · exact p1 y m
     · exact absurd m.symm hne
     · exact p2 y m
    have h2:ab y x=true:=by
     have:=hxm
     rw [h] at this
     simp only [List.mem_append,List.mem_cons] at this
     rcases this with m | m | m
     · exact q1 x m
     · exact absurd m hne
     · exact q2 x m
    have:=hr.asy x hxm y hym h1
    rw [h2] at this
    cases this
   subst hxy
   obtain ⟨e1,e2⟩:=split_one hn h
   have hnl:l.inord.Nodup:=(List.nodup_append.1 hn).1
   have hnr:r.inord.Nodup:=(List.nodup_cons.1 (List.nodup_append.1 hn).2.1).2
   rw [ihl l2 p3 q3 e1 hnl (hr.sub ab (fun z hz=>by simp [hz])),ihr r2 p4 q4 e2 hnr (hr.sub ab (fun z hz=>by simp [hz]))]
end
end Go.Proofs.Sha
