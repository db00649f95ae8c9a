import Derived.Test.YtibjhkpgaaapaaaGreatDoorZhbq
import Derived.Test.YtibjhkpgaaapaaaGreatDoorZhbd
import Derived.Test.YtibjhkpgaaapaaaGreatDoorZhbp
import Derived.Test.YtibjhkpgaaapaaaGreatDoorZhbj
import Derived.Test.YtibjhkpgaaapaaaGreatDoorZhbk
import Derived.Test.YtibjhkpgaaapaaaGreatDoorZhbh
set_option maxRecDepth 100000
set_option maxHeartbeats 4000000
namespace Go.Proofs.YtibjhkpgaaapaaaGreatDoor
open Go.RowKit Go.Proofs.Sha Tryz
def wfil (lo hi:ByteArray) (ps:List PairT):List PairT:=ps.filter (fun p=>hasW lo hi p.1)
theorem wfil_app (lo hi:ByteArray) (a b:List PairT):wfil lo hi (a ++ b)=wfil lo hi a ++ wfil lo hi b:=List.filter_append ..
theorem wfil_le (lo hi:ByteArray) (ps:List PairT):(wfil lo hi ps).length <= ps.length:=List.length_filter_le ..
def RGot (n:Int) (ss:List ByteArray) (root lo hi:ByteArray) (w:World) (e:Ending) (w':World):Prop:=∃ ap cp,e=.returned (.tuple #[.agg #[.int .i64 n,.slice ap ss.length cp],.string root,.string lo,.string hi]) /\ SArg ap ss w' /\ Below w.heap.size w w'
theorem wwithin_any (a:Option Addr) (ps:List PairT) (c:Nat) (lo hi:ByteArray) (w:World) (h:PArg a ps w) (hls:lo.size <= 1048576) (hhs:hi.size <= 1048576):Calls prog 26 #[.slice a ps.length c,.string lo,.string hi] w (PairsAt (wfil lo hi ps) w):=by
 obtain ⟨i0,hi0,hz0,hz1,hz2⟩:=info_parts2 info37
 have hn:=h.le
 obtain ⟨N,hN⟩:∃ N,ps.length=N:=⟨_,rfl⟩
 rw [hN] at hn ⊢
 have hNl:Hid (ps.length=N):=hN
 clear hN
 have hO:=OwnP.nil w
 go_enter func26,ntmps26
 go_wp2_with fail
 go_loopw [7,8] (fun t6 t7 wr=>∃ k:Nat,k <= N /\ t7=.int .i64 (k:Int) /\ ∃ (a':Option Addr) (m d':Nat),t6=.slice a' m d' /\ OwnP w (wfil lo hi (ps.take k)) a' m d' wr) (fun _ t7 _=>N - (intOf t7).toNat)
 case atStart=>exact ⟨0,Nat.zero_le _,rfl,_,_,_,rfl,hO⟩
 case round =>
  obtain ⟨k,hk,rfl,a',m,d',rfl,hW⟩:=hrel
  by_cases hlt:k < N
  · have z1:decide ((k:Int) < (N:Int))=true:=by simp;omega
    have hx0:(0:Int) <= (k:Int):=Int.natCast_nonneg _
    have hx1:(k:Int) < (N:Int):=by omega
    have hszk:=(h.sz k).1
    have hP:=h.below hW.bel
    obtain ⟨b1,off1,rfl,hbl1,hc⟩:=hP.at_ (by rw [hNl.out];omega)
    obtain ⟨hc1,hc2⟩:=hc k (by rw [hNl.out];exact hlt)
    have hml:m <= 1048576:=by have:=hW.len;have:=wfil_le lo hi (ps.take k);rw [List.length_take] at this;omega
    have htk:Hid (wfil lo hi (ps.take (k + 1))=wfil lo hi (ps.take k) ++ wfil lo hi [ps.getD k noPair]):=by
     show _=_
     rw [take_getD ps k (by rw [hNl.out];exact hlt),wfil_app]
    generalize ps.getD k noPair=p at hc1 hc2 htk hszk
    obtain ⟨pk,pv⟩:=p
    simp only at hc1 hc2 hszk
    have HA:Hid (∀ w',Calls prog 66 #[.string pk,.string lo] w' fun e w''=>e=.returned (.bool (lessB pk lo)) /\ ∃ m,w''=w'.drewN m):=fun w'=>wless_q pk lo w' hszk hls
    have HB:Hid (∀ w',Calls prog 66 #[.string pk,.string hi] w' fun e w''=>e=.returned (.bool (lessB pk hi)) /\ ∃ m,w''=w'.drewN m):=fun w'=>wless_q pk hi w' hszk hhs
    have hbs:=hW.bel.size
    clear hc
    have hs1:wr.heap.size <= wr.heap.size:=Nat.le_refl _
    clear hP h
    cases v1:lessB pk lo with
    | true =>
     rw [v1] at HA
     have hf:Hid (wfil lo hi [(pk,pv)]=[]):=by show _=_;simp [wfil,hasW,v1]
     clear v1
     go_wp2_with (first | (go_at_call_of 66 (Value.string lo);refine (HA.out _).mono ?_;rintro e w1 ⟨rfl,m1,hw1⟩;have hb1:Below wr.heap.size wr w1:=(by rw [hw1];exact draws_below m1 (Below.refl _ _));have hc1x:=(hb1.cell (p:=⟨b1,off1 + k * 2,none⟩) (Nat.lt_of_lt_of_le hbl1 hs1)).trans hc1;have hc2x:=(hb1.cell (p:=⟨b1,off1 + k * 2 + 1,none⟩) (Nat.lt_of_lt_of_le hbl1 hs1)).trans hc2;have hs2:=Nat.le_trans hs1 hb1.size;clear hw1))
     have hW1:=hW.below hb1
     go_roundw
     case rel=>exact ⟨k + 1,hlt,by go_num,_,_,_,rfl,by rw [htk.out,hf.out,List.append_nil];exact hW1⟩
     case measure=>simp [intOf];omega
    | false =>
     rw [v1] at HA
     cases v2:emp hi with
     | true =>
      have zz:=emp_beq v2
      have hf:Hid (wfil lo hi [(pk,pv)]=[(pk,pv)]):=by show _=_;simp [wfil,hasW,v1,v2]
      clear v1 v2
      go_upto_region 6 with (first | (go_at_call_of 66 (Value.string lo);refine (HA.out _).mono ?_;rintro e w1 ⟨rfl,m1,hw1⟩;have hb1:Below wr.heap.size wr w1:=(by rw [hw1];exact draws_below m1 (Below.refl _ _));have hc1x:=(hb1.cell (p:=⟨b1,off1 + k * 2,none⟩) (Nat.lt_of_lt_of_le hbl1 hs1)).trans hc1;have hc2x:=(hb1.cell (p:=⟨b1,off1 + k * 2 + 1,none⟩) (Nat.lt_of_lt_of_le hbl1 hs1)).trans hc2;have hs2:=Nat.le_trans hs1 hb1.size;clear hw1))
      have hW1:=hW.below hb1
      have own:=hW1.own
      have hml':w.heap.size <= w1.heap.size:=hW1.bel.size
      go_wp2_with (at_builtin;refine wpList_append_lies _ rfl (.tmp 38) (.tmp 43) 35 rfl w.heap.size 81 i0 (.agg #[.string ⟨#[]⟩,.string ⟨#[]⟩]) 2 32 Tryz.underlying35 hi0 hz0 hz1 hz2 rfl (by decide) (.slice a' m d') m (flatP (wfil lo hi (ps.take k))) rfl (own.alloc _) ⟨w1.heap.size,0,none⟩ 1 1 [.string pk,.string pv] rfl rfl (World.news_of_block (heap_alloc_new w1 _)) (by simp [Value.oneCell']) (by decide) (by unfold maxLen;omega) (by omega) (by simp;omega) (w1.heap.size + 1) (by simp) ?_;intro g5 c5 w5 hown5 hgrow5 hat5 hlt5)
      go_roundw
      case rel=>exact ⟨k + 1,hlt,by go_num,_,_,_,rfl,by rw [htk.out,hf.out];exact hW1.more hown5 hgrow5 rfl⟩
      case measure=>simp [intOf];omega
     | false =>
      have zz:=emp_beq v2
      cases v3:lessB pk hi with
      | true =>
       rw [v3] at HB
       have hf:Hid (wfil lo hi [(pk,pv)]=[(pk,pv)]):=by show _=_;simp [wfil,hasW,v1,v2,v3]
       clear v1 v2 v3
       go_upto_region 6 with (first | (go_at_call_of 66 (Value.string lo);refine (HA.out _).mono ?_;rintro e w1 ⟨rfl,m1,hw1⟩;have hb1:Below wr.heap.size wr w1:=(by rw [hw1];exact draws_below m1 (Below.refl _ _));have hc1x:=(hb1.cell (p:=⟨b1,off1 + k * 2,none⟩) (Nat.lt_of_lt_of_le hbl1 hs1)).trans hc1;have hc2x:=(hb1.cell (p:=⟨b1,off1 + k * 2 + 1,none⟩) (Nat.lt_of_lt_of_le hbl1 hs1)).trans hc2;have hs2:=Nat.le_trans hs1 hb1.size;clear hw1) | (go_at_call_of 66 (Value.string hi);refine (HB.out _).mono ?_;rintro e w2 ⟨rfl,m2,hw2⟩;have hb2:Below w1.heap.size w1 w2:=(by rw [hw2];exact draws_below m2 (Below.refl _ _));have hc1xx:=(hb2.cell (p:=⟨b1,off1 + k * 2,none⟩) (Nat.lt_of_lt_of_le hbl1 hs2)).trans hc1x;have hc2xx:=(hb2.cell (p:=⟨b1,off1 + k * 2 + 1,none⟩) (Nat.lt_of_lt_of_le hbl1 hs2)).trans hc2x;have hs3:=Nat.le_trans hs2 hb2.size;clear hw2))
       have hW2:=(hW.below hb1).below hb2
       have own:=hW2.own
       have hml':w.heap.size <= w2.heap.size:=hW2.bel.size
       go_wp2_with (at_builtin;refine wpList_append_lies _ rfl (.tmp 38) (.tmp 43) 35 rfl w.heap.size 81 i0 (.agg #[.string ⟨#[]⟩,.string ⟨#[]⟩]) 2 32 Tryz.underlying35 hi0 hz0 hz1 hz2 rfl (by decide) (.slice a' m d') m (flatP (wfil lo hi (ps.take k))) rfl (own.alloc _) ⟨w2.heap.size,0,none⟩ 1 1 [.string pk,.string pv] rfl rfl (World.news_of_block (heap_alloc_new w2 _)) (by simp [Value.oneCell']) (by decide) (by unfold maxLen;omega) (by omega) (by simp;omega) (w2.heap.size + 1) (by simp) ?_;intro g5 c5 w5 hown5 hgrow5 hat5 hlt5)
       go_roundw
       case rel=>exact ⟨k + 1,hlt,by go_num,_,_,_,rfl,by rw [htk.out,hf.out];exact hW2.more hown5 hgrow5 rfl⟩
       case measure=>simp [intOf];omega
      | false =>
       rw [v3] at HB
       have hf:Hid (wfil lo hi [(pk,pv)]=[]):=by show _=_;simp [wfil,hasW,v1,v2,v3]
       clear v1 v2 v3
       go_wp2_with (first | (go_at_call_of 66 (Value.string lo);refine (HA.out _).mono ?_;rintro e w1 ⟨rfl,m1,hw1⟩;have hb1:Below wr.heap.size wr w1:=(by rw [hw1];exact draws_below m1 (Below.refl _ _));have hc1x:=(hb1.cell (p:=⟨b1,off1 + k * 2,none⟩) (Nat.lt_of_lt_of_le hbl1 hs1)).trans hc1;have hc2x:=(hb1.cell (p:=⟨b1,off1 + k * 2 + 1,none⟩) (Nat.lt_of_lt_of_le hbl1 hs1)).trans hc2;have hs2:=Nat.le_trans hs1 hb1.size;clear hw1) | (go_at_call_of 66 (Value.string hi);refine (HB.out _).mono ?_;rintro e w2 ⟨rfl,m2,hw2⟩;have hb2:Below w1.heap.size w1 w2:=(by rw [hw2];exact draws_below m2 (Below.refl _ _));have hc1xx:=(hb2.cell (p:=⟨b1,off1 + k * 2,none⟩) (Nat.lt_of_lt_of_le hbl1 hs2)).trans hc1x;have hc2xx:=(hb2.cell (p:=⟨b1,off1 + k * 2 + 1,none⟩) (Nat.lt_of_lt_of_le hbl1 hs2)).trans hc2x;have hs3:=Nat.le_trans hs2 hb2.size;clear hw2))
       have hW2:=(hW.below hb1).below hb2
       go_roundw
       case rel=>exact ⟨k + 1,hlt,by go_num,_,_,_,rfl,by rw [htk.out,hf.out,List.append_nil];exact hW2⟩
       case measure=>simp [intOf];omega
  · obtain rfl:k=N:=by omega
    have z1:decide ((k:Int) < (k:Int))=false:=by simp
    rw [List.take_of_length_le (by rw [hNl.out];exact Nat.le_refl _)] at hW
    have hl:=hW.len
    subst hl
    go_wp2_with fail
    go_ret
    exact ⟨_,_,rfl,hW⟩
theorem prove_tree {fnd:ByteArray -> FN} {wd:Nat} (hfo:FndOk wd fnd) (h1:1 <= wd) (h2:wd <= 32) {t:Tr PairT} (hH:HasT fnd wd t) (h5:t.size <= 500) (hg:(goF fnd hgW ⟨#[]⟩ ⟨#[]⟩ 501 (rootT wd t) ⟨#[]⟩ ⟨#[]⟩ ⟨#[]⟩ 0).1=0) (m:Nat) (hm:poolOk (wd:Int) m=true) (lo hi:ByteArray) :
 proveM fnd (wd:Int) m (rootT wd t) lo hi=(T (txtP (ptT wd lo hi ⟨#[]⟩ ⟨#[]⟩ t)),0) /\ (T (txtP (ptT wd lo hi ⟨#[]⟩ ⟨#[]⟩ t))).size <= 1300000:=by
 obtain ⟨a1,_,_⟩:=goF_range hfo lo hi 501 (rootT wd t) ⟨#[]⟩ ⟨#[]⟩ ⟨#[]⟩ 0 0 (Nat.le_refl _) (Nat.zero_le _) hg
 have hp:=prL_tree h1 h2 lo hi t 501 ⟨#[]⟩ ⟨#[]⟩ (by omega) hH
 have hc:=goF_cnt 501 (rootT wd t) ⟨#[]⟩ ⟨#[]⟩ ⟨#[]⟩ 0 (Nat.zero_le _) a1
 have hl:=prL_len hfo h2 501 (rootT wd t) ⟨#[]⟩ ⟨#[]⟩ ⟨#[]⟩ 0 (Nat.zero_le _) (rootT_size wd h2 t) a1
 have hho:hashOk (rootT wd t).size (wd:Int)=true:=by
  have:=rootT_size wd h2 t
  unfold hashOk
  rw [Bool.or_eq_true,decide_eq_true_eq,decide_eq_true_eq]
  omega
 refine ⟨?_,?_⟩
 · unfold proveM
   rw [if_pos hm]
   unfold proveX
   rw [Int.toNat_natCast,if_pos hho,if_pos a1,hp]
   rfl
 · rw [T_size,<- hp]
   omega
theorem okC_tree (wd:Nat) (h2:wd <= 32) (lo hi:ByteArray):∀ (t:Tr PairT) (over under:ByteArray),(∀ p ∈ t.inord,okKey p.1=true /\ okVal p.2=true) -> okC wd (ptT wd lo hi over under t)
 | .nil,_,_,_=>trivial
 | .node l x r,over,under,h=>by
  cases hc:canW over under lo hi with
  | false=>rw [ptT_s hc];exact digB_size _ _ h2
  | true =>
   rw [ptT_f hc]
   have hx:=h x (by simp [Tr.inord])
   unfold okKey okVal at hx
   rw [decide_eq_true_eq,decide_eq_true_eq] at hx
   exact ⟨by omega,by omega,okC_tree wd h2 lo hi l _ _ (fun p hp=>h p (by simp [Tr.inord,hp])),okC_tree wd h2 lo hi r _ _ (fun p hp=>h p (by simp [Tr.inord,hp]))⟩
theorem prove_facts (D:Dec) (n:Int) (hdo:∀ wd:Nat,(wd:Int)=n -> DecOk wd D) (hde:∀ wd:Nat,(wd:Int)=n -> DecEnc wd D) (hdi:∀ wd:Nat,(wd:Int)=n -> DecInv wd D) (ss:List ByteArray) (root lo hi:ByteArray) (h:(rangeM (fndD D n.toNat ss) n ss.length root ⟨#[]⟩ ⟨#[]⟩).2=0) :
 ∃ (wd:Nat) (ALL:List PairT) (pt:PT),n=(wd:Int) /\ 1 <= wd /\ wd <= 32 /\ (rangeM (fndD D n.toNat ss) n ss.length root ⟨#[]⟩ ⟨#[]⟩).1=ALL /\ isMapT ALL=true /\ ALL.length <= 500 /\ rootT wd (cutTree ALL)=root ∧
  proveM (fndD D n.toNat ss) n ss.length root lo hi=(T (txtP pt),0) /\ (T (txtP pt)).size <= 1300000 ∧
  accP n root lo hi (T (txtP pt))=some pt /\ shP lo hi pt=wfil lo hi ALL /\ okC wd pt /\ cP pt <= (wfil lo hi ALL).length + 2 * hT (cutTree ALL) /\ sP pt <= 2 * hT (cutTree ALL) + 1 /\ hT (cutTree ALL) <= 500 ∧
  ((∃ ad,saveO n [] ALL=⟨0,n,ad,root,⟨#[]⟩,⟨#[]⟩⟩ /\ SmT ad 500 10000 /\ proveM (fndD D n.toNat ad) n ad.length root lo hi=(T (txtP pt),0)) \/ (∃ x y,saveO n [] ALL=⟨4,n,[],⟨#[]⟩,x,y⟩ /\ x ≠ y)):=by
 unfold rangeM at h ⊢
 by_cases hp:(poolOk n ss.length && hashOk root.size n)=true
 · rw [if_pos hp] at h ⊢
   have hp2:=(Bool.and_eq_true _ _).mp hp
   have hp':1 <= n /\ n <= 32 /\ ss.length <= 20000:=of_decide_eq_true hp2.1
   obtain ⟨wd,rfl⟩:∃ wd:Nat,n=(wd:Int):=⟨n.toNat,by omega⟩
   have h1:1 <= wd:=by omega
   have h2:wd <= 32:=by omega
   rw [Int.toNat_natCast] at h ⊢
   by_cases h0:(goF (fndD D wd ss) hgW ⟨#[]⟩ ⟨#[]⟩ 501 root ⟨#[]⟩ ⟨#[]⟩ ⟨#[]⟩ 0).1=0
   · rw [if_pos h0]
     have hfo:=fndD_ok D wd ss (hdo wd rfl)
     obtain ⟨t,t1,t2,t3,t4,t5,t6⟩:=load_tree hfo (fndD_inv D wd ss (hdi wd rfl)) 501 root ⟨#[]⟩ ⟨#[]⟩ ⟨#[]⟩ 0 h0
     have hup:=goF_up (hg:=hgW) (lo:=⟨#[]⟩) (hi:=⟨#[]⟩) hfo 501 root ⟨#[]⟩ ⟨#[]⟩ ⟨#[]⟩ 0
     have hcnt:=goF_cnt (hg:=hgW) (fnd:=fndD D wd ss) (lo:=⟨#[]⟩) (hi:=⟨#[]⟩) 501 root ⟨#[]⟩ ⟨#[]⟩ ⟨#[]⟩ 0 (Nat.zero_le _) h0
     rw [<- t3] at hup ⊢
     have hsz:t.size <= 500:=by omega
     have hok:∀ p ∈ t.inord,okKey p.1=true /\ okVal p.2=true:=fun p hp=>⟨(t5 p hp).1,(t5 p hp).2.1⟩
     have hlen:t.inord.length <= 500:=by rw [Tr.inord_len];exact hsz
     have hmap:=isMapT_of hup.1 hok hlen
     have hcut:cutTree t.inord=t:=(tree_one t t.inord t4 rfl (ku_apart hup.1)).symm
     have hB:Btw ⟨#[]⟩ ⟨#[]⟩ t:=⟨hup.1,fun p hp=>hup.2 p.1 (mem_keys hp)⟩
     obtain ⟨p1,p2⟩:=prove_tree hfo h1 h2 t1 hsz (by rw [t2];exact h0) ss.length hp2.1 lo hi
     have hacc:=acc_tree wd h1 h2 lo hi t hsz hB t4 hok
     have hcr:=cnt_root wd lo hi t hB
     rw [t2] at p1 hacc
     refine ⟨wd,t.inord,ptT wd lo hi ⟨#[]⟩ ⟨#[]⟩ t,rfl,h1,h2,rfl,hmap,hlen,by rw [hcut];exact t2,p1,p2,hacc,ptT_sh wd lo hi t _ _ hB,okC_tree wd h2 lo hi t _ _ hok,by rw [hcut];exact hcr.1,by rw [hcut];exact hcr.2,by rw [hcut];exact Nat.le_trans (hT_le t) hsz,?_⟩
     have hnil:SmT ([]:List ByteArray) 0 10000:=⟨Nat.le_refl _,fun x hx=>by cases hx⟩
     have hpo:poolOk (wd:Int) ([]:List ByteArray).length=true:=decide_eq_true ⟨by omega,by omega,by decide⟩
     have hsv:saveO (wd:Int) [] t.inord=savO wd [] (cutTree t.inord):=by
      unfold saveO
      rw [hpo,hmap,Bool.and_self,if_pos rfl,Int.toNat_natCast]
     rw [hsv]
     rcases savO_cases (wd:=wd) (ss:=[]) (ps:=t.inord) (n:=0) (k:=500) (s:=10000) hnil (Nat.le_refl _) hlen (by omega) with ⟨ad,e1,e2,e3⟩ | ⟨u,e,e1,e2,_⟩
     · refine .inl ⟨ad,?_,⟨Nat.le_trans e3.len (by omega),e3.sz⟩,?_⟩
       · rw [e2,hcut,t2]
         rfl
       · have hg:=saved_goF D wd (hde wd rfl) h1 h2 hmap e1
         have hH:=has_all D wd (hde wd rfl) h1 h2 (ss:=[]) (ad:=ad) (cutTree t.inord) (by rw [hcut];exact hok) (sv_has wd [] _ [] ad e1).2
         rw [hcut] at hg hH
         rw [List.nil_append] at hg hH
         have hl:ad.length <= 20000:=by have:=e3.len;rw [List.nil_append] at this;omega
         have:=(prove_tree (fndD_ok D wd ad (hdo wd rfl)) h1 h2 hH hsz (by rw [hg]) ad.length (decide_eq_true ⟨by omega,by omega,hl⟩) lo hi).1
         rw [t2] at this
         exact this
     · refine .inr ⟨txt u,txt e,e1,fun q=>e2 ?_⟩
       have:=congrArg (fun t:ByteArray=>t.data.toList) q
       unfold txt at this
       simp only [ByteArray.data_append,Array.toList_append] at this
       have h3:=List.append_cancel_left this
       exact ByteArray.ext (Array.toList_inj.1 h3)
   · rw [if_neg h0] at h
     exact absurd h h0
 · rw [if_neg hp] at h
   exact absurd h (by decide)
def AGot (n:Int) (ss roots:List ByteArray) (root:ByteArray) (z:Nat) (w:World) (e:Ending) (w':World):Prop:=∃ ap cp ar cr,e=.returned (.tuple #[.agg #[.int .i64 n,.slice ap ss.length cp],.string root,.slice ar roots.length cr,.int .i64 (z:Int)]) /\ SArg ap ss w' /\ SArg ar roots w' /\ Below w.heap.size w w'
theorem retPT4 {fn:Func} {R:Ending -> World -> Prop} {A:Act} {p q r s:Tmp} {gb:Nat} {n:Int} {a:Option Addr} {m c:Nat} {v2 v3 v4:Value} {W:World} (hres:fn.results=#[.cell p 31,.tmp q,.tmp r,.tmp s]) (hp:A.tmps.getD p undef=.pointer (some ⟨gb,0,none⟩)) (hq:A.tmps.getD q undef=v2) (hr:A.tmps.getD r undef=v3) (hs:A.tmps.getD s undef=v4) (hd:A.defers=[]) (hn:W.heap[gb]?=some (.cells #[.int .i64 n,.slice a m c] 31))
 (h:R (.returned (.tuple #[.agg #[.int .i64 n,.slice a m c],v2,v3,v4])) W):bodyPost prog fn R Exit.ret A W:=by
 have c0:=ZC hn 0
 have c1:=ZC hn 1
 have hp':A.tmps[p]?.getD undef=.pointer (some ⟨gb,0,none⟩):=by simpa using hp
 have hq':A.tmps[q]?.getD undef=v2:=by simpa using hq
 have hr':A.tmps[r]?.getD undef=v3:=by simpa using hr
 have hs':A.tmps[s]?.getD undef=v4:=by simpa using hs
 refine bodyPost_ret (v:=.tuple #[.agg #[.int .i64 n,.slice a m c],v2,v3,v4]) ?_ hd h
 simp [results,hres,go_sem,asAddr,hp',hq',hr',hs',c0,c1]
structure AP (w:World) (gr gq:Nat) (n:Int) (ss roots:List ByteArray) (ap:Option Addr) (cp:Nat) (ar:Option Addr) (W:World):Prop where
 res:W.heap[gr]?=some (.cells #[.int .i64 0,.slice none 0 0] 31)
 pool:W.heap[gq]?=some (.cells #[.int .i64 n,.slice ap ss.length cp] 31)
 ne:gr ≠ gq
 ge:w.heap.size <= gr
 ge2:w.heap.size <= gq
 parg:SArg ap ss W
 rarg:SArg ar roots W
 bel:Below w.heap.size w W
section
variable {w:World} {gr gq:Nat} {n:Int} {ss roots:List ByteArray} {ap:Option Addr} {cp:Nat} {ar:Option Addr} {W W':World}
theorem AP.below (h:AP w gr gq n ss roots ap cp ar W) (hb:Below W.heap.size W W'):AP w gr gq n ss roots ap cp ar W' :=
 ⟨pblk_below hb h.res,pblk_below hb h.pool,h.ne,h.ge,h.ge2,h.parg.below hb,h.rarg.below hb,h.bel.trans (hb.mono h.bel.size)⟩
theorem SArg.set37 {a:Option Addr} {xs:List ByteArray} {g o:Nat} {n':Int} {v:Option Addr} {m c:Nat} (h:SArg a xs W) (hg:W.heap[g]?=some (.cells #[.int .i64 n',.slice v m c] 31)) (u:Value):SArg a xs (W.setCell ⟨g,o,none⟩ u) :=
 h.grown (grownBy_setCell W g o u) (fun b off e hp q=>h.pool hg b off e hp (Option.some.inj q))
theorem AP.setw (h:AP w gr gq n ss roots ap cp ar W) (n':Int):AP w gr gq n' ss roots ap cp ar (W.setCell ⟨gq,0,none⟩ (.int .i64 n')) :=
 ⟨(Below.heap_setCell _ _ _ _ (by show gr ≠ gq;exact h.ne)).trans h.res,heap_setCell_same W gq 0 _ 31 (.int .i64 n') h.pool,h.ne,h.ge,h.ge2,h.parg.set37 h.pool _,h.rarg.set37 h.pool _,h.bel.setCell (p:=⟨gq,0,none⟩) h.ge2 _⟩
theorem AP.m1 (h:AP w gr gq n ss roots ap cp ar W):((W.setCell ⟨gr,0,none⟩ (.int .i64 n)).setCell ⟨gr,1,none⟩ (.slice ap ss.length cp)).heap[gr]?=some (.cells #[.int .i64 n,.slice ap ss.length cp] 31) :=
 heap_setCell_same _ gr 1 _ 31 (.slice ap ss.length cp) (heap_setCell_same W gr 0 _ 31 (.int .i64 n) h.res)
theorem AP.fin (h:AP w gr gq n ss roots ap cp ar W) (root:ByteArray) (z cr:Nat):AGot n ss roots root z w (.returned (.tuple #[.agg #[.int .i64 n,.slice ap ss.length cp],.string root,.slice ar roots.length cr,.int .i64 (z:Int)])) ((W.setCell ⟨gr,0,none⟩ (.int .i64 n)).setCell ⟨gr,1,none⟩ (.slice ap ss.length cp)):=by
 have m0:=heap_setCell_same W gr 0 _ 31 (.int .i64 n) h.res
 exact ⟨ap,cp,ar,cr,rfl,(h.parg.set37 h.res _).set37 m0 _,(h.rarg.set37 h.res _).set37 m0 _,(h.bel.setCell (p:=⟨gr,0,none⟩) h.ge _).setCell (p:=⟨gr,1,none⟩) h.ge _⟩
end
theorem AP.fin2 {w:World} {gr gq:Nat} {n:Int} {ss roots:List ByteArray} {ap:Option Addr} {cp:Nat} {ar:Option Addr} {W:World} (h:AP w gr gq n ss roots ap cp ar W) (root lo hi:ByteArray):RGot n ss root lo hi w (.returned (.tuple #[.agg #[.int .i64 n,.slice ap ss.length cp],.string root,.string lo,.string hi])) ((W.setCell ⟨gr,0,none⟩ (.int .i64 n)).setCell ⟨gr,1,none⟩ (.slice ap ss.length cp)):=by
 have m0:=heap_setCell_same W gr 0 _ 31 (.int .i64 n) h.res
 exact ⟨ap,cp,rfl,(h.parg.set37 h.res _).set37 m0 _,(h.bel.setCell (p:=⟨gr,0,none⟩) h.ge _).setCell (p:=⟨gr,1,none⟩) h.ge _⟩
theorem drange_any (a:Option Addr) (xs:List Nat) (cap z q:Nat) (n:Int) (ss roots:List ByteArray) (root lo hi:ByteArray)
 (HP:∀ w,BL a xs w -> Calls prog 124 #[.slice a xs.length cap,.int .i64 ((0:Nat):Int)] w (AGot n ss roots root z w))
 (HB:∀ w,BL a xs w -> Calls prog 77 #[.slice a xs.length cap,.int .i64 (z:Int)] w fun e w'=>e=.returned (.tuple #[.string lo,.string hi,.int .i64 (q:Int)]) /\ Below w.heap.size w w') :
 ∀ w,BL a xs w -> Calls prog 65 #[.slice a xs.length cap] w (RGot n ss root lo hi w):=by
 intro w hB
 have HP':Hid (∀ w',Below w.heap.size w w' -> Calls prog 124 #[.slice a xs.length cap,.int .i64 0] w' (AGot n ss roots root z w')):=fun w' hb=>HP w' (hB.below hb)
 have HB':Hid (∀ w',Below w.heap.size w w' -> Calls prog 77 #[.slice a xs.length cap,.int .i64 (z:Int)] w' fun e w''=>e=.returned (.tuple #[.string lo,.string hi,.int .i64 (q:Int)]) /\ Below w'.heap.size w' w''):=fun w' hb=>HB w' (hB.below hb)
 unfold AGot at HP'
 clear HP HB hB
 obtain ⟨L,hLL⟩:∃ L,xs.length=L:=⟨_,rfl⟩
 rw [hLL] at HP' HB' ⊢
 clear hLL
 obtain ⟨N,hN⟩:∃ N,ss.length=N:=⟨_,rfl⟩
 rw [hN] at HP'
 obtain ⟨R,hRn⟩:∃ R,roots.length=R:=⟨_,rfl⟩
 rw [hRn] at HP'
 have hA:Below w.heap.size w (w.alloc (.cells #[.int .i64 0,.slice none 0 0] 31)):=(Below.refl _ _).alloc (Nat.le_refl _) _
 have nA:=heap_alloc_new w (.cells #[.int .i64 0,.slice none 0 0] 31)
 have hgw:w.heap.size <= w.heap.size:=Nat.le_refl _
 go_enter func65,ntmps65
 go_upto_region 1 with fail
 generalize w.alloc (.cells #[.int .i64 0,.slice none 0 0] 31)=wA at hA nA ⊢
 obtain ⟨gr,hgr⟩:∃ g,w.heap.size=g:=⟨_,rfl⟩
 have hgl:w.heap.size <= gr:=Nat.le_of_eq hgr
 rw [hgr] at nA
 try rw [hgr]
 clear hgr hgw
 go_upto_region 2 with (first | (go_at_call 124;refine (HP'.out _ hA).mono ?_;rintro e w2 ⟨ap,cp,ar,cr,rfl,hS2,hR2,hb2⟩))
 have al:Below w2.heap.size w2 (w2.alloc (.cells #[.int .i64 n,.slice ap N cp] 31)):=(Below.refl _ _).alloc (Nat.le_refl _) _
 have nB:=pblk_below hb2 nA
 have hbw2:=hA.trans (hb2.mono hA.size)
 have hAP:AP w gr w2.heap.size n ss roots ap cp ar (w2.alloc (.cells #[.int .i64 n,.slice ap N cp] 31)):=by
  refine ⟨pblk_below al nB,by rw [hN];exact heap_alloc_new w2 _,?_,hgl,hbw2.size,hS2.below al,hR2.below al,hbw2.trans (al.mono hbw2.size)⟩
  have:=(Array.getElem?_eq_some_iff.1 nB).1
  omega
 generalize w2.alloc (.cells #[.int .i64 n,.slice ap N cp] 31)=w3 at hAP ⊢
 obtain ⟨gq,hgq⟩:∃ g,w2.heap.size=g:=⟨_,rfl⟩
 rw [hgq] at hAP
 try rw [hgq]
 clear hgq al hS2 hR2 nB nA hb2 hbw2 hA HP'
 go_upto_region 3 with (first | (go_at_call 77;refine (HB'.out _ hAP.bel).mono ?_;rintro e w4 ⟨rfl,hb4⟩))
 have hP4:=hAP.below hb4
 clear hAP hb4 HB'
 have c0:=ZC hP4.pool 0
 have c1:=ZC hP4.pool 1
 rw [hN] at c0 c1
 have hfin:Hid (RGot _ ss root lo hi w _ _):=hP4.fin2 root lo hi
 have m1:=hP4.m1
 rw [hN] at hfin
 rw [hN] at m1
 have e0:=ZC hP4.res 0
 have e1:=ZC hP4.res 1
 have ef:∀ j,w4.frozen? ⟨gr,j,none⟩=false:=fun j=>by rw [World.frozen?,hP4.res];rfl
 clear hP4
 go_wp2_with fail
 exact retPT4 Tryz.results65 rfl rfl rfl rfl rfl m1 hfin.out
end Go.Proofs.YtibjhkpgaaapaaaGreatDoor
