import Derived.Test.YtibjhkpgaaapaaaGreatDoorZhay
import Derived.Test.YtibjhkpgaaapaaaGreatDoorZhaj
import Derived.Test.YtibjhkpgaaapaaaGreatDoorZhax
import Derived.Test.YtibjhkpgaaapaaaGreatDoorZhbc
import Derived.Test.YtibjhkpgaaapaaaGreatDoorZhau
import Derived.Test.YtibjhkpgaaapaaaGreatDoorZham
set_option maxRecDepth 100000
set_option maxHeartbeats 2000000
namespace Go.Proofs.YtibjhkpgaaapaaaGreatDoor
open Go.RowKit Go.Proofs.Sha Tryz
def Mid (rest:List PairT) (key val:ByteArray) (k:Nat) (out:List PairT):Bool -> Prop
 | true=>out ++ rest.drop k=ins key val rest
 | false=>out=rest.take k /\ ins key val rest=rest.take k ++ ins key val (rest.drop k)
theorem drewN_below (w:World) (q:Nat):Below w.heap.size w (w.drewN q):=draws_below _ (Below.refl _ _)
theorem Mid.start (rest:List PairT) (key val:ByteArray):Mid rest key val 0 [] false:=⟨rfl,rfl⟩
theorem Mid.done {rest:List PairT} {key val:ByteArray} {k:Nat} {out:List PairT} (h:Mid rest key val k out true) (hk:k < rest.length):Mid rest key val (k + 1) (out ++ [rest.getD k noPair]) true:=by
 unfold Mid at h ⊢
 rw [<- h,drop_getD rest k hk]
 simp
theorem Mid.now {rest:List PairT} {key val:ByteArray} {k:Nat} {out:List PairT} (h:Mid rest key val k out false) (hk:k < rest.length) (hl:lessB key (rest.getD k noPair).1=true):Mid rest key val (k + 1) (out ++ [(key,val)] ++ [rest.getD k noPair]) true:=by
 unfold Mid at h ⊢
 obtain ⟨h1,h2⟩:=h
 rw [h2,drop_getD rest k hk,ins,if_pos hl,h1]
 simp
theorem Mid.past {rest:List PairT} {key val:ByteArray} {k:Nat} {out:List PairT} (h:Mid rest key val k out false) (hk:k < rest.length) (hl:lessB key (rest.getD k noPair).1=false):Mid rest key val (k + 1) (out ++ [rest.getD k noPair]) false:=by
 unfold Mid at h ⊢
 obtain ⟨h1,h2⟩:=h
 rw [take_getD rest k hk,h1]
 refine ⟨rfl,?_⟩
 rw [h2,drop_getD rest k hk,ins,if_neg (by rw [hl];decide)]
 simp
theorem OwnP.up {w w1 W:World} {xs:List PairT} {a:Option Addr} {m c:Nat} (h:OwnP w1 xs a m c W) (hb:Below w.heap.size w w1):OwnP w xs a m c W :=
 ⟨own2_mono h.own hb.size,hb.trans (h.bel.mono hb.size),h.len⟩
theorem ownp_parg {w W:World} {c m:Nat} {a:Option Addr} {ps:List PairT} (h:OwnP w ps a m c W) (hs:SmallP ps):PArg a ps W:=by
 have hl:=h.len
 subst hl
 exact own_parg h.own hs
theorem Mid.len {rest:List PairT} {key val:ByteArray} {k:Nat} {out:List PairT} {d:Bool} (h:Mid rest key val k out d):out.length <= rest.length + 1:=by
 have hi:∀ l:List PairT,(ins key val l).length=l.length + 1:=fun l=>by
  induction l with
  | nil=>rfl
  | cons p l ih=>rw [ins];split <;> simp [ih]
 cases d with
 | true =>
  have:=congrArg List.length h
  rw [List.length_append,hi] at this
  omega
 | false =>
  rw [h.1,List.length_take]
  omega
theorem with_any (a:Option Addr) (ps:List PairT) (c:Nat) (key val:ByteArray) (w:World) (h:PArg a ps w) (hks:key.size <= 1048576) (hpl:ps.length <= 100000):Calls prog 86 #[.slice a ps.length c,.string key,.string val] w (PairsAt (wth ps key val) w):=by
 obtain ⟨i0,hi0,hz0,hz1,hz2⟩:=info_parts2 info37
 have HO:=without_any a ps c key w h
 have hrs:SmallP (wout ps key):=by
  refine ⟨Nat.le_trans (wout_le ps key) h.le,fun j=>?_⟩
  by_cases hj:j < (wout ps key).length
  · have hm:(wout ps key)[j] ∈ ps:=(List.mem_filter.1 (List.getElem_mem hj)).1
    obtain ⟨i,hi,e⟩:=List.getElem_of_mem hm
    have:=h.sz i
    rw [List.getD_eq_getElem?_getD,List.getElem?_eq_getElem hi,Option.getD_some,e] at this
    rw [List.getD_eq_getElem?_getD,List.getElem?_eq_getElem hj,Option.getD_some]
    exact this
  · rw [pget_out _ _ (by omega)]
    exact ⟨Nat.zero_le _,Nat.zero_le _⟩
 have hrl:(wout ps key).length <= 100000:=Nat.le_trans (wout_le ps key) hpl
 unfold wth
 generalize wout ps key=rest at HO hrs hrl ⊢
 go_enter func86,ntmps86
 go_upto_region 2 with (first | (go_at_call 137;refine HO.mono ?_;rintro e w1 ⟨a1,c1,rfl,hO1⟩))
 have hb1:=hO1.bel
 have hp1:=ownp_parg hO1 hrs
 have hO2:=OwnP.nil w1
 obtain ⟨N,hN⟩:∃ N,rest.length=N:=⟨_,rfl⟩
 rw [hN] at hrl ⊢
 have hNl:Hid (rest.length=N):=hN
 clear hN hO1 HO
 go_wp2_with fail
 go_loopw [8,9,10] (fun t8 t9 t10 wr=>∃ k:Nat,k <= N /\ t10=.int .i64 (k:Int) /\ ∃ (d:Bool) (a':Option Addr) (m d':Nat) (out:List PairT),t9=.bool d /\ t8=.slice a' m d' /\ OwnP w1 out a' m d' wr /\ Hid (Mid rest key val k out d)) (fun _ _ t10 _=>N - (intOf t10).toNat)
 case atStart=>exact ⟨0,Nat.zero_le _,rfl,false,_,_,_,[],rfl,rfl,hO2,Mid.start rest key val⟩
 case round =>
  obtain ⟨k,hk,rfl,d,a',m,d',out,rfl,rfl,hW,hM⟩:=hrel
  have hml:m <= 100001:=by have:=hW.len;have:=hM.out.len;rw [hNl.out] at this;omega
  have hbs:=hW.bel.size
  have own:=hW.own
  by_cases hlt:k < N
  · have z1:decide ((k:Int) < (N:Int))=true:=by simp;omega
    have hx0:(0:Int) <= (k:Int):=Int.natCast_nonneg _
    have hx1:(k:Int) < (N:Int):=by omega
    have hkr:Hid (k < rest.length):=by show _ < _;rw [hNl.out];exact hlt
    obtain ⟨b1,off1,rfl,hbl1,hc⟩:=(hp1.below hW.bel).at_ (by rw [hNl.out];omega)
    obtain ⟨hc1,hc2⟩:=hc k hkr.out
    have hsz:=(hrs.2 k).1
    have Mdone:Hid (d=true -> Mid rest key val (k + 1) (out ++ [rest.getD k noPair]) true):=fun e=>by subst e;exact hM.out.done hkr.out
    have Mnow:Hid (d=false -> lessB key (rest.getD k noPair).1=true -> Mid rest key val (k + 1) (out ++ [(key,val)] ++ [rest.getD k noPair]) true):=fun e=>by subst e;exact hM.out.now hkr.out
    have Mpast:Hid (d=false -> lessB key (rest.getD k noPair).1=false -> Mid rest key val (k + 1) (out ++ [rest.getD k noPair]) false):=fun e=>by subst e;exact hM.out.past hkr.out
    obtain ⟨p,hpp⟩:∃ p,rest.getD k noPair=p:=⟨_,rfl⟩
    have hpe:Hid (rest.getD k noPair=p):=hpp
    rw [hpp] at hc1 hc2 hsz Mdone Mnow Mpast
    clear hpp
    obtain ⟨pk,pv⟩:=p
    simp only at hc1 hc2 hsz
    have hbl2:b1 < wr.heap.size:=hbl1
    clear hc hM
    cases d with
    | true =>
     go_wp2_with (at_builtin;refine wpList_append_lies _ rfl (.tmp 38) (.tmp 43) 35 rfl w1.heap.size 81 i0 (.agg #[.string ⟨#[]⟩,.string ⟨#[]⟩]) 2 32 Tryz.underlying35 hi0 hz0 hz1 hz2 rfl (by decide) (.slice a' m d') m (flatP out) rfl (own.alloc _) ⟨wr.heap.size,0,none⟩ 1 1 [.string pk,.string pv] rfl rfl (World.news_of_block (heap_alloc_new wr _)) (by simp [Value.oneCell']) (by decide) (by unfold maxLen;omega) (by omega) (by simp;omega) (wr.heap.size + 1) (by simp) ?_;intro g5 c5 w5 hown5 hgrow5 hat5 hlt5)
     go_roundw
     case rel=>exact ⟨k + 1,hlt,by go_num,true,_,_,_,_,rfl,rfl,hW.more hown5 hgrow5 rfl,Mdone.out (by first | rfl | trivial)⟩
     case measure=>simp [intOf];omega
    | false =>
     have HL:=lessS_q key pk wr hks hsz
     cases hl:lessB key pk with
     | false =>
      rw [hl] at HL
      go_upto_region 10 with (first | (go_at_call 85;refine HL.mono ?_;rintro e w3 ⟨rfl,q,rfl⟩))
      have hW3:=hW.below (drewN_below wr q)
      have own3:=hW3.own
      have hd1:=((drewN_below wr q).cell (p:=⟨b1,off1 + k * 2,none⟩) hbl2).trans hc1
      have hd2:=((drewN_below wr q).cell (p:=⟨b1,off1 + k * 2 + 1,none⟩) hbl2).trans hc2
      have hbs3:=hW3.bel.size
      clear own hc1 hc2 HL
      generalize wr.drewN q=w3 at *
      go_wp2_with (at_builtin;refine wpList_append_lies _ rfl (.tmp 38) (.tmp 43) 35 rfl w1.heap.size 81 i0 (.agg #[.string ⟨#[]⟩,.string ⟨#[]⟩]) 2 32 Tryz.underlying35 hi0 hz0 hz1 hz2 rfl (by decide) (.slice a' m d') m (flatP out) rfl (own3.alloc _) ⟨w3.heap.size,0,none⟩ 1 1 [.string pk,.string pv] rfl rfl (World.news_of_block (heap_alloc_new w3 _)) (by simp [Value.oneCell']) (by decide) (by unfold maxLen;omega) (by omega) (by simp;omega) (w3.heap.size + 1) (by simp) ?_;intro g5 c5 w5 hown5 hgrow5 hat5 hlt5)
      go_roundw
      case rel=>exact ⟨k + 1,hlt,by go_num,false,_,_,_,_,rfl,rfl,hW3.more hown5 hgrow5 rfl,Mpast.out (by first | rfl | trivial) hl⟩
      case measure=>simp [intOf];omega
     | true =>
      rw [hl] at HL
      go_upto_region 8 with (first | (go_at_call 85;refine HL.mono ?_;rintro e w3 ⟨rfl,q,rfl⟩))
      have hW3:=hW.below (drewN_below wr q)
      have own3:=hW3.own
      have hd1:=((drewN_below wr q).cell (p:=⟨b1,off1 + k * 2,none⟩) hbl2).trans hc1
      have hd2:=((drewN_below wr q).cell (p:=⟨b1,off1 + k * 2 + 1,none⟩) hbl2).trans hc2
      have hbs3:=hW3.bel.size
      clear own hc1 hc2 HL
      generalize wr.drewN q=w3 at *
      go_upto_region 9 with (at_builtin;refine wpList_append_lies _ rfl (.tmp 32) (.tmp 36) 35 rfl w1.heap.size 81 i0 (.agg #[.string ⟨#[]⟩,.string ⟨#[]⟩]) 2 32 Tryz.underlying35 hi0 hz0 hz1 hz2 rfl (by decide) (.slice a' m d') m (flatP out) rfl (own3.alloc _) ⟨w3.heap.size,0,none⟩ 1 1 [.string key,.string val] rfl rfl (World.news_of_block (heap_alloc_new w3 _)) (by simp [Value.oneCell']) (by decide) (by unfold maxLen;omega) (by omega) (by simp;omega) (w3.heap.size + 1) (by simp) ?_;intro g5 c5 w5 hown5 hgrow5 hat5 hlt5)
      have hW5:=hW3.more (y:=(key,val)) hown5 hgrow5 rfl
      have hp5:=hp1.below hW5.bel
      have own5:=hW5.own
      have hbs5:=hW5.bel.size
      obtain ⟨b2,off2,e2,hbl5,hc5⟩:=hp5.at_ (by rw [hNl.out];omega)
      cases e2
      obtain ⟨hd1,hd2⟩:=hc5 k hkr.out
      have Mn:=Mnow.out (by first | rfl | trivial) hl
      replace Mn:Hid _:=Mn
      have hgd:(rest.getD k noPair)=(pk,pv):=hpe.out
      rw [hgd] at hd1 hd2
      simp only at hd1 hd2
      clear own3 hc5 hgd
      go_wp2_with (at_builtin;refine wpList_append_lies _ rfl (.tmp 38) (.tmp 43) 35 rfl w1.heap.size 81 i0 (.agg #[.string ⟨#[]⟩,.string ⟨#[]⟩]) 2 32 Tryz.underlying35 hi0 hz0 hz1 hz2 rfl (by decide) (.slice (some ⟨g5,0,none⟩) (m + 1) c5) (m + 1) (flatP (out ++ [(key,val)])) rfl (own5.alloc _) ⟨w5.heap.size,0,none⟩ 1 1 [.string pk,.string pv] rfl rfl (World.news_of_block (heap_alloc_new w5 _)) (by simp [Value.oneCell']) (by decide) (by unfold maxLen;omega) (by omega) (by simp;omega) (w5.heap.size + 1) (by simp) ?_;intro g6 c6 w6 hown6 hgrow6 hat6 hlt6)
      go_roundw
      case rel=>exact ⟨k + 1,hlt,by go_num,true,_,_,_,_,rfl,rfl,hW5.more hown6 hgrow6 rfl,Mn.out⟩
      case measure=>simp [intOf];omega
  · obtain rfl:k=N:=by omega
    have z1:decide ((k:Int) < (k:Int))=false:=by simp
    cases d with
    | true =>
     have hfin:Hid (out=ins key val rest):=by
      have:=hM.out
      unfold Mid at this
      rw [List.drop_of_length_le (by rw [hNl.out];exact Nat.le_refl _),List.append_nil] at this
      exact this
     have HF:Hid (PairsAt (ins key val rest) w (.returned (.slice a' m d')) wr):=by
      have hl:=hW.len
      subst hl
      rw [<- hfin.out]
      exact ⟨_,_,rfl,hW.up hb1⟩
     clear hM hfin own
     go_wp2_with fail
     go_ret
     exact HF.out
    | false =>
     have hfin:Hid (out ++ [(key,val)]=ins key val rest):=by
      have:=hM.out
      unfold Mid at this
      obtain ⟨h1,h2⟩:=this
      rw [List.drop_of_length_le (by rw [hNl.out];exact Nat.le_refl _),ins] at h2
      show _=_
      rw [h2,h1]
     clear hM
     go_wp2_with (at_builtin;refine wpList_append_lies _ rfl (.tmp 47) (.tmp 51) 35 rfl w1.heap.size 81 i0 (.agg #[.string ⟨#[]⟩,.string ⟨#[]⟩]) 2 32 Tryz.underlying35 hi0 hz0 hz1 hz2 rfl (by decide) (.slice a' m d') m (flatP out) rfl (own.alloc _) ⟨wr.heap.size,0,none⟩ 1 1 [.string key,.string val] rfl rfl (World.news_of_block (heap_alloc_new wr _)) (by simp [Value.oneCell']) (by decide) (by unfold maxLen;omega) (by omega) (by simp;omega) (wr.heap.size + 1) (by simp) ?_;intro g5 c5 w5 hown5 hgrow5 hat5 hlt5)
     go_ret
     have hW5:=hW.more (y:=(key,val)) hown5 hgrow5 rfl
     rw [hfin.out] at hW5
     have hl:=hW5.len
     exact ⟨some ⟨g5,0,none⟩,c5,by rw [hl];rfl,by rw [hl];exact hW5.up hb1⟩
theorem ownG_cells {w:World} {base g n t z:Nat} {v:Value} {xs:List Value} (h:w.ownsRow base t z v n xs) (hv:v.ownBlock=some g):base <= g /\ g < w.heap.size /\ ∃ cur,w.heap[g]?=some (.cells cur t (0,0)):=by
 rcases h.2 with ⟨rfl,_⟩ | ⟨g',cap,cur,rfl,hb,hg,_⟩
 · cases hv
 · obtain rfl:g'=g:=Option.some.inj hv
   exact ⟨hb,(Array.getElem?_eq_some_iff.1 hg).1,cur,hg⟩
theorem ownG_kept {w w':World} {base n t z:Nat} {v:Value} {xs:List Value} (h:w.ownsRow base t z v n xs) (hk:∀ g,v.ownBlock=some g -> g < w.heap.size -> w'.heap[g]?=w.heap[g]?):w'.ownsRow base t z v n xs:=by
 refine ⟨h.1,?_⟩
 rcases h.2 with ⟨h1,h2⟩ | ⟨g,cap,cur,hv,hb,hg,rest⟩
 · exact .inl ⟨h1,h2⟩
 · exact .inr ⟨g,cap,cur,hv,hb,(hk g (by rw [hv];rfl) (Array.getElem?_eq_some_iff.1 hg).1).trans hg,rest⟩
theorem ownG_mono {w:World} {base base' n t z:Nat} {v:Value} {xs:List Value} (h:w.ownsRow base t z v n xs) (hb:base' <= base):w.ownsRow base' t z v n xs:=by
 refine ⟨h.1,?_⟩
 rcases h.2 with ⟨h1,h2⟩ | ⟨g,cap,cur,hv,hg,rest⟩
 · exact .inl ⟨h1,h2⟩
 · exact .inr ⟨g,cap,cur,hv,Nat.le_trans hb hg,rest⟩
structure OwnT (w:World) (xs:List ByteArray) (a:Option Addr) (m c:Nat) (W:World):Prop where
 own:W.ownsRow w.heap.size 9 1 (.slice a m c) m (xs.map Value.string)
 bel:Below w.heap.size w W
 len:xs.length=m
theorem OwnT.below {w W W':World} {xs:List ByteArray} {a:Option Addr} {m c:Nat} (h:OwnT w xs a m c W) (hb:Below W.heap.size W W'):OwnT w xs a m c W' :=
 ⟨ownG_kept h.own (fun q _ hq=>hb.block q hq),h.bel.trans (hb.mono h.bel.size),h.len⟩
theorem OwnT.more {w W W':World} {xs:List ByteArray} {a:Option Addr} {m c m' g cap:Nat} {y:ByteArray} {o:Obj} (h:OwnT w xs a m c W) (hown:W'.ownsRow w.heap.size 9 1 (.slice (some ⟨g,0,none⟩) m' cap) m' (xs.map Value.string ++ [.string y])) (hgrow:(W.alloc o).grownBy W' (Value.slice a m c).ownBlock) (hm:m'=m + 1):OwnT w (xs ++ [y]) (some ⟨g,0,none⟩) m' cap W':=by
 have ha:=h.below ((Below.refl W.heap.size W).alloc (Nat.le_refl _) o)
 refine ⟨by rw [List.map_append];exact hown,ha.bel.grown hgrow ha.bel.size (fun q hq=>(ownG_cells ha.own hq).1),by rw [List.length_append,h.len,hm];rfl⟩
theorem OwnT.up {w w1 W:World} {xs:List ByteArray} {a:Option Addr} {m c:Nat} (h:OwnT w1 xs a m c W) (hb:Below w.heap.size w w1):OwnT w xs a m c W :=
 ⟨ownG_mono h.own hb.size,hb.trans (h.bel.mono hb.size),h.len⟩
theorem takeT (xs:List ByteArray) (i:Nat) (h:i < xs.length):xs.take (i + 1)=xs.take i ++ [xs.getD i ⟨#[]⟩]:=by
 rw [List.take_add_one,List.getElem?_eq_getElem h]
 simp [List.getD_eq_getElem?_getD,List.getElem?_eq_getElem h]
theorem copyPool_any (n:Int) (a:Option Addr) (xs:List ByteArray) (c:Nat) (w:World) (h:SArg a xs w) :
 Calls prog 80 #[.agg #[.int .i64 n,.slice a xs.length c]] w fun e w'=>∃ a' c',e=.returned (.agg #[.int .i64 n,.slice a' xs.length c']) /\ OwnT w xs a' xs.length c' w':=by
 obtain ⟨i0,hi0,hz0,hz1,hz2⟩:=info_parts2 info9
 have hn:=h.le
 obtain ⟨N,hN⟩:∃ N,xs.length=N:=⟨_,rfl⟩
 rw [hN] at hn ⊢
 have hNl:Hid (xs.length=N):=hN
 clear hN
 have hW:Below w.heap.size w (((w.alloc (.cells #[.int .i64 n,.slice a N c] 31)).alloc (.cells #[.int .i64 0,.slice none 0 0] 31)).alloc (.cells #[] 9)):=(((Below.refl _ _).alloc (Nat.le_refl _) _).alloc (by simp) _).alloc (by simp;omega) _
 have n2:=heap_alloc_new ((w.alloc (.cells #[.int .i64 n,.slice a N c] 31)).alloc (.cells #[.int .i64 0,.slice none 0 0] 31)) (.cells #[] 9)
 rw [World.size_alloc,World.size_alloc] at n2
 have n1:((w.alloc (.cells #[.int .i64 n,.slice a N c] 31)).alloc (.cells #[.int .i64 0,.slice none 0 0] 31)).heap[w.heap.size + 1]?=some (.cells #[.int .i64 0,.slice none 0 0] 31):=by
  have:=heap_alloc_new (w.alloc (.cells #[.int .i64 n,.slice a N c] 31)) (.cells #[.int .i64 0,.slice none 0 0] 31)
  rw [World.size_alloc] at this
  exact this
 have n0:((w.alloc (.cells #[.int .i64 n,.slice a N c] 31)).alloc (.cells #[.int .i64 0,.slice none 0 0] 31)).heap[w.heap.size]?=some (.cells #[.int .i64 n,.slice a N c] 31):=(Below.heap_alloc (w.alloc (.cells #[.int .i64 n,.slice a N c] 31)) (.cells #[.int .i64 0,.slice none 0 0] 31) w.heap.size (by simp)).trans (heap_alloc_new w _)
 have n1':=(Below.heap_alloc ((w.alloc (.cells #[.int .i64 n,.slice a N c] 31)).alloc (.cells #[.int .i64 0,.slice none 0 0] 31)) (.cells #[] 9) (w.heap.size + 1) (by simp)).trans n1
 have n0':=(Below.heap_alloc ((w.alloc (.cells #[.int .i64 n,.slice a N c] 31)).alloc (.cells #[.int .i64 0,.slice none 0 0] 31)) (.cells #[] 9) w.heap.size (by simp;omega)).trans n0
 have hzz:(((w.alloc (.cells #[.int .i64 n,.slice a N c] 31)).alloc (.cells #[.int .i64 0,.slice none 0 0] 31)).alloc (.cells #[] 9)).heap.size=w.heap.size + 3:=by simp
 have hO:OwnT w [] (some ⟨w.heap.size + 1 + 1,0,none⟩) 0 0 (((w.alloc (.cells #[.int .i64 n,.slice a N c] 31)).alloc (.cells #[.int .i64 0,.slice none 0 0] 31)).alloc (.cells #[] 9)):=⟨⟨rfl,.inr ⟨_,0,#[],rfl,by omega,n2,by simp⟩⟩,hW,rfl⟩
 clear n0 n1 n2
 go_enter func80,ntmps80
 go_wp2_with fail
 generalize ((w.alloc (.cells #[.int .i64 n,.slice a N c] 31)).alloc (.cells #[.int .i64 0,.slice none 0 0] 31)).alloc (.cells #[] 9)=W0 at hW n1' n0' hzz hO ⊢
 obtain ⟨gp,hgp⟩:∃ g,w.heap.size=g:=⟨_,rfl⟩
 rw [hgp] at n1' n0' hzz hO
 try rw [hgp]
 have hgl:w.heap.size <= gp:=Nat.le_of_eq hgp
 clear hgp hzz
 go_loopw [3,4] (fun t3 t4 wr=>∃ k:Nat,k <= N /\ t4=.int .i64 (k:Int) /\ ∃ (a':Option Addr) (m c':Nat),t3=.slice a' m c' /\ OwnT w (xs.take k) a' m c' wr /\ wr.heap[gp]?=some (.cells #[.int .i64 n,.slice a N c] 31) /\ wr.heap[gp + 1]?=some (.cells #[.int .i64 0,.slice none 0 0] 31)) (fun _ t4 _=>N - (intOf t4).toNat)
 case atStart=>exact ⟨0,Nat.zero_le _,rfl,_,_,_,rfl,hO,n0',n1'⟩
 case round =>
  obtain ⟨k,hk,rfl,a',m,c',rfl,hT,m0,m1⟩:=hrel
  have p0:=ZC m0 0
  have p1:=ZC m0 1
  have own:=hT.own
  have hbs:=hT.bel.size
  by_cases hlt:k < N
  · have z1:decide ((k:Int) < (N:Int))=true:=by simp;omega
    have hx0:(0:Int) <= (k:Int):=Int.natCast_nonneg _
    have hx1:(k:Int) < (N:Int):=by omega
    obtain ⟨b1,off1,rfl,hbl1,hc⟩:=(h.below hT.bel).at_ (by rw [hNl.out];omega)
    have hc1:=hc k (by rw [hNl.out];exact hlt)
    have htk:Hid (xs.take (k + 1)=xs.take k ++ [xs.getD k ⟨#[]⟩]):=takeT xs k (by rw [hNl.out];exact hlt)
    have hml:m <= 1048576:=by have:=hT.len;rw [List.length_take] at this;omega
    generalize xs.getD k ⟨#[]⟩=y at hc1 htk
    clear hc
    go_wp2_with (at_builtin;refine wpList_append_lies _ rfl (.tmp 13) (.tmp 19) 25 rfl w.heap.size 9 i0 (.string ⟨#[]⟩) 1 16 Tryz.underlying25 hi0 hz0 hz1 hz2 rfl (by decide) (.slice a' m c') m ((xs.take k).map Value.string) rfl (own.alloc _) ⟨wr.heap.size,0,none⟩ 1 1 [.string y] rfl rfl (World.news_of_block (heap_alloc_new wr _)) (by simp [Value.oneCell']) (by decide) (by unfold maxLen;omega) (by omega) (by simp;omega) (wr.heap.size + 1) (by simp) ?_;intro g5 c5 w5 hown5 hgrow5 hat5 hlt5)
    go_roundw
    case rel =>
     have hk29:∀ (q:Nat) (cs:Array Value),wr.heap[q]?=some (.cells cs 31) -> w5.heap[q]?=some (.cells cs 31):=fun q cs hq=>by
      have hql:=(Array.getElem?_eq_some_iff.1 hq).1
      have hqa:=(Below.heap_alloc wr (.cells #[.string y] 9) q hql).trans hq
      refine (hgrow5.block q (by simp;omega) (fun e=>?_)).trans hqa
      obtain ⟨_,_,cur,h4⟩:=ownG_cells (own.alloc (.cells #[.string y] 9)) e.symm
      exact ne_of_type hqa h4 (by decide) rfl
     exact ⟨k + 1,hlt,by go_num,_,_,_,rfl,by rw [htk.out];exact hT.more hown5 hgrow5 rfl,hk29 _ _ m0,hk29 _ _ m1⟩
    case measure=>simp [intOf];omega
  · obtain rfl:k=N:=by omega
    have z1:decide ((k:Int) < (k:Int))=false:=by simp
    rw [List.take_of_length_le (by rw [hNl.out];exact Nat.le_refl _)] at hT
    have hl:=hT.len
    rw [hNl.out] at hl
    subst hl
    have q0:=ZC m1 0
    have q1:=ZC m1 1
    have fz:∀ j,wr.frozen? ⟨gp + 1,j,none⟩=false:=fun j=>by rw [World.frozen?,m1];rfl
    have m2:=heap_setCell_same _ (gp + 1) 1 _ 31 (.slice a' k c') (heap_setCell_same _ (gp + 1) 0 _ 31 (.int .i64 n) m1)
    have hT2:OwnT w xs a' k c' ((wr.setCell ⟨gp + 1,0,none⟩ (.int .i64 n)).setCell ⟨gp + 1,1,none⟩ (.slice a' k c')):=by
     have hb2:=(hT.bel.setCell (p:=⟨gp + 1,0,none⟩) (by show w.heap.size <= gp + 1;omega) (.int .i64 n)).setCell (p:=⟨gp + 1,1,none⟩) (by show w.heap.size <= gp + 1;omega) (.slice a' k c')
     refine ⟨ownG_kept hT.own (fun q hv hq=>?_),hb2,hT.len⟩
     obtain ⟨_,_,cur,h4⟩:=ownG_cells hT.own hv
     have hne:q ≠ gp + 1:=ne_of_type h4 m1 (by decide)
     rw [Below.heap_setCell _ _ _ _ (by show q ≠ gp + 1;exact hne),Below.heap_setCell _ _ _ _ (by show q ≠ gp + 1;exact hne)]
    clear hT own
    go_wp2_with fail
    exact retP Tryz.results80 rfl rfl m2 ⟨a',c',rfl,hT2⟩
abbrev svV (cd n:Int) (a:Option Addr) (m c:Nat) (root x y:ByteArray):Value:=.agg #[.int .i64 cd,.int .i64 n,.slice a m c,.string root,.string x,.string y]
def SVb (gs so sa:Nat) (cd:Int) (x y:ByteArray) (w:World):Prop:=w.heap[gs]?=some (.cells #[.pointer (some ⟨so,0,none⟩),.pointer (some ⟨sa,0,none⟩),.int .i64 cd,.string x,.string y] 188)
theorem SVb.below {gs so sa:Nat} {cd:Int} {x y:ByteArray} {w w':World} (h:SVb gs so sa cd x y w) (hb:Below w.heap.size w w'):SVb gs so sa cd x y w':=(hb.block gs (Array.getElem?_eq_some_iff.1 h).1).trans h
def fst2 (wd:Nat) (ss ad:List ByteArray) (hash:ByteArray):Option ByteArray:=(firstI (hitB wd (ss ++ ad) hash) (ss.length + ad.length)).map fun i=>(ss ++ ad).getD i ⟨#[]⟩
theorem fst2_old {wd:Nat} {ss ad:List ByteArray} {hash:ByteArray} {i:Nat} (h:firstI (hitB wd ss hash) ss.length=some i):fst2 wd ss ad hash=some (ss.getD i ⟨#[]⟩):=by
 unfold fst2
 rw [firstI_two,h]
 simp only [Option.map_some,List.getD_eq_getElem?_getD,List.getElem?_append_left (firstI_lt h)]
theorem fst2_new {wd:Nat} {ss ad:List ByteArray} {hash:ByteArray} (h:firstI (hitB wd ss hash) ss.length=none):fst2 wd ss ad hash=(firstI (hitB wd ad hash) ad.length).map fun i=>ad.getD i ⟨#[]⟩:=by
 unfold fst2
 rw [firstI_two,h]
 cases firstI (hitB wd ad hash) ad.length with
 | none=>rfl
 | some i=>simp only [Option.map_some,List.getD_eq_getElem?_getD,List.getElem?_append_right (Nat.le_add_right ..),Nat.add_sub_cancel_left]
def encO:Option ByteArray -> ByteArray
 | some e=>e
 | none=>⟨#[]⟩
theorem savFirst_any (gs so sa:Nat) (cd:Int) (x y:ByteArray) (wd:Nat) (ss ad:List ByteArray) (hash:ByteArray) (w:World) (hg:SVb gs so sa cd x y w)
 (H1:Hid (∀ w',Below w.heap.size w w' -> ∀ fx,firstI (hitB wd ss hash) ss.length=fx -> Calls prog 192 #[.pointer (some ⟨so,0,none⟩),.string hash] w' fun e w''=>e=.returned (.tuple #[.string (encAt ss fx),.bool fx.isSome]) /\ Below w'.heap.size w' w''))
 (H2:Hid (∀ w',Below w.heap.size w w' -> ∀ fx,firstI (hitB wd ad hash) ad.length=fx -> Calls prog 192 #[.pointer (some ⟨sa,0,none⟩),.string hash] w' fun e w''=>e=.returned (.tuple #[.string (encAt ad fx),.bool fx.isSome]) /\ Below w'.heap.size w' w'')) :
 Calls prog 180 #[.pointer (some ⟨gs,0,none⟩),.string hash] w fun e w'=>e=.returned (.tuple #[.string (encO (fst2 wd ss ad hash)),.bool (fst2 wd ss ad hash).isSome]) /\ Below w.heap.size w w':=by
 have c0:=ZC hg 0
 cases hf:firstI (hitB wd ss hash) ss.length with
 | some i =>
  rw [fst2_old hf]
  have HA:=H1.out w (Below.refl _ _) _ hf
  have e1:encAt ss (some i)=ss.getD i ⟨#[]⟩:=rfl
  have e2:encO (some (ss.getD i ⟨#[]⟩))=ss.getD i ⟨#[]⟩:=rfl
  rw [e1] at HA
  rw [e2]
  have hs1:(some i).isSome=true:=rfl
  have hs2:(some (ss.getD i ⟨#[]⟩)).isSome=true:=rfl
  rw [hs1] at HA
  rw [hs2]
  generalize ss.getD i ⟨#[]⟩=u at HA ⊢
  clear H1 H2 hf e1 e2 hs1 hs2
  go_enter func180,ntmps180
  go_wp2_with fail
  refine HA.mono ?_
  rintro e w1 ⟨rfl,hb1⟩
  go_wp2_with fail
  go_ret2
  exact ⟨rfl,hb1⟩
 | none =>
  rw [fst2_new hf]
  have HA:=H1.out w (Below.refl _ _) _ hf
  obtain ⟨fx,hfx⟩:∃ fx,firstI (hitB wd ad hash) ad.length=fx:=⟨_,rfl⟩
  rw [hfx]
  have HB:Hid (∀ w',Below w.heap.size w w' -> Calls prog 192 #[.pointer (some ⟨sa,0,none⟩),.string hash] w' fun e w''=>e=.returned (.tuple #[.string (encAt ad fx),.bool fx.isSome]) /\ Below w'.heap.size w' w''):=fun w' hb=>H2.out w' hb fx hfx
  have he:Hid (encO (fx.map fun i=>ad.getD i ⟨#[]⟩)=encAt ad fx /\ (fx.map fun i=>ad.getD i ⟨#[]⟩).isSome=fx.isSome):=by cases fx <;> exact ⟨rfl,rfl⟩
  rw [he.out.1,he.out.2]
  have e0:encAt ss none=⟨#[]⟩:=rfl
  have e1:(none:Option Nat).isSome=false:=rfl
  rw [e0,e1] at HA
  generalize encAt ad fx=u at HB ⊢
  generalize fx.isSome=v at HB ⊢
  clear H1 H2 hf he hfx e0 e1
  go_enter func180,ntmps180
  go_wp2_with fail
  refine HA.mono ?_
  rintro e w1 ⟨rfl,hb1⟩
  have c1:=ZC (hg.below hb1) 1
  go_wp2_with fail
  refine (HB.out _ hb1).mono ?_
  rintro e w2 ⟨rfl,hb2⟩
  go_wp2_with fail
  go_ret2
  exact ⟨rfl,hb1.trans (hb2.mono hb1.size)⟩
theorem savTake_same (gs tb:Nat) (enc hash:ByteArray) (w:World) (ht:tb < w.heap.size) (c37:w.cell? ⟨tb,37,none⟩=some (.string enc)) (c38:w.cell? ⟨tb,38,none⟩=some (.string hash))
 (HF:Hid (∀ w',Below w.heap.size w w' -> Calls prog 180 #[.pointer (some ⟨gs,0,none⟩),.string hash] w' fun e w''=>e=.returned (.tuple #[.string enc,.bool true]) /\ Below w'.heap.size w' w'')) :
 Calls prog 162 #[.pointer (some ⟨gs,0,none⟩),.pointer (some ⟨tb,0,none⟩)] w fun e w'=>e=.returned (.bool true) /\ Below w.heap.size w w':=by
 have z1:(enc.toList == enc.toList)=true:=by simp
 go_enter func162,ntmps162
 go_wp2_with fail
 refine (HF.out _ (Below.refl _ _)).mono ?_
 rintro e w1 ⟨rfl,hb1⟩
 have d37:=(hb1.cell (p:=⟨tb,37,none⟩) ht).trans c37
 go_wp2_with fail
 go_ret
 exact ⟨rfl,hb1⟩
theorem savTake_clash (gs so sa tb:Nat) (x y enc hash u:ByteArray) (w:World) (hg:SVb gs so sa 0 x y w) (ht:tb < w.heap.size) (c37:w.cell? ⟨tb,37,none⟩=some (.string enc)) (c38:w.cell? ⟨tb,38,none⟩=some (.string hash)) (hne:u ≠ enc) (hts:tb ≠ gs) (T1 T2:ByteArray)
 (HT1:Hid (∀ w',Calls prog 104 #[.string u] w' fun e w''=>e=.returned (.string T1) /\ Below w'.heap.size w' w''))
 (HT2:Hid (∀ w',Calls prog 104 #[.string enc] w' fun e w''=>e=.returned (.string T2) /\ Below w'.heap.size w' w''))
 (HF:Hid (∀ w',Below w.heap.size w w' -> Calls prog 180 #[.pointer (some ⟨gs,0,none⟩),.string hash] w' fun e w''=>e=.returned (.tuple #[.string u,.bool true]) /\ Below w'.heap.size w' w'')) :
 Calls prog 162 #[.pointer (some ⟨gs,0,none⟩),.pointer (some ⟨tb,0,none⟩)] w fun e w'=>e=.returned (.bool false) /\ SVb gs so sa 4 T1 T2 w' /\ Fr w.heap.size (fun q=>q=gs) w w':=by
 have z1:(u.toList == enc.toList)=false:=by rw [ba_eq,decide_eq_false hne]
 go_enter func162,ntmps162
 go_wp2_with fail
 refine (HF.out _ (Below.refl _ _)).mono ?_
 rintro e w1 ⟨rfl,hb1⟩
 have d37:=(hb1.cell (p:=⟨tb,37,none⟩) ht).trans c37
 have g1:=hg.below hb1
 have HS:Hid (∀ W',Below w1.heap.size w1 W' -> W'.cell? ⟨tb,37,none⟩=some (.string enc)):=fun W' hW'=>(hW'.cell (p:=⟨tb,37,none⟩) (Nat.lt_of_lt_of_le ht hb1.size)).trans d37
 have HK:Hid (∀ (W':World) (o:Nat) (v:Value),tb < W'.heap.size -> W'.cell? ⟨tb,37,none⟩=some (.string enc) -> (W'.setCell ⟨gs,o,none⟩ v).cell? ⟨tb,37,none⟩=some (.string enc)):=fun W' o v hl hc=>((grownBy_setCell W' gs o v).cell_far ⟨tb,37,none⟩ hl (by intro e;exact hts (Option.some.inj e))).trans hc
 have HG:Hid (∀ W',Below w1.heap.size w1 W' -> tb < W'.heap.size /\ W'.cell? ⟨gs,2,none⟩=some (.int .i64 0) /\ W'.cell? ⟨gs,3,none⟩=some (.string x) /\ W'.cell? ⟨gs,4,none⟩=some (.string y) /\ (∀ j,W'.frozen? ⟨gs,j,none⟩=false) /\ SVb gs so sa 0 x y W'):=fun W' hW'=>by
  have g2:=g1.below hW'
  exact ⟨Nat.lt_of_lt_of_le ht (Nat.le_trans hb1.size hW'.size),ZC g2 2,ZC g2 3,ZC g2 4,fun j=>by rw [World.frozen?,show W'.heap[gs]?=_ from g2];rfl,g2⟩
 have hd1:Below w1.heap.size w1 w1.drew:=(Below.refl _ _).drew
 go_upto_region 6 with fail
 go_region_held3 (fun W=>W.cell? ⟨tb,37,none⟩=some (.string enc)) (first | exact d37 | exact HS.out _ hb2' | exact HS.out _ hb3' | exact HK.out _ _ _ hl3 (HS.out _ hb3') | exact HK.out _ _ _ (by simpa using hl3) (HK.out _ _ _ hl3 (HS.out _ hb3')) | exact HK.out _ _ _ (by simpa using hl3) (HK.out _ _ _ (by simpa using hl3) (HK.out _ _ _ hl3 (HS.out _ hb3')))) (first | (go_at_call_of 104 (Value.string u);refine (HT1.out _).mono ?_;rintro e w2 ⟨rfl,hb2⟩;have hb2':=hd1.trans hb2) | (go_at_call_of 104 (Value.string enc);refine (HT2.out _).mono ?_;rintro e w3 ⟨rfl,hb3⟩;have hb3':=hb2'.trans (hb3.mono hb2'.size);obtain ⟨hl3,k2,k3,k4,kf,g3⟩:=HG.out _ hb3'))
 have g4:SVb gs so sa 4 T1 T2 (((w3.setCell ⟨gs,2,none⟩ (.int .i64 4)).setCell ⟨gs,3,none⟩ (.string T1)).setCell ⟨gs,4,none⟩ (.string T2)):=heap_setCell_same _ gs 4 _ 188 (.string T2) (heap_setCell_same _ gs 3 _ 188 (.string T1) (heap_setCell_same _ gs 2 _ 188 (.int .i64 4) g3))
 have f4:Fr w.heap.size (fun q=>q=gs) w (((w3.setCell ⟨gs,2,none⟩ (.int .i64 4)).setCell ⟨gs,3,none⟩ (.string T1)).setCell ⟨gs,4,none⟩ (.string T2)):=(((Fr.of_below (hb1.trans (hb3'.mono hb1.size))).step (Fr.set1 _ 2 _)).step (Fr.set1 _ 3 _)).step (Fr.set1 _ 4 _)
 generalize ((w3.setCell ⟨gs,2,none⟩ (.int .i64 4)).setCell ⟨gs,3,none⟩ (.string T1)).setCell ⟨gs,4,none⟩ (.string T2)=W4 at g4 f4 ⊢
 have r2:=ZC g4 2
 go_wp2_with fail
 go_ret
 exact ⟨rfl,g4,f4⟩
theorem savTake_full (gs so sa tb:Nat) (x y enc hash:ByteArray) (a1 a2:Option Addr) (n1 n2 c1 c2:Nat) (v1 v2 v3 v4:Value) (w:World) (hg:SVb gs so sa 0 x y w) (ht:tb < w.heap.size) (c37:w.cell? ⟨tb,37,none⟩=some (.string enc)) (c38:w.cell? ⟨tb,38,none⟩=some (.string hash))
 (ho:w.heap[so]?=some (.cells #[.slice a1 n1 c1,v1,v2] 194)) (ha:w.heap[sa]?=some (.cells #[.slice a2 n2 c2,v3,v4] 194)) (hn1:n1 <= 1048576) (hn2:n2 <= 1048576) (hfull:20000 <= n1 + n2)
 (HF:Hid (∀ w',Below w.heap.size w w' -> Calls prog 180 #[.pointer (some ⟨gs,0,none⟩),.string hash] w' fun e w''=>e=.returned (.tuple #[.string ⟨#[]⟩,.bool false]) /\ Below w'.heap.size w' w'')) :
 Calls prog 162 #[.pointer (some ⟨gs,0,none⟩),.pointer (some ⟨tb,0,none⟩)] w fun e w'=>e=.returned (.bool false) /\ SVb gs so sa 1 x y w' /\ Fr w.heap.size (fun q=>q=gs) w w':=by
 have z1:decide ((20000:Int) <= (n1:Int) + (n2:Int))=true:=by rw [decide_eq_true_eq];omega
 have z2:((n1:Int) + (n2:Int) ≥ 20000):=by omega
 go_enter func162,ntmps162
 go_wp2_with fail
 refine (HF.out _ (Below.refl _ _)).mono ?_
 rintro e w1 ⟨rfl,hb1⟩
 have d37:=(hb1.cell (p:=⟨tb,37,none⟩) ht).trans c37
 have g1:=hg.below hb1
 have o1:=(hb1.block so (Array.getElem?_eq_some_iff.1 ho).1).trans ho
 have a1':=(hb1.block sa (Array.getElem?_eq_some_iff.1 ha).1).trans ha
 have q0:=ZC g1 0
 have q1:=ZC g1 1
 have q2:=ZC g1 2
 have qo:=ZC o1 0
 have qa:=ZC a1' 0
 have fz:∀ j,w1.frozen? ⟨gs,j,none⟩=false:=fun j=>by rw [World.frozen?,show w1.heap[gs]?=_ from g1];rfl
 have hwr:IntKind.i64.wrap ((n1:Int) + (n2:Int))=(n1:Int) + (n2:Int):=wrapI_in _ (by omega)
 go_upto_region 7 with fail
 go_region_held3 (fun W=>W.cell? ⟨gs,0,none⟩=some (.pointer (some ⟨so,0,none⟩)) /\ W.cell? ⟨gs,1,none⟩=some (.pointer (some ⟨sa,0,none⟩)) /\ W.cell? ⟨so,0,none⟩=some (.slice a1 n1 c1) /\ W.cell? ⟨sa,0,none⟩=some (.slice a2 n2 c2)) (exact ⟨q0,q1,qo,qa⟩) (fail)
 go_wp2_with fail
 go_ret
 exact ⟨rfl,heap_setCell_same _ gs 2 _ 188 (.int .i64 1) g1,(Fr.of_below hb1.drew).step (Fr.set1 _ 2 _)⟩
theorem savTake_add (gs so sa tb:Nat) (x y enc hash:ByteArray) (a1 a2:Option Addr) (n1 n2 c1 c2:Nat) (v1 v2 v3 v4:Value) (w:World) (hg:SVb gs so sa 0 x y w) (ht:tb < w.heap.size) (c37:w.cell? ⟨tb,37,none⟩=some (.string enc)) (c38:w.cell? ⟨tb,38,none⟩=some (.string hash))
 (ho:w.heap[so]?=some (.cells #[.slice a1 n1 c1,v1,v2] 194)) (ha:w.heap[sa]?=some (.cells #[.slice a2 n2 c2,v3,v4] 194)) (hn1:n1 <= 1048576) (hn2:n2 <= 1048576) (hroom:n1 + n2 < 20000) (R:World -> Prop)
 (HF:Hid (∀ w',Below w.heap.size w w' -> Calls prog 180 #[.pointer (some ⟨gs,0,none⟩),.string hash] w' fun e w''=>e=.returned (.tuple #[.string ⟨#[]⟩,.bool false]) /\ Below w'.heap.size w' w''))
 (HA:Hid (∀ w',Below w.heap.size w w' -> Calls prog 116 #[.pointer (some ⟨sa,0,none⟩),.string enc] w' fun e w''=>e=.returned (.tuple #[]) /\ SVb gs so sa 0 x y w'' /\ w''.cell? ⟨tb,37,none⟩=some (.string enc) /\ R w'')) :
 Calls prog 162 #[.pointer (some ⟨gs,0,none⟩),.pointer (some ⟨tb,0,none⟩)] w fun e w'=>e=.returned (.bool true) /\ SVb gs so sa 0 x y w' /\ R w':=by
 have z1:decide ((20000:Int) <= (n1:Int) + (n2:Int))=false:=by rw [decide_eq_false_iff_not];omega
 have z2:¬ ((n1:Int) + (n2:Int) ≥ 20000):=by omega
 go_enter func162,ntmps162
 go_wp2_with fail
 refine (HF.out _ (Below.refl _ _)).mono ?_
 rintro e w1 ⟨rfl,hb1⟩
 have d37:=(hb1.cell (p:=⟨tb,37,none⟩) ht).trans c37
 have g1:=hg.below hb1
 have o1:=(hb1.block so (Array.getElem?_eq_some_iff.1 ho).1).trans ho
 have a1':=(hb1.block sa (Array.getElem?_eq_some_iff.1 ha).1).trans ha
 have q0:=ZC g1 0
 have q1:=ZC g1 1
 have q2:=ZC g1 2
 have qo:=ZC o1 0
 have qa:=ZC a1' 0
 have fz:∀ j,w1.frozen? ⟨gs,j,none⟩=false:=fun j=>by rw [World.frozen?,show w1.heap[gs]?=_ from g1];rfl
 have hwr:IntKind.i64.wrap ((n1:Int) + (n2:Int))=(n1:Int) + (n2:Int):=wrapI_in _ (by omega)
 go_upto_region 7 with fail
 go_region_held3 (fun W=>W.cell? ⟨gs,0,none⟩=some (.pointer (some ⟨so,0,none⟩)) /\ W.cell? ⟨gs,1,none⟩=some (.pointer (some ⟨sa,0,none⟩)) /\ W.cell? ⟨so,0,none⟩=some (.slice a1 n1 c1) /\ W.cell? ⟨sa,0,none⟩=some (.slice a2 n2 c2)) (exact ⟨q0,q1,qo,qa⟩) (fail)
 have hb1d:Below w.heap.size w w1.drew:=hb1.drew
 have hb1dd:Below w.heap.size w w1.drew.drew:=hb1.drew.drew
 go_upto_region 2 with fail
 go_region_held3 (fun W=>W.cell? ⟨gs,1,none⟩=some (.pointer (some ⟨sa,0,none⟩)) /\ W.cell? ⟨tb,37,none⟩=some (.string enc)) (first | exact ⟨q1,d37⟩ | exact ⟨ZC g2 1,hc2⟩) (first | (go_at_call 116;refine (HA.out _ hb1dd).mono ?_;rintro e w2 ⟨rfl,g2,hc2,hR2⟩))
 have r2:=ZC g2 2
 clear q0 q1 q2 qo qa fz
 go_wp2_with fail
 go_ret
 exact ⟨rfl,g2,hR2⟩
end Go.Proofs.YtibjhkpgaaapaaaGreatDoor
