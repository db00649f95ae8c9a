import Derived.Test.YtibjhkpgaaapaaaGreatDoorZhbg
import Derived.Test.YtibjhkpgaaapaaaGreatDoorZhau
import Derived.Test.YtibjhkpgaaapaaaGreatDoorZhax
import Derived.Test.YtibjhkpgaaapaaaGreatDoorZhat
import Derived.Test.YtibjhkpgaaapaaaGreatDoorZhbc
import Derived.Test.YtibjhkpgaaapaaaGreatDoorZhaz
import Derived.Test.YtibjhkpgaaapaaaGreatDoorZhac
import Derived.Test.YtibjhkpgaaapaaaGreatDoorZhap
set_option maxRecDepth 100000
set_option maxHeartbeats 1000000
namespace Go.Proofs.YtibjhkpgaaapaaaGreatDoor
open Go.RowKit Go.Proofs.Sha Tryz
theorem ssave_any (HD:Hid DigSaid) (n:Int) (a:Option Addr) (ss:List ByteArray) (c:Nat) (a2:Option Addr) (ps:List PairT) (c2:Nat) (w:World) (h:SArg a ss w) (hq:Hid (∀ j,(ss.getD j ⟨#[]⟩).size <= 1048575)) (h2:PArg a2 ps w) (hc2:ps.length <= c2) :
 Calls prog 33 #[.agg #[.int .i64 n,.slice a ss.length c],.slice a2 ps.length c2] w (SavedIs (saveO n ss ps) w):=by
 by_cases hpm:(poolOk n ss.length && isMapT ps)=true
 · have hp2:=(Bool.and_eq_true _ _).mp hpm
   have hp':1 <= n /\ n <= 32 /\ ss.length <= 20000:=of_decide_eq_true hp2.1
   obtain ⟨wd,rfl⟩:∃ wd:Nat,n=(wd:Int):=⟨n.toNat,by omega⟩
   have ho:saveO (wd:Int) ss ps=savO wd ss (cutTree ps):=by unfold saveO;rw [if_pos hpm];rfl
   rw [ho]
   exact ssave_yes HD wd a ss c a2 ps c2 w h hq h2 hc2 (by omega) (by omega) hp'.2.2 hp2.2
 have ho:saveO n ss ps=codeO 1:=by unfold saveO;rw [if_neg hpm]
 rw [ho]
 have HV:Hid (∀ w',Calls prog 79 #[.agg #[.int .i64 n,.slice a ss.length c]] w' fun e w''=>e=.returned (.bool (poolOk n ss.length)) /\ Below w'.heap.size w' w''):=fun w'=>poolOk_any n a ss.length c w' h.le
 have HM:Hid (∀ w',Below w.heap.size w w' -> Calls prog 68 #[.slice a2 ps.length c2] w' fun e w''=>e=.returned (.bool (isMapT ps)) /\ Below w'.heap.size w' w''):=fun w' hb=>mapOk_any a2 ps c2 w' (h2.below hb)
 have hbA:Below w.heap.size w ((w.alloc (.cells #[.int .i64 n,.slice a ss.length c] 31)).alloc (.cells #[.int .i64 0,.int .i64 0,.slice none 0 0,.string ⟨#[]⟩,.string ⟨#[]⟩,.string ⟨#[]⟩] 56)):=((Below.refl _ _).alloc (Nat.le_refl _) _).alloc (by simp) _
 have nB:=heap_alloc_new (w.alloc (.cells #[.int .i64 n,.slice a ss.length c] 31)) (.cells #[.int .i64 0,.int .i64 0,.slice none 0 0,.string ⟨#[]⟩,.string ⟨#[]⟩,.string ⟨#[]⟩] 56)
 have nA:=(Below.heap_alloc (w.alloc (.cells #[.int .i64 n,.slice a ss.length c] 31)) (.cells #[.int .i64 0,.int .i64 0,.slice none 0 0,.string ⟨#[]⟩,.string ⟨#[]⟩,.string ⟨#[]⟩] 56) w.heap.size (by simp)).trans (heap_alloc_new w _)
 rw [World.size_alloc] at nB
 obtain ⟨gp,hgp⟩:∃ g,w.heap.size=g:=⟨_,rfl⟩
 have hge':w.heap.size <= gp + 1:=by omega
 clear h h2 ho
 go_enter func33,ntmps33
 go_upto_region 1 with fail
 generalize (w.alloc (.cells #[.int .i64 n,.slice a ss.length c] 31)).alloc (.cells #[.int .i64 0,.int .i64 0,.slice none 0 0,.string ⟨#[]⟩,.string ⟨#[]⟩,.string ⟨#[]⟩] 56)=wA at hbA nA nB ⊢
 try rw [hgp]
 rw [hgp] at nA nB
 have p0:=ZC nA 0
 have p1:=ZC nA 1
 have HB:Hid (∀ W,Below wA.heap.size wA W -> Below w.heap.size w W /\ SB (gp + 1) 0 0 none 0 0 ⟨#[]⟩ ⟨#[]⟩ ⟨#[]⟩ W):=fun W hW=>⟨hbA.trans (hW.mono hbA.size),pblk_below hW nB⟩
 cases hp:poolOk n ss.length with
 | false =>
  rw [hp] at HV
  go_wp2_with (first | (go_at_call 79;refine (HV.out _).mono ?_;rintro e w1 ⟨rfl,hb1⟩;obtain ⟨hbw,hB1⟩:=HB.out _ hb1;obtain ⟨d0,d1,d2,d3,d4,d5,df⟩:=hB1.at))
  exact retS Tryz.results33 rfl rfl (hB1.all 1 0 none 0 0 ⟨#[]⟩ ⟨#[]⟩ ⟨#[]⟩) (SavedIs.code hbw hB1 hge')
 | true =>
  have hm:isMapT ps=false:=by
   cases hm:isMapT ps with
   | false=>rfl
   | true=>exact absurd (by rw [hp,hm];rfl) hpm
  rw [hp] at HV
  rw [hm] at HM
  go_wp2_with (first | (go_at_call 79;refine (HV.out _).mono ?_;rintro e w1 ⟨rfl,hb1⟩) | (go_at_call 68;refine (HM.out _ (hbA.trans (hb1.mono hbA.size))).mono ?_;rintro e w2 ⟨rfl,hb2⟩;obtain ⟨hbw,hB1⟩:=HB.out _ (hb1.trans (hb2.mono hb1.size));obtain ⟨d0,d1,d2,d3,d4,d5,df⟩:=hB1.at))
  exact retS Tryz.results33 rfl rfl (hB1.all 1 0 none 0 0 ⟨#[]⟩ ⟨#[]⟩ ⟨#[]⟩) (SavedIs.code hbw hB1 hge')
theorem sload_any (X:List PairT × Int) (v:Value) (root:ByteArray) (w:World) (hv:∃ n a m c,v=.agg #[.int .i64 n,.slice a m c]) (HP:∀ w',Below w.heap.size w w' -> Calls prog 48 #[v,.string root,.string ⟨#[]⟩,.string ⟨#[]⟩] w' (RangeAt X w')) :
 Calls prog 25 #[v,.string root] w (RangeAt X w):=by
 obtain ⟨n,a,m,c,rfl⟩:=hv
 have hA:Below w.heap.size w (w.alloc (.cells #[.int .i64 n,.slice a m c] 31)):=(Below.refl _ _).alloc (Nat.le_refl _) _
 have HP':=HP _ hA
 have HQ:Hid (∀ e w2,RangeAt X (w.alloc (.cells #[.int .i64 n,.slice a m c] 31)) e w2 -> ∃ a' c',e=.returned (.tuple #[.slice a' X.1.length c',.int .i64 X.2]) /\ RangeAt X w e w2):=fun e w2 hR=>by
  obtain ⟨⟨a',c',he,ho⟩,hb2⟩:=hR
  exact ⟨a',c',he,⟨⟨a',c',he,own2_mono ho hA.size⟩,hA.trans (hb2.mono hA.size)⟩⟩
 clear HP
 go_enter func25,ntmps25
 go_wp2_with (first | (go_at_call 48;refine HP'.mono ?_;intro e w3 hR3;obtain ⟨a3,c3,rfl,hR3⟩:=HQ.out _ _ hR3))
 go_ret2
 exact hR3
theorem wout_mem {ps:List PairT} {k:ByteArray} {p:PairT} (h:p ∈ wout ps k):p ∈ ps:=(List.mem_filter.1 h).1
theorem ins_mem {k v:ByteArray}:∀ {ps:List PairT} {p:PairT},p ∈ ins k v ps -> p=(k,v) \/ p ∈ ps
 | [],p,h=>.inl (List.mem_singleton.1 h)
 | q :: qs,p,h=>by
  rw [ins] at h
  split at h
  · exact List.mem_cons.1 h
  · rcases List.mem_cons.1 h with h | h
    · exact .inr (by rw [h];exact List.mem_cons_self ..)
    · rcases ins_mem h with h | h
      · exact .inl h
      · exact .inr (List.mem_cons_of_mem _ h)
theorem ins_len (k v:ByteArray):∀ (ps:List PairT),(ins k v ps).length=ps.length + 1
 | []=>rfl
 | q :: qs=>by
  rw [ins]
  split
  · rfl
  · rw [List.length_cons,ins_len k v qs];rfl
theorem wth_mem {ps:List PairT} {k v:ByteArray} {p:PairT} (h:p ∈ wth ps k v):p=(k,v) \/ p ∈ ps:=by
 rcases ins_mem h with h | h
 · exact .inl h
 · exact .inr (wout_mem h)
theorem wthLen (ps:List PairT) (k v:ByteArray):(wth ps k v).length <= ps.length + 1:=by
 unfold wth
 rw [ins_len]
 have:=wout_le ps k
 omega
theorem smallP_of {ps:List PairT} (h:ps.length <= 1048576) (hs:∀ p ∈ ps,p.1.size <= 1048576 /\ p.2.size <= 1048576):SmallP ps:=by
 refine ⟨h,fun j=>?_⟩
 by_cases hj:j < ps.length
 · rw [getD_lt ps j hj]
   exact hs _ (List.getElem_mem _)
 · rw [pget_out ps j (by omega)]
   exact noP_small
theorem bl_nil {k:ByteArray} (h:1 <= k.size):Op.bytesLess (⟨#[]⟩:ByteArray).toList k.toList=true:=by
 rw [ByteArray.toList_eq,ByteArray.toList_eq]
 have:1 <= k.data.toList.length:=h
 cases hk:k.data.toList with
 | nil=>rw [hk] at this;cases this
 | cons x xs=>simp [Op.bytesLess]
theorem ku_at {ps:List PairT} (h:KeysUp (keys ps)):∀ i j,i < j -> j < ps.length -> lessB (ps.getD i noPair).1 (ps.getD j noPair).1=true:=by
 induction ps with
 | nil=>intro i j _ hj;cases hj
 | cons x xs ih =>
  intro i j hij hj
  obtain ⟨h1,h2⟩:=h
  cases j with
  | zero=>omega
  | succ j =>
   have hj':j < xs.length:=by simpa using hj
   have e:(x :: xs).getD (j + 1) noPair=xs.getD j noPair:=by simp [List.getD_eq_getElem?_getD]
   rw [e]
   cases i with
   | zero =>
    have e0:(x :: xs).getD 0 noPair=x:=by simp [List.getD_eq_getElem?_getD]
    rw [e0]
    exact h1 _ (by rw [getD_lt xs j hj'];exact mem_keys (List.getElem_mem _))
   | succ i =>
    have e0:(x :: xs).getD (i + 1) noPair=xs.getD i noPair:=by simp [List.getD_eq_getElem?_getD]
    rw [e0]
    exact ih h2 i j (by omega) hj'
theorem isMapT_of {ps:List PairT} (h:KeysUp (keys ps)) (hok:∀ p ∈ ps,okKey p.1=true /\ okVal p.2=true) (hl:ps.length <= 500):isMapT ps=true:=by
 unfold isMapT
 rw [decide_eq_true hl,Bool.true_and]
 have key:∀ k,k <= ps.length -> mapTo ps k=true:=by
  intro k
  induction k with
  | zero=>intro _;rfl
  | succ k ih =>
   intro hk
   rw [mapTo,ih (by omega),Bool.true_and]
   have hm:ps.getD k noPair ∈ ps:=by rw [getD_lt ps k (by omega)];exact List.getElem_mem _
   obtain ⟨o1,o2⟩:=hok _ hm
   unfold goodAt
   rw [o1,o2,Bool.true_and,Bool.true_and]
   cases k with
   | zero =>
    unfold okKey at o1
    exact bl_nil (of_decide_eq_true o1).1
   | succ k=>exact ku_at h k (k + 1) (by omega) (by omega)
 exact key _ (Nat.le_refl _)
theorem own2_le {w:World} {base n m c:Nat} {a:Option Addr} {xs:List Value} (h:w.ownsRow base 81 2 (.slice a m c) n xs):m <= c:=by
 rcases h.2 with ⟨e,h0⟩ | ⟨g,cap,cur,e,hb,hg,q1,q2,q3,q4⟩
 · simp only [Value.slice.injEq] at e;omega
 · simp only [Value.slice.injEq] at e
   omega
theorem sld_any (HD:Hid DigSaid) (D:Dec) (n:Int) (HD2:Hid (∀ wd:Nat,(wd:Int)=n -> 1 <= wd -> wd <= 32 -> DecSaid 146 wd D)) (hdo:∀ wd:Nat,(wd:Int)=n -> DecOk wd D) (a:Option Addr) (ss:List ByteArray) (c:Nat) (root:ByteArray) (w:World) (h:SArg a ss w) (hs:Hid (∀ j,(ss.getD j ⟨#[]⟩).size <= 1048575)) (hr:root.size <= 1048576) :
 Calls prog 25 #[.agg #[.int .i64 n,.slice a ss.length c],.string root] w (RangeAt (rangeM (fndD D n.toNat ss) n ss.length root ⟨#[]⟩ ⟨#[]⟩) w):=by
 refine sload_any _ _ root w ⟨_,_,_,_,rfl⟩ fun w' hb=>?_
 have hS:=h.below hb
 cases hp:(poolOk n ss.length && hashOk root.size n) with
 | false=>rw [rangeM_bad hp];exact srange_bad n _ ss.length c root ⟨#[]⟩ ⟨#[]⟩ w' hS.le hr hp
 | true =>
  have hp2:=(Bool.and_eq_true _ _).mp hp
  have hp':1 <= n /\ n <= 32 /\ ss.length <= 20000:=of_decide_eq_true hp2.1
  obtain ⟨wd,rfl⟩:∃ wd:Nat,n=(wd:Int):=⟨n.toNat,by omega⟩
  rw [Int.toNat_natCast]
  exact srange_good HD D wd (HD2.out wd rfl (by omega) (by omega)) (hdo wd rfl) _ ss c root ⟨#[]⟩ ⟨#[]⟩ w' hS hs (by omega) (by omega) hr (Nat.zero_le _) (Nat.zero_le _) hp2.1 hp2.2
theorem less_nil (k:ByteArray):lessB k ⟨#[]⟩=false:=by
 unfold lessB
 rw [ByteArray.toList_eq,ByteArray.toList_eq]
 cases k.data.toList <;> rfl
theorem nil_less {k:ByteArray} (h:emp k=false):lessB ⟨#[]⟩ k=true:=by
 unfold emp at h
 have h1:¬ k.size=0:=of_decide_eq_false h
 unfold lessB
 rw [ByteArray.toList_eq,ByteArray.toList_eq]
 have h2:¬ k.data.toList.length=0:=h1
 cases hk:k.data.toList with
 | nil=>rw [hk] at h2;exact absurd rfl h2
 | cons x xs=>simp [Op.bytesLess]
theorem canW_all (over under:ByteArray):canW over under ⟨#[]⟩ ⟨#[]⟩=true:=by
 unfold canW
 have e0:emp ⟨#[]⟩=true:=rfl
 rw [e0,Bool.true_or,Bool.true_and]
 cases h:emp under with
 | true=>rfl
 | false=>rw [nil_less h];rfl
theorem hasW_all (k:ByteArray):hasW ⟨#[]⟩ ⟨#[]⟩ k=true:=by
 unfold hasW
 rw [less_nil]
 rfl
theorem less_le {a b c:ByteArray} (h:lessB a b=true) (k:lessB c b=false):lessB a c=true:=by
 by_cases e:b=c
 · subst e;exact h
 · have:=lessB_or c b k (fun q=>e q.symm)
   exact lessB_tr h this
theorem le_less {a b c:ByteArray} (h:lessB b a=false) (k:lessB b c=true):lessB a c=true:=by
 by_cases e:a=b
 · subst e;exact k
 · exact lessB_tr (lessB_or b a h (fun q=>e q.symm)) k
theorem canW_no {over under lo hi x:ByteArray} (h:canW over under lo hi=false) (h1:lessB over x=true) (h2:emp under=true \/ lessB x under=true):hasW lo hi x=false:=by
 unfold canW at h
 unfold hasW
 rcases Bool.and_eq_false_iff.1 h with h | h
 · rcases Bool.or_eq_false_iff.1 h with ⟨he,hb⟩
   rw [he,Bool.false_or]
   rcases Bool.and_eq_false_iff.1 hb with hb | hb
   · cases hx:lessB x hi with
     | false=>rw [Bool.and_false]
     | true=>rw [less_le hx hb];rfl
   · cases hx:lessB x hi with
     | false=>rw [Bool.and_false]
     | true =>
      have:=lessB_tr h1 hx
      rw [this] at hb
      cases hb
 · rcases Bool.or_eq_false_iff.1 h with ⟨he,hb⟩
   rcases h2 with h2 | h2
   · rw [h2] at he;cases he
   · rw [less_le h2 hb];rfl
theorem goF_range {fnd:ByteArray -> FN} {hg:ByteArray -> ByteArray -> Bool} {wd:Nat} (hfo:FndOk wd fnd) (lo hi:ByteArray):∀ (f:Nat) (hash over under par:ByteArray) (cnt cnt':Nat),cnt' <= cnt -> cnt <= 500 -> (goF fnd hg ⟨#[]⟩ ⟨#[]⟩ f hash over under par cnt).1=0 →
 (goF fnd hg lo hi f hash over under par cnt').1=0 /\ (goF fnd hg lo hi f hash over under par cnt').2.1 <= (goF fnd hg ⟨#[]⟩ ⟨#[]⟩ f hash over under par cnt).2.1 /\ (goF fnd hg lo hi f hash over under par cnt').2.2=(goF fnd hg ⟨#[]⟩ ⟨#[]⟩ f hash over under par cnt).2.2.filter (fun p=>hasW lo hi p.1)
 | 0,_,_,_,_,_,_,_,_,h=>by rw [goF] at h;exact absurd h (by decide)
 | f + 1,hash,over,under,par,cnt,cnt',hc,h5,h=>by
  have hup:=(goF_up (hg:=hg) (lo:=⟨#[]⟩) (hi:=⟨#[]⟩) hfo (f + 1) hash over under par cnt).2
  cases he:emp hash with
  | true =>
   have s1:(emp hash || !canW over under ⟨#[]⟩ ⟨#[]⟩)=true:=by rw [he];rfl
   have s2:(emp hash || !canW over under lo hi)=true:=by rw [he];rfl
   rw [goF_skip s1,goF_skip s2]
   exact ⟨rfl,hc,rfl⟩
  | false =>
   have s1:(emp hash || !canW over under ⟨#[]⟩ ⟨#[]⟩)=false:=by rw [he,canW_all];rfl
   by_cases h2:(fnd hash).2=2
   · rw [goF_missing s1 h2] at h;exact absurd h (by decide)
   · by_cases h20:(fnd hash).2=0
     · cases h3:(insW over under (fnd hash).1.1 && parW hg par (fnd hash).1.1) with
       | false=>rw [goF_place s1 h20 h3] at h;exact absurd h (by decide)
       | true =>
        by_cases h4:500 < cnt + 1
        · rw [goF_many s1 h20 h3 h4] at h;exact absurd h (by decide)
        · have e:fnd hash=(((fnd hash).1.1,(fnd hash).1.2.1,(fnd hash).1.2.2.1,(fnd hash).1.2.2.2),0):=by rw [<- h20]
          have hn:=goF_node (cnt:=cnt) (f:=f) s1 e h3 (by omega) rfl rfl
          rw [hn] at h hup ⊢
          have hL0:(goF fnd hg ⟨#[]⟩ ⟨#[]⟩ f (fnd hash).1.2.2.1 over (fnd hash).1.1 (fnd hash).1.1 (cnt + 1)).1=0:=by
           by_cases q:(goF fnd hg ⟨#[]⟩ ⟨#[]⟩ f (fnd hash).1.2.2.1 over (fnd hash).1.1 (fnd hash).1.1 (cnt + 1)).1=0
           · exact q
           · rw [if_pos q] at h;exact absurd h q
          rw [if_neg (by rw [hL0];simp)] at h hup ⊢
          have hR0:(goF fnd hg ⟨#[]⟩ ⟨#[]⟩ f (fnd hash).1.2.2.2 (fnd hash).1.1 under (fnd hash).1.1 (goF fnd hg ⟨#[]⟩ ⟨#[]⟩ f (fnd hash).1.2.2.1 over (fnd hash).1.1 (fnd hash).1.1 (cnt + 1)).2.1).1=0:=by
           by_cases q:(goF fnd hg ⟨#[]⟩ ⟨#[]⟩ f (fnd hash).1.2.2.2 (fnd hash).1.1 under (fnd hash).1.1 (goF fnd hg ⟨#[]⟩ ⟨#[]⟩ f (fnd hash).1.2.2.1 over (fnd hash).1.1 (fnd hash).1.1 (cnt + 1)).2.1).1=0
           · exact q
           · rw [if_pos q] at h;exact absurd h q
          rw [if_neg (by rw [hR0];simp)] at h hup ⊢
          rw [hasW_all,if_pos rfl] at hup ⊢
          have hcl:=goF_cnt (fnd:=fnd) (hg:=hg) (lo:=⟨#[]⟩) (hi:=⟨#[]⟩) f (fnd hash).1.2.2.1 over (fnd hash).1.1 (fnd hash).1.1 (cnt + 1) (by omega) hL0
          have hcr:=goF_cnt (fnd:=fnd) (hg:=hg) (lo:=⟨#[]⟩) (hi:=⟨#[]⟩) f (fnd hash).1.2.2.2 (fnd hash).1.1 under (fnd hash).1.1 _ hcl.2 hR0
          cases hcw:canW over under lo hi with
          | false =>
           have s2:(emp hash || !canW over under lo hi)=true:=by rw [hcw,Bool.not_false,Bool.or_true]
           rw [goF_skip s2]
           refine ⟨rfl,?_,?_⟩
           · show cnt' <= _
             have:=hcl.1
             have:=hcr.1
             simp only
             omega
           · symm
             refine filter_no fun p hp=>?_
             have:=hup p.1 (mem_keys hp)
             exact canW_no hcw this.1 this.2
          | true =>
           have s2:(emp hash || !canW over under lo hi)=false:=by rw [he,hcw];rfl
           obtain ⟨a1,a2,a3⟩:=goF_range hfo lo hi f (fnd hash).1.2.2.1 over (fnd hash).1.1 (fnd hash).1.1 (cnt + 1) (cnt' + 1) (by omega) (by omega) hL0
           obtain ⟨b1,b2,b3⟩:=goF_range hfo lo hi f (fnd hash).1.2.2.2 (fnd hash).1.1 under (fnd hash).1.1 _ _ a2 hcl.2 hR0
           rw [goF_node s2 e h3 (by omega) rfl rfl,if_neg (by rw [a1];simp),if_neg (by rw [b1];simp)]
           refine ⟨rfl,b2,?_⟩
           simp only [List.filter_append]
           rw [a3,b3]
           congr 2
           rw [List.filter_cons]
           split <;> rfl
     · rw [goF,if_neg (by rw [s1];decide),if_neg h2,if_pos h20] at h;exact absurd h (by decide)
structure BL (a:Option Addr) (xs:List Nat) (w:World):Prop where
 at_:0 < xs.length -> ∃ b off:Nat,a=some ⟨b,off,none⟩ /\ b < w.heap.size /\ ∀ j,j < xs.length -> w.cell? ⟨b,off + j,none⟩=some (.int .u8 ((xs.getD j 0:Nat):Int))
theorem BL.below {a:Option Addr} {xs:List Nat} {w w':World} (h:BL a xs w) (hb:Below w.heap.size w w'):BL a xs w':=by
 refine ⟨fun hn=>?_⟩
 obtain ⟨b,off,ha,hlt,hc⟩:=h.at_ hn
 exact ⟨b,off,ha,Nat.lt_of_lt_of_le hlt hb.size,fun j hj=>(hb.cell hlt).trans (hc j hj)⟩
structure Code8 (xs:List Nat):Prop where
 le:xs.length <= 1048576
 lt:∀ j,xs.getD j 0 < 256
theorem i64_xor_nat (a b:Nat) (ha:a < 4294967296) (hb:b < 4294967296):bits .xor .i64 (a:Int) (b:Int)=((a ^^^ b:Nat):Int):=by
 have hx:a ^^^ b < 2 ^ 32:=Nat.xor_lt_two_pow (by omega) (by omega)
 show IntKind.i64.wrap ((BitVec.ofInt 64 (a:Int) ^^^ BitVec.ofInt 64 (b:Int)).toNat:Int)=_
 rw [BitVec.toNat_xor,ofInt_u64 a (by omega),ofInt_u64 b (by omega)]
 exact wrap_i64_in _ (by omega) (by omega)
theorem take_det (a:Option Addr) (xs:List Nat) (cap:Nat) (p m:Nat) (hX:Code8 xs) (hp:p <= 100000) (hm1:1 <= m) (hm:m <= 100000) :
 ∃ x:Nat,x < m /\ ∀ w,BL a xs w -> Calls prog 58 #[.slice a xs.length cap,.int .i64 (p:Int),.int .i64 (m:Int)] w fun e w'=>e=.returned (.tuple #[.int .i64 (x:Int),.int .i64 ((p + 1:Nat):Int)]) /\ Below w.heap.size w w':=by
 have z0:decide ((m:Int) < 1)=false:=by simp;omega
 have hn:=hX.le
 have y1:IntKind.i64.wrap ((p:Int) + 1)=((p + 1:Nat):Int):=by rw [wrap_i64_in _ (by omega) (by omega)];omega
 obtain ⟨n,hnn⟩:∃ n,xs.length=n:=⟨_,rfl⟩
 rw [hnn] at hn ⊢
 by_cases h0:n=0
 · subst h0
   refine ⟨0,hm1,fun w h=>?_⟩
   go_enter func58,ntmps58
   go_wp2_with fail
   go_ret2
   exact ⟨rfl,Below.refl _ _⟩
 · have z1:((n:Int) == 0)=false:=by rw [beq_eq_false_iff_ne];omega
   by_cases h1:p < n /\ m <= 256
   · have z2:decide ((p:Int) < (n:Int))=true:=by simp;omega
     have z3:decide ((m:Int) <= 256)=true:=by simp;omega
     obtain ⟨x,hx⟩:∃ x,xs.getD p 0=x:=⟨_,rfl⟩
     have hxl:x < 256:=by rw [<- hx];exact hX.lt p
     refine ⟨x % m,Nat.mod_lt _ (by omega),fun w h=>?_⟩
     obtain ⟨b,off,rfl,hlt,hc⟩:=h.at_ (by omega)
     have hcx:=hc p (by omega)
     rw [hx] at hcx
     clear hc
     go_enter func58,ntmps58
     go_wp2_with fail
     go_ret2
     exact ⟨rfl,Below.refl _ _⟩
   · obtain ⟨i1,hi1⟩:∃ i,p % n=i:=⟨_,rfl⟩
     obtain ⟨i2,hi2⟩:∃ i,(p * 7 + 3) % n=i:=⟨_,rfl⟩
     have l1:i1 < n:=by rw [<- hi1];exact Nat.mod_lt _ (by omega)
     have l2:i2 < n:=by rw [<- hi2];exact Nat.mod_lt _ (by omega)
     obtain ⟨x,hx'⟩:∃ x,xs.getD i1 0=x:=⟨_,rfl⟩
     obtain ⟨y,hy'⟩:∃ x,xs.getD i2 0=x:=⟨_,rfl⟩
     have hx:x < 256:=by rw [<- hx'];exact hX.lt i1
     have hy:y < 256:=by rw [<- hy'];exact hX.lt i2
     obtain ⟨d,hd⟩:∃ d,p / n=d:=⟨_,rfl⟩
     have hdp:d <= p:=by rw [<- hd];exact Nat.div_le_self _ _
     have u1:(p:Int) % (n:Int)=(i1:Int):=by rw [<- hi1];rfl
     have u2:((p:Int) * 7 + 3) % (n:Int)=(i2:Int):=by rw [<- hi2];rfl
     have u3:(p:Int) / (n:Int)=(d:Int):=by rw [<- hd];rfl
     have z2:(decide ((p:Int) < (n:Int)) && decide ((m:Int) <= 256))=false:=by
      rw [Bool.and_eq_false_iff]
      by_cases g:p < n
      · exact .inr (by simp;omega)
      · exact .inl (by simp;omega)
     clear hi1 hi2 hd
     obtain ⟨Y,HY⟩:∃ Y:Nat,Hid ((bits .xor .i64 ((x:Int) * 131 + (y:Int) * 1117 + (p:Int) * 29 + (d:Int) * 53) (((x:Int) * 131 + (y:Int) * 1117 + (p:Int) * 29 + (d:Int) * 53) / 64))=(Y:Int)) :=
      ⟨_,i64_xor_nat (x * 131 + y * 1117 + p * 29 + d * 53) ((x * 131 + y * 1117 + p * 29 + d * 53) / 64) (by omega) (by omega)⟩
     have HR:Hid ((bits .xor .i64 ((x:Int) * 131 + (y:Int) * 1117 + (p:Int) * 29 + (d:Int) * 53) (((x:Int) * 131 + (y:Int) * 1117 + (p:Int) * 29 + (d:Int) * 53) / 64)).tmod (m:Int)=((Y % m:Nat):Int)):=by
      show _=_
      rw [HY.out];rfl
     refine ⟨Y % m,Nat.mod_lt _ (by omega),fun w h=>?_⟩
     obtain ⟨b,off,rfl,hlt,hc⟩:=h.at_ (by omega)
     have hcx:=hc i1 (by omega)
     have hcy:=hc i2 (by omega)
     rw [hx'] at hcx
     rw [hy'] at hcy
     clear hc
     by_cases g:p < n
     · have z3:decide ((p:Int) < (n:Int))=true:=by simp;omega
       have z4:decide ((m:Int) <= 256)=false:=by simp;omega
       go_enter func58,ntmps58
       go_wp2_with fail
       go_ret2
       exact ⟨by rw [HR.out];rfl,Below.refl _ _⟩
     · have z3:decide ((p:Int) < (n:Int))=false:=by simp;omega
       go_enter func58,ntmps58
       go_wp2_with fail
       go_ret2
       exact ⟨by rw [HR.out];rfl,Below.refl _ _⟩
theorem width_det (a:Option Addr) (xs:List Nat) (cap:Nat) (p:Nat) (hX:Code8 xs) (hp:p <= 100000) :
 ∃ x:Nat,(1 <= x /\ x <= 32) /\ ∀ w,BL a xs w -> Calls prog 73 #[.slice a xs.length cap,.int .i64 (p:Int)] w fun e w'=>e=.returned (.tuple #[.int .i64 (x:Int),.int .i64 ((p + 1:Nat):Int)]) /\ Below w.heap.size w w':=by
 obtain ⟨x,hx,HT⟩:=take_det a xs cap p 10 hX hp (by omega) (by omega)
 replace HT:Hid _:=HT
 by_cases h3:x < 3
 · have z1:decide ((x:Int) < 3)=true:=by simp;omega
   refine ⟨1,by omega,fun w h=>?_⟩
   go_enter func73,ntmps73
   go_wp2_with fail
   refine (HT.out w h).mono ?_
   rintro e w1 ⟨rfl,hb⟩
   go_wp2_with fail
   go_ret2
   exact ⟨rfl,hb⟩
 have z1:decide ((x:Int) < 3)=false:=by simp;omega
 by_cases h5:x < 5
 · have z2:decide ((x:Int) < 5)=true:=by simp;omega
   refine ⟨2,by omega,fun w h=>?_⟩
   go_enter func73,ntmps73
   go_wp2_with fail
   refine (HT.out w h).mono ?_
   rintro e w1 ⟨rfl,hb⟩
   go_wp2_with fail
   go_ret2
   exact ⟨rfl,hb⟩
 have z2:decide ((x:Int) < 5)=false:=by simp;omega
 by_cases h7:x < 7
 · have z3:decide ((x:Int) < 7)=true:=by simp;omega
   refine ⟨32,by omega,fun w h=>?_⟩
   go_enter func73,ntmps73
   go_wp2_with fail
   refine (HT.out w h).mono ?_
   rintro e w1 ⟨rfl,hb⟩
   go_wp2_with fail
   go_ret2
   exact ⟨rfl,hb⟩
 have z3:decide ((x:Int) < 7)=false:=by simp;omega
 refine ⟨x,by omega,fun w h=>?_⟩
 go_enter func73,ntmps73
 go_wp2_with fail
 refine (HT.out w h).mono ?_
 rintro e w1 ⟨rfl,hb⟩
 go_wp2_with fail
 go_ret2
 exact ⟨rfl,hb⟩
def four (n:Nat):List UInt8:=[UInt8.ofNat (n % 256),UInt8.ofNat (n / 256 % 256),UInt8.ofNat (n / 65536 % 256),UInt8.ofNat (n / 16777216 % 256)]
theorem four_any (n:Nat) (hn:n <= 1048576) (w:World) :
 Calls prog 185 #[.int .i64 (n:Int)] w fun e w'=>∃ t:ByteArray,e=.returned (.string t) /\ t.size <= 4 /\ Hid (t=T (four n)) /\ Below w.heap.size w w':=by
 go_enter func185,ntmps185
 go_wp2_with fail
 refine (byte_i _ (by omega) (by omega) _).mono ?_
 rintro e w1 ⟨t1,rfl,hz1,HT1,hb1⟩
 go_wp2_with fail
 refine (byte_i _ (by omega) (by omega) _).mono ?_
 rintro e w2 ⟨t2,rfl,hz2,HT2,hb2⟩
 go_wp2_with fail
 refine (byte_i _ (by omega) (by omega) _).mono ?_
 rintro e w3 ⟨t3,rfl,hz3,HT3,hb3⟩
 go_wp2_with fail
 refine (byte_i _ (by omega) (by omega) _).mono ?_
 rintro e w4 ⟨t4,rfl,hz4,HT4,hb4⟩
 have hf:¬ (9223372036854775807 < t1.size + t2.size + t3.size + t4.size):=by omega
 go_wp2
 go_ret
 refine ⟨t1 ++ t2 ++ t3 ++ t4,rfl,by simp only [ByteArray.size_append];omega,?_,((hb1.trans (hb2.mono hb1.size)).trans (hb3.mono (Nat.le_trans hb1.size hb2.size))).trans (hb4.mono (Nat.le_trans (Nat.le_trans hb1.size hb2.size) hb3.size))⟩
 show t1 ++ t2 ++ t3 ++ t4=T (four n)
 rw [HT1.out,HT2.out,HT3.out,HT4.out,byteS_T,byteS_T,byteS_T,byteS_T,T_append,T_append,T_append]
 have e1:((n:Int) % 256).toNat=n % 256:=by omega
 have e2:((n:Int) / 256 % 256).toNat=n / 256 % 256:=by omega
 have e3:((n:Int) / 65536 % 256).toNat=n / 65536 % 256:=by omega
 have e4:((n:Int) / 16777216 % 256).toNat=n / 16777216 % 256:=by omega
 rw [e1,e2,e3,e4];rfl
def reps (n:Nat) (c:UInt8):ByteArray:=T (List.replicate n c)
theorem reps_size (n:Nat) (c:UInt8):(reps n c).size=n:=by unfold reps;rw [T_size,List.length_replicate]
theorem reps_add (n m:Nat) (c:UInt8):reps n c ++ reps m c=reps (n + m) c:=by unfold reps;rw [T_append,List.replicate_append_replicate]
theorem long_any (c:UInt8) (n:Nat):∀ (_hn:n <= 1048576) (w:World),
 Calls prog 134 #[.int .i64 (n:Int),.string ⟨#[c]⟩] w fun e w'=>∃ t:ByteArray,e=.returned (.string t) /\ t.size=n /\ Hid (t=reps n c) /\ Below w.heap.size w w':=by
 induction n using Nat.strongRecOn with
 | ind n ih =>
 intro hn w
 have hU:Hid ((⟨#[c]⟩:ByteArray)=reps 1 c /\ (⟨#[c]⟩:ByteArray).size=1):=⟨rfl,rfl⟩
 by_cases h0:0 < n
 · have z0:decide ((0:Int) < (n:Int))=true:=by simp;omega
   have hu:(⟨#[c]⟩:ByteArray).size=1:=rfl
   obtain ⟨u,hu'⟩:∃ u:ByteArray,⟨#[c]⟩=u:=⟨_,rfl⟩
   rw [hu'] at hU hu ih ⊢
   clear hu'
   go_enter func134,ntmps134
   go_wp2_with fail
   go_loopw [5] (fun t wr=>∃ (m:Nat) (x:ByteArray),1 <= m /\ m <= n /\ t=.string x /\ x.size=m /\ Hid (x=reps m c) /\ wr=w) (fun t _=>n - (match t with | .string x=>x.size | _=>0))
   case atStart=>exact ⟨1,u,by omega,by omega,rfl,hu,hU.out.1,rfl⟩
   case round =>
    obtain ⟨m,x,hm1,hm2,rfl,hx,HX,rfl⟩:=hrel
    by_cases h1:2 * m <= n
    · have z1:decide ((x.size:Int) * 2 <= (n:Int))=true:=by simp;omega
      go_wp2_with fail
      refine ⟨⟨m + m,x ++ x,by omega,by omega,rfl,by rw [ByteArray.size_append,hx],?_,trivial⟩,?_⟩
      · show x ++ x=_
        rw [HX.out,reps_add]
      · show n - (x ++ x).size < n - x.size
        rw [ByteArray.size_append,hx];omega
    · have z1:decide ((x.size:Int) * 2 <= (n:Int))=false:=by simp;omega
      by_cases h2:m < n
      · have z2:decide ((x.size:Int) < (n:Int))=true:=by simp;omega
        have z3:IntKind.i64.wrap ((n:Int) - (m:Int))=((n - m:Nat):Int):=by rw [wrap_i64_in _ (by omega) (by omega)];omega
        go_wp2_with fail
        refine (ih (n - m) (by omega) (by omega) _).mono ?_
        rintro e w1 ⟨t,rfl,ht,HT,hb⟩
        have z4:¬ (9223372036854775807 < x.size + t.size):=by omega
        go_wp2
        go_ret
        refine ⟨x ++ t,rfl,by rw [ByteArray.size_append];omega,?_,hb⟩
        show x ++ t=_
        rw [HX.out,HT.out,reps_add]
        congr 1
        omega
      · have z2:decide ((x.size:Int) < (n:Int))=false:=by simp;omega
        go_wp2
        go_ret
        exact ⟨x,rfl,by omega,by show x=_;rw [HX.out];congr 1;omega,Below.refl _ _⟩
 · have hn0:n=0:=by omega
   subst hn0
   clear ih
   go_enter func134,ntmps134
   go_wp2_with fail
   go_loopw [5] (fun t wr=>t=.string ⟨#[]⟩ /\ wr=w) (fun _ _=>0)
   case atStart=>exact ⟨rfl,rfl⟩
   case round =>
    obtain ⟨rfl,rfl⟩:=hrel
    go_wp2
    go_ret
    exact ⟨⟨#[]⟩,rfl,rfl,rfl,Below.refl _ _⟩
def part63 (s:List UInt8) (a:Nat):List UInt8:=(s.drop a).take 63 ++ List.replicate (63 - (s.length - a)) 0
theorem part63_length (s:List UInt8) (a:Nat):(part63 s a).length=63:=by
 unfold part63;rw [List.length_append,List.length_take,List.length_drop,List.length_replicate];omega
def markedTo (s f m:List UInt8):Nat -> List UInt8
 | 0=>[]
 | q + 1=>markedTo s f m q ++ part63 s (63 * q) ++ (if q=0 then f else m)
theorem markedTo_length (s f m:List UInt8) (hf:f.length <= 1) (hm:m.length <= 1) (q:Nat):(markedTo s f m q).length <= 64 * q:=by
 induction q with
 | zero=>exact Nat.le_refl _
 | succ q ih =>
  rw [markedTo,List.length_append,List.length_append,part63_length]
  split <;> omega
def marked (s f m:List UInt8):List UInt8:=markedTo s f m ((s.length + 62) / 63)
theorem full_part (s:ByteArray) (a:Nat) (h:a + 63 <= s.size):s.extract a (a + 63)=T (part63 s.data.toList a):=by
 conv=>lhs;rw [<- T_of s,T_extract]
 have e:63 - (s.data.toList.length - a)=0:=by show 63 - (s.size - a)=0;omega
 unfold part63
 rw [e,List.replicate_zero,List.append_nil,Nat.add_sub_cancel_left]
theorem last_part (s:ByteArray) (a n:Nat) (h:s.size < a + 63) (ha:a <= s.size) (hn:n=a + 63 - s.size):s.extract a s.size ++ reps n 0=T (part63 s.data.toList a):=by
 conv=>lhs;rw [<- T_of s,T_extract]
 unfold part63 reps
 rw [T_append]
 have e:63 - (s.data.toList.length - a)=n:=by show 63 - (s.size - a)=n;omega
 rw [e,List.take_of_length_le (by rw [List.length_drop,T_size];exact Nat.le_refl _),List.take_of_length_le (by rw [List.length_drop];show s.size - a <= 63;omega)]
theorem next_sector {s f m x p y:ByteArray} {q a:Nat} (ha:63 * q=a) (hx:x=T (markedTo s.data.toList f.data.toList m.data.toList q)) (hp:p=T (part63 s.data.toList a)) (hy:y=if q=0 then f else m) :
 x ++ p ++ y=T (markedTo s.data.toList f.data.toList m.data.toList (q + 1)):=by
 rw [hx,hp,markedTo,<- T_append,<- T_append,ha,hy]
 congr 1
 split
 · exact (T_of f).symm
 · exact (T_of m).symm
theorem marked_any (s f m:ByteArray) (w:World) (hs:s.size <= 1000000) (hf:f.size <= 1) (hm:m.size <= 1) :
 Calls prog 184 #[.string s,.string f,.string m] w fun e w'=>∃ t:ByteArray,e=.returned (.string t) /\ Hid (t=T (marked s.data.toList f.data.toList m.data.toList)) /\ Below w.heap.size w w':=by
 have HL:=markedTo_length s.data.toList f.data.toList m.data.toList hf hm
 go_enter func184,ntmps184
 go_wp2_with fail
 go_loopw [7,8] (fun t7 t8 wr=>∃ (q:Nat) (x:ByteArray),q <= (s.size + 62) / 63 /\ t7=.string x /\ t8=.int .i64 ((63 * q:Nat):Int) /\ x.size <= 64 * q /\ Hid (x=T (markedTo s.data.toList f.data.toList m.data.toList q)) /\ Below w.heap.size w wr) (fun _ t8 _=>s.size + 63 - (intOf t8).toNat)
 case atStart=>exact ⟨0,⟨#[]⟩,by omega,rfl,rfl,Nat.le_refl _,rfl,Below.refl _ _⟩
 case round =>
  obtain ⟨q,x,hq,rfl,rfl,hx,HX,hb⟩:=hrel
  obtain ⟨a,ha⟩:∃ a,63 * q=a:=⟨_,rfl⟩
  rw [ha]
  by_cases h1:a < s.size
  · have z1:decide ((a:Int) < (s.size:Int))=true:=by simp;omega
    have z2:IntKind.i64.wrap ((a:Int) + 63)=(a:Int) + 63:=wrap_i64_in _ (by omega) (by omega)
    have z3:(0:Int) <= (a:Int):=by omega
    have z4:(a:Int) <= (s.size:Int):=by omega
    by_cases h2:a + 63 <= s.size
    · have y1:decide ((a:Int) + 63 <= (s.size:Int))=true:=by simp;omega
      have y2:(a:Int) <= (a:Int) + 63:=by omega
      have y3:(a:Int) + 63 <= (s.size:Int):=by omega
      by_cases h3:q=0
      · have x1:((a:Int) == 0)=true:=by rw [beq_iff_eq];omega
        go_wp2_with fail
        have HE:=next_sector (y:=f) ha HX.out (full_part s a h2) (by rw [if_pos h3])
        refine ⟨⟨q + 1,_,by omega,rfl,congrArg (Value.int .i64) (by omega),?_,HE,hb⟩,?_⟩
        · rw [HE];exact HL (q + 1)
        · show s.size + 63 - ((a:Int) + 63).toNat < s.size + 63 - ((a:Int)).toNat
          omega
      · have x1:((a:Int) == 0)=false:=by rw [beq_eq_false_iff_ne];omega
        go_wp2_with fail
        have HE:=next_sector (y:=m) ha HX.out (full_part s a h2) (by rw [if_neg h3])
        refine ⟨⟨q + 1,_,by omega,rfl,congrArg (Value.int .i64) (by omega),?_,HE,hb⟩,?_⟩
        · rw [HE];exact HL (q + 1)
        · show s.size + 63 - ((a:Int) + 63).toNat < s.size + 63 - ((a:Int)).toNat
          omega
    · have y1:decide ((a:Int) + 63 <= (s.size:Int))=false:=by simp;omega
      have y2:IntKind.i64.wrap ((a:Int) + 63 - (s.size:Int))=((a + 63 - s.size:Nat):Int):=by rw [wrap_i64_in _ (by omega) (by omega)];omega
      go_wp2_with fail
      go_region_held3 (fun _=>True) (exact trivial)
       (first | (go_at_call 134;refine (long_any 0 (a + 63 - s.size) (by omega) _).mono ?_;rintro e wA ⟨t,rfl,zt,HT,hbA⟩;have fB:¬ (9223372036854775807 < s.size - a + t.size):=(by omega);clear zt))
      have hP:s.extract a s.size ++ t=T (part63 s.data.toList a):=by rw [HT.out];exact last_part s a _ (by omega) (by omega) rfl
      have hz:(s.extract a s.size ++ t).size=63:=by rw [hP,T_size,part63_length]
      generalize s.extract a s.size ++ t=p at hP hz ⊢
      have HP:Hid (p=T (part63 s.data.toList a)):=hP
      have hz':p.size <= 63:=by omega
      have hbB:Below w.heap.size w wA:=hb.drew.trans (hbA.mono hb.size)
      clear hP hz hbA HT
      have v1:¬ (9223372036854775807 < x.size + p.size):=by omega
      have v2:¬ (9223372036854775807 < x.size + p.size + f.size):=by omega
      have v3:¬ (9223372036854775807 < x.size + p.size + m.size):=by omega
      by_cases h3:q=0
      · have x1:((a:Int) == 0)=true:=by rw [beq_iff_eq];omega
        go_wp2_with fail
        have HE:=next_sector (y:=f) ha HX.out HP.out (by rw [if_pos h3])
        refine ⟨⟨q + 1,_,by omega,rfl,congrArg (Value.int .i64) (by omega),?_,HE,hbB⟩,?_⟩
        · rw [HE];exact HL (q + 1)
        · show s.size + 63 - ((a:Int) + 63).toNat < s.size + 63 - ((a:Int)).toNat
          omega
      · have x1:((a:Int) == 0)=false:=by rw [beq_eq_false_iff_ne];omega
        go_wp2_with fail
        have HE:=next_sector (y:=m) ha HX.out HP.out (by rw [if_neg h3])
        refine ⟨⟨q + 1,_,by omega,rfl,congrArg (Value.int .i64) (by omega),?_,HE,hbB⟩,?_⟩
        · rw [HE];exact HL (q + 1)
        · show s.size + 63 - ((a:Int) + 63).toNat < s.size + 63 - ((a:Int)).toNat
          omega
  · have z1:decide ((a:Int) < (s.size:Int))=false:=by simp;omega
    go_wp2
    go_ret
    refine ⟨x,rfl,?_,hb⟩
    show x=_
    rw [HX.out,marked]
    congr 2
    show q=(s.size + 62) / 63
    omega
end Go.Proofs.YtibjhkpgaaapaaaGreatDoor
