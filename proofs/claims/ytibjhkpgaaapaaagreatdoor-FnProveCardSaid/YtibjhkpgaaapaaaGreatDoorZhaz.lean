import Derived.Test.YtibjhkpgaaapaaaGreatDoorZhay
import Derived.Test.YtibjhkpgaaapaaaGreatDoorZhax
import Derived.Test.YtibjhkpgaaapaaaGreatDoorZhaa
import Derived.Test.YtibjhkpgaaapaaaGreatDoorProg
import Derived.Deep.MidRow
import Derived.Test.YtibjhkpgaaapaaaGreatDoorZhad
import Derived.Test.YtibjhkpgaaapaaaGreatDoorZhai
import Derived.Deep.RegionHeld3
import Derived.Deep.Cut
import Derived.Lib.Builder
set_option maxRecDepth 100000
set_option maxHeartbeats 1000000
namespace Go.Proofs.YtibjhkpgaaapaaaGreatDoor
open Go.RowKit Go.Proofs.Sha Tryz
theorem less_asy {a b:List UInt8} (h:Op.bytesLess a b=true):Op.bytesLess b a=false:=by
 rw [less_tri] at h
 cases hb:Op.bytesLess b a with
 | false=>rfl
 | true=>rw [hb] at h;simp at h
theorem less_tot {a b:List UInt8} (h:a ≠ b):Op.bytesLess a b=true \/ Op.bytesLess b a=true:=by
 rw [less_tri a b]
 cases hb:Op.bytesLess b a with
 | true=>exact .inr rfl
 | false =>
  left
  have:(b == a)=false:=beq_eq_false_iff_ne.2 fun e=>h e.symm
  rw [this];rfl
theorem less_trans:∀ a b c:List UInt8,Op.bytesLess a b=true -> Op.bytesLess b c=true -> Op.bytesLess a c=true
 | _,[],[],_,h=>by simp [Op.bytesLess] at h
 | [],[],_ :: _,h,_=>by simp [Op.bytesLess] at h
 | _ :: _,[],_,h,_=>by simp [Op.bytesLess] at h
 | [],_ :: _,[],_,h=>by simp [Op.bytesLess] at h
 | _ :: _,_ :: _,[],_,h=>by simp [Op.bytesLess] at h
 | [],_ :: _,_ :: _,_,_=>by simp [Op.bytesLess]
 | a :: x,b :: y,c :: z,h1,h2=>by
  simp only [Op.bytesLess,Bool.or_eq_true,Bool.and_eq_true,decide_eq_true_eq,beq_iff_eq,UInt8.lt_iff_toNat_lt] at h1 h2 ⊢
  have ih:=less_trans x y z
  rcases h1 with h1 | ⟨h1,h1'⟩ <;> rcases h2 with h2 | ⟨h2,h2'⟩
  · left;omega
  · subst h2;exact .inl h1
  · subst h1;exact .inl h2
  · subst h1;subst h2;exact .inr ⟨rfl,ih h1' h2'⟩
theorem rk_asy {x y a b:List UInt8} (h:rk x y a b=true):rk y x b a=false:=by
 unfold rk at h ⊢
 by_cases e:x=y
 · rw [if_pos e] at h;rw [if_pos e.symm];exact less_asy h
 · rw [if_neg e] at h;rw [if_neg (fun q=>e q.symm)];exact less_asy h
theorem rk_tot {x y a b:List UInt8} (h:a ≠ b):rk x y a b=true \/ rk y x b a=true:=by
 unfold rk
 by_cases e:x=y
 · rw [if_pos e,if_pos e.symm];exact less_tot h
 · rw [if_neg e,if_neg (fun q=>e q.symm)];exact less_tot (fun q=>e q.symm)
theorem rk_tra {x y z a b c:List UInt8} (h1:rk x y a b=true) (h2:rk y z b c=true):rk x z a c=true:=by
 unfold rk at h1 h2 ⊢
 by_cases e:x=y
 · subst e
   rw [if_pos rfl] at h1
   by_cases e2:x=z
   · rw [if_pos e2] at h2 ⊢;exact less_trans _ _ _ h1 h2
   · rw [if_neg e2] at h2 ⊢;exact h2
 · rw [if_neg e] at h1
   by_cases e2:y=z
   · subst e2
     rw [if_neg e];exact h1
   · rw [if_neg e2] at h2
     have h3:=less_trans _ _ _ h2 h1
     have e3:x ≠ z:=fun q=>by
      subst q
      rw [less_irr] at h3;cases h3
     rw [if_neg e3];exact h3
def abP (p q:PairT):Bool:=rk (sha p.1.data.toList) (sha q.1.data.toList) p.1.data.toList q.1.data.toList
theorem ranked_abP (ps:List PairT) (h:∀ p ∈ ps,∀ q ∈ ps,p ≠ q -> p.1 ≠ q.1):Ranked abP ps :=
 ⟨fun p hp q hq hne=>rk_tot fun e=>h p hp q hq hne (by
  have:p.1.data=q.1.data:=Array.toList_inj.1 e
  exact ByteArray.ext this),
  fun _ _ _ _=>rk_asy,fun _ _ _ _ _ _=>rk_tra⟩
theorem beats_abP (p q:PairT):beats (shaB p.1) (shaB q.1) p.1 q.1=abP p q:=beats_rk _ _ _ _
theorem topTo_above (ps:List PairT) (h:Ranked abP ps) (hd:∀ i j,i < ps.length -> j < ps.length -> i ≠ j -> ps.getD i noPair ≠ ps.getD j noPair) (k:Nat) (hk:k < ps.length) :
 ∀ j,j <= k -> j ≠ topTo ps k -> abP (ps.getD (topTo ps k) noPair) (ps.getD j noPair)=true:=by
 have hm:∀ i,i < ps.length -> ps.getD i noPair ∈ ps:=fun i hi=>by
  rw [List.getD_eq_getElem?_getD,List.getElem?_eq_getElem hi];exact List.getElem_mem hi
 induction k with
 | zero=>intro j hj hne;exact absurd (Nat.le_zero.1 hj) hne
 | succ k ih =>
  intro j hj hne
  have hT:=topTo_le ps k
  have ih:=ih (by omega)
  by_cases hb:beats (shaB (keyAt ps (k + 1))) (shaB (keyAt ps (topTo ps k))) (keyAt ps (k + 1)) (keyAt ps (topTo ps k))=true
  · have he:topTo ps (k + 1)=k + 1:=by rw [topTo,if_pos hb]
    rw [he] at hne ⊢
    have hb':abP (ps.getD (k + 1) noPair) (ps.getD (topTo ps k) noPair)=true:=(beats_abP _ _).symm.trans hb
    by_cases hjt:j=topTo ps k
    · rw [hjt];exact hb'
    · exact h.tra _ (hm _ hk) _ (hm _ (by omega)) _ (hm _ (by omega)) hb' (ih j (by omega) hjt)
  · have he:topTo ps (k + 1)=topTo ps k:=by rw [topTo,if_neg hb]
    rw [he] at hne ⊢
    by_cases hjk:j=k + 1
    · subst hjk
      rcases h.tot _ (hm (topTo ps k) (by omega)) _ (hm (k + 1) hk) (hd _ _ (by omega) hk (by omega)) with q | q
      · exact q
      · exact absurd ((beats_abP _ _).trans q) hb
    · exact ih j (by omega) hne
def Apart (ps:List PairT):Prop:=ps.Pairwise fun p q=>p.1 ≠ q.1
theorem Apart.ne {ps:List PairT} (h:Apart ps):∀ p ∈ ps,∀ q ∈ ps,p ≠ q -> p.1 ≠ q.1:=by
 induction ps with
 | nil=>intro p hp;cases hp
 | cons x l ih =>
  obtain ⟨h1,h2⟩:=List.pairwise_cons.1 h
  intro p hp q hq hne
  rcases List.mem_cons.1 hp with rfl | hp' <;> rcases List.mem_cons.1 hq with rfl | hq'
  · exact absurd rfl hne
  · exact h1 q hq'
  · exact fun e=>h1 p hp' e.symm
  · exact ih h2 p hp' q hq' hne
theorem getD_lt (ps:List PairT) (i:Nat) (hi:i < ps.length):ps.getD i noPair=ps[i]:=by
 rw [List.getD_eq_getElem?_getD,List.getElem?_eq_getElem hi];rfl
theorem Apart.at_ {ps:List PairT} (h:Apart ps) (i j:Nat) (hi:i < ps.length) (hj:j < ps.length) (hne:i ≠ j):ps.getD i noPair ≠ ps.getD j noPair:=by
 rw [getD_lt _ _ hi,getD_lt _ _ hj]
 have hp:=List.pairwise_iff_getElem.1 h
 intro e
 rcases Nat.lt_or_gt_of_ne hne with q | q
 · exact hp i j hi hj q (by rw [e])
 · exact hp j i hj hi q (by rw [e])
def cutTree (ps:List PairT):Tr PairT :=
 if h:0 < ps.length then
  .node (cutTree (ps.take (topTo ps (ps.length - 1)))) (ps.getD (topTo ps (ps.length - 1)) noPair) (cutTree (ps.drop (topTo ps (ps.length - 1) + 1)))
 else .nil
termination_by ps.length
decreasing_by
 · have:=topTo_le ps (ps.length - 1);rw [List.length_take];omega
 · rw [List.length_drop];omega
theorem cut_at (ps:List PairT) (t:Nat) (ht:t < ps.length):ps.take t ++ ps.getD t noPair :: ps.drop (t + 1)=ps:=by
 rw [getD_lt _ _ ht,<- List.drop_eq_getElem_cons ht,List.take_append_drop]
theorem cutTree_inord (ps:List PairT):(cutTree ps).inord=ps:=by
 induction hn:ps.length using Nat.strongRecOn generalizing ps with
 | _ n ih =>
  rw [cutTree]
  by_cases h:0 < ps.length
  · have ht:=topTo_le ps (ps.length - 1)
    rw [dif_pos h,Tr.inord,ih _ (by rw [List.length_take];omega) _ rfl,ih _ (by rw [List.length_drop];omega) _ rfl]
    exact cut_at ps _ (by omega)
  · rw [dif_neg h]
    cases ps with
    | nil=>rfl
    | cons x l=>exact absurd (Nat.succ_pos _) h
theorem cutTree_heap (ps:List PairT) (ha:Apart ps):(cutTree ps).heap abP:=by
 induction hn:ps.length using Nat.strongRecOn generalizing ps with
 | _ n ih =>
  rw [cutTree]
  by_cases h:0 < ps.length
  · have ht:=topTo_le ps (ps.length - 1)
    have hab:=topTo_above ps (ranked_abP ps ha.ne) ha.at_ (ps.length - 1) (by omega)
    rw [dif_pos h]
    refine ⟨fun y hy=>?_,fun y hy=>?_,ih _ (by rw [List.length_take];omega) _ (List.Pairwise.sublist (List.take_sublist _ _) ha) rfl,ih _ (by rw [List.length_drop];omega) _ (List.Pairwise.sublist (List.drop_sublist _ _) ha) rfl⟩
    · rw [cutTree_inord] at hy
      obtain ⟨i,hi,rfl⟩:=List.getElem_of_mem hy
      rw [List.length_take] at hi
      rw [List.getElem_take,<- getD_lt ps i (by omega)]
      exact hab i (by omega) (by omega)
    · rw [cutTree_inord] at hy
      obtain ⟨i,hi,rfl⟩:=List.getElem_of_mem hy
      rw [List.length_drop] at hi
      rw [List.getElem_drop,<- getD_lt ps _ (by omega)]
      exact hab _ (by omega) (by omega)
  · rw [dif_neg h];trivial
def mergedTo (ps:List PairT):Nat -> Tr PairT
 | 0=>.nil
 | k + 1=>Tr.merge abP (mergedTo ps k) (.node .nil (ps.getD k noPair) .nil)
theorem mergedTo_inord (ps:List PairT) (k:Nat) (hk:k <= ps.length):(mergedTo ps k).inord=ps.take k:=by
 induction k with
 | zero=>rfl
 | succ k ih =>
  rw [mergedTo,Tr.merge_inord,ih (by omega),List.take_succ_eq_append_getElem (by omega),getD_lt _ _ (by omega)]
  rfl
theorem mergedTo_heap (ps:List PairT) (ha:Apart ps) (k:Nat) (hk:k <= ps.length):(mergedTo ps k).heap abP:=by
 induction k with
 | zero=>trivial
 | succ k ih =>
  rw [mergedTo]
  have hr:=ranked_abP ps ha.ne
  have hi:(Tr.node .nil (ps.getD k noPair) .nil:Tr PairT).inord=[ps.getD k noPair]:=rfl
  refine Tr.merge_heap abP _ _ (ih (by omega)) ⟨fun _ h=>(by cases h),fun _ h=>(by cases h),trivial,trivial⟩ (hr.sub abP fun x hx=>?_) (fun x hx y hy=>?_)
  · rw [hi,mergedTo_inord ps k (by omega)] at hx
    rcases List.mem_append.1 hx with q | q
    · exact List.mem_of_mem_take q
    · rw [List.mem_singleton.1 q,getD_lt _ _ (by omega)];exact List.getElem_mem _
  · rw [mergedTo_inord ps k (by omega)] at hx
    rw [hi] at hy
    obtain ⟨i,hi',rfl⟩:=List.getElem_of_mem hx
    rw [List.length_take] at hi'
    rw [List.getElem_take,List.mem_singleton.1 hy,<- getD_lt ps i (by omega)]
    exact ha.at_ i k (by omega) (by omega) (by omega)
theorem merged_cut (ps:List PairT) (ha:Apart ps):mergedTo ps ps.length=cutTree ps:=by
 have hi:(mergedTo ps ps.length).inord=ps:=by rw [mergedTo_inord ps _ (Nat.le_refl _),List.take_length]
 refine Tr.unique abP _ _ (mergedTo_heap ps ha _ (Nat.le_refl _)) (cutTree_heap ps ha) (by rw [hi,cutTree_inord]) ?_ ?_
 · rw [hi];exact ha.imp fun h e=>h (by rw [e])
 · rw [hi];exact ranked_abP ps ha.ne
theorem mapTo_good (ps:List PairT):∀ n,mapTo ps n=true -> ∀ k,k < n -> goodAt ps k=true
 | 0,_,k,hk=>absurd hk (Nat.not_lt_zero _)
 | n + 1,h,k,hk=>by
  rw [mapTo,Bool.and_eq_true] at h
  by_cases e:k=n
  · subst e;exact h.2
  · exact mapTo_good ps n h.1 k (by omega)
theorem mapTo_less (ps:List PairT) (n:Nat) (h:mapTo ps n=true) (i j:Nat) (hij:i < j) (hj:j < n):Op.bytesLess (keyAt ps i).data.toList (keyAt ps j).data.toList=true:=by
 induction j with
 | zero=>omega
 | succ j ih =>
  have hg:=mapTo_good ps n h (j + 1) hj
  unfold goodAt at hg
  rw [Bool.and_eq_true,Bool.and_eq_true,ByteArray.toList_eq,ByteArray.toList_eq] at hg
  have hl:Op.bytesLess (keyAt ps j).data.toList (keyAt ps (j + 1)).data.toList=true:=hg.2.2
  by_cases e:i=j
  · subst e;exact hl
  · exact less_trans _ _ _ (ih (by omega) (by omega)) hl
theorem isMapT_apart (ps:List PairT) (h:isMapT ps=true):Apart ps:=by
 unfold isMapT at h
 rw [Bool.and_eq_true] at h
 refine List.pairwise_iff_getElem.2 fun i j hi hj hij e=>?_
 have hl:=mapTo_less ps ps.length h.2 i j hij hj
 have hk:keyAt ps i=keyAt ps j:=by
  unfold keyAt
  rw [getD_lt _ _ hi,getD_lt _ _ hj,e]
 rw [hk,less_irr] at hl
 cases hl
theorem ku_app {a b:List ByteArray} (h:KeysUp (a ++ b)):KeysUp a /\ KeysUp b /\ ∀ x ∈ a,∀ y ∈ b,lessB x y=true:=by
 induction a with
 | nil=>exact ⟨trivial,h,fun x hx=>by cases hx⟩
 | cons k ks ih =>
  obtain ⟨h1,h2⟩:=h
  obtain ⟨q1,q2,q3⟩:=ih h2
  refine ⟨⟨fun x hx=>h1 x (List.mem_append_left _ hx),q1⟩,q2,fun x hx y hy=>?_⟩
  rcases List.mem_cons.1 hx with rfl | hx
  · exact h1 y (List.mem_append_right _ hy)
  · exact q3 x hx y hy
theorem filter_no {p:PairT -> Bool} {l:List PairT} (h:∀ x ∈ l,p x=false):l.filter p=[]:=List.filter_eq_nil_iff.2 fun x hx=>by rw [h x hx];decide
theorem mem_keys {p:PairT} {l:List PairT} (h:p ∈ l):p.1 ∈ keys l:=List.mem_map.2 ⟨p,h,rfl⟩
theorem less_asyB {a b:ByteArray} (h:lessB a b=true):lessB b a=false:=by
 cases e:lessB b a with
 | false=>rfl
 | true=>rw [<- lessB_irr a,lessB_tr h e]
theorem ku_apart:∀ {ps:List PairT},KeysUp (keys ps) -> Apart ps
 | [],_=>List.Pairwise.nil
 | x :: xs,h=>List.Pairwise.cons (fun y hy e=>by have:=h.1 _ (mem_keys hy);rw [e,lessB_irr] at this;cases this) (ku_apart h.2)
theorem tree_one (t:Tr PairT) (ps:List PairT) (hh:t.heap abP) (hi:t.inord=ps) (ha:Apart ps):t=cutTree ps:=by
 refine Tr.unique abP _ _ hh (cutTree_heap ps ha) (by rw [hi,cutTree_inord]) ?_ ?_
 · rw [hi];exact ha.imp fun h e=>h (by rw [e])
 · rw [hi];exact ranked_abP ps ha.ne
def rankL (X:List UInt8) (k:ByteArray):List Value:=X.map B ++ [Value.string k]
def treeL (X:List UInt8) (k v:ByteArray) (l r:Option Addr) (enc h:ByteArray):List Value:=[.string k,.string v] ++ rankL X k ++ [.pointer l,.pointer r,.string enc,.string h]
theorem built4_e (x0 x1 x2 x3 x4 x5 x6 x7 x8 x9 x10 x11 x12 x13 x14 x15 x16 x17 x18 x19 x20 x21 x22 x23 x24 x25 x26 x27 x28 x29 x30 x31:UInt8) (k v:ByteArray) (l r:Option Addr):prog.built 251 [(0,.agg #[.string k,.string v]),(1,.agg ([x0,x1,x2,x3,x4,x5,x6,x7,x8,x9,x10,x11,x12,x13,x14,x15,x16,x17,x18,x19,x20,x21,x22,x23,x24,x25,x26,x27,x28,x29,x30,x31].map B ++ [Value.string k]).toArray),(2,.pointer l),(3,.pointer r)]=some (treeL [x0,x1,x2,x3,x4,x5,x6,x7,x8,x9,x10,x11,x12,x13,x14,x15,x16,x17,x18,x19,x20,x21,x22,x23,x24,x25,x26,x27,x28,x29,x30,x31] k v l r ⟨#[]⟩ ⟨#[]⟩).toArray:=by kernel_rfl
theorem list32 (X:List UInt8) (h:X.length=32):∃ x0 x1 x2 x3 x4 x5 x6 x7 x8 x9 x10 x11 x12 x13 x14 x15 x16 x17 x18 x19 x20 x21 x22 x23 x24 x25 x26 x27 x28 x29 x30 x31:UInt8,X=[x0,x1,x2,x3,x4,x5,x6,x7,x8,x9,x10,x11,x12,x13,x14,x15,x16,x17,x18,x19,x20,x21,x22,x23,x24,x25,x26,x27,x28,x29,x30,x31]:=by
 match X,h with
 | [x0,x1,x2,x3,x4,x5,x6,x7,x8,x9,x10,x11,x12,x13,x14,x15,x16,x17,x18,x19,x20,x21,x22,x23,x24,x25,x26,x27,x28,x29,x30,x31],_=>exact ⟨_,_,_,_,_,_,_,_,_,_,_,_,_,_,_,_,_,_,_,_,_,_,_,_,_,_,_,_,_,_,_,_,rfl⟩
theorem built4 (X:List UInt8) (h:X.length=32) (k v:ByteArray) (l r:Option Addr):prog.built 251 [(0,.agg #[.string k,.string v]),(1,.agg (rankL X k).toArray),(2,.pointer l),(3,.pointer r)]=some (treeL X k v l r ⟨#[]⟩ ⟨#[]⟩).toArray:=by
 obtain ⟨x0,x1,x2,x3,x4,x5,x6,x7,x8,x9,x10,x11,x12,x13,x14,x15,x16,x17,x18,x19,x20,x21,x22,x23,x24,x25,x26,x27,x28,x29,x30,x31,rfl⟩:=list32 X h
 exact built4_e x0 x1 x2 x3 x4 x5 x6 x7 x8 x9 x10 x11 x12 x13 x14 x15 x16 x17 x18 x19 x20 x21 x22 x23 x24 x25 x26 x27 x28 x29 x30 x31 k v l r
def PtrT (p:Option Addr) (w:World):Prop:=p=none \/ ∃ (x:Nat) (cs:Array Value) (u:TypeId),p=some ⟨x,0,none⟩ /\ w.heap[x]?=some (.cells cs u (0,0))
theorem size52:(prog.info? 249).map (·.size)=some 33:=by kernel_rfl
theorem size37:(prog.info? 81).map (·.size)=some 2:=by kernel_rfl
theorem size54:(prog.info? 251).map (·.size)=some 39:=by kernel_rfl
theorem info54:∃ j,prog.info? 251=some j /\ j.size ≠ 0:=by
 obtain ⟨j,h1,h2⟩:=Option.map_eq_some_iff.1 size54
 exact ⟨j,h1,by rw [h2];decide⟩
theorem yieldsIf_build {P:Program} {ops:Array Oper} {S:World -> Prop} {o:Oper} {a:Act} (hw:Region.wanted o (yielded ops a.tmps)=true) (t:TypeId) (parts:Array (Nat × Operand)) (ho:o.op=.build t parts) (cells:Array Value)
 (hb:P.built t (parts.toList.map fun (i,x)=>(i,a.eval x))=some cells):YieldsIf P ops S o (.agg cells) a:=by
 refine .inl ⟨hw,fun w _=>?_⟩
 rw [<- Array.toList_map] at hb
 unfold execOp
 simp only [ho,Sem.run_bind,run_build w t _ cells hb,Result.andThen_ok,Sem.run_pure]
theorem wp_box_row {P:Program} {o:Oper} {a:Act} {w:World} {K:Act -> World -> Prop} {Q:Exit -> Act -> World -> Prop} (ty:TypeId) (x:Operand) (ho:o.op=.box ty x) (cs:Array Value) (hx:a.eval x=.agg cs)
 (h:K (a.put o.dst (.pointer (some ⟨w.heap.size,0,none⟩))) (w.alloc (.cells cs ty))):o.wp P a w K Q:=by
 unfold Oper.wp execOp
 simp only [ho,hx]
 exact h
theorem rank_size (X:List UInt8) (h:X.length=32) (k:ByteArray):(prog.info? 249).map (·.size)=some (rankL X k).length:=by
 have e:(rankL X k).length=33:=by unfold rankL;rw [List.length_append,List.length_map,h];rfl
 rw [e];exact size52
theorem ptr_eql (a b:Option Addr) (w:World) (ha:PtrT a w) (hb:PtrT b w):(binOp .eql 115 (.pointer a) (.pointer b)).run prog w=.ok (.bool (decide (a=b))) w:=by
 obtain ⟨j,h1,h2⟩:=info54
 exact run_eql_ptr 115 251 j Tryz.underlying115 h1 h2 a b w ha hb
theorem tree_get (X:List UInt8) (hX:X.length=32) (k v:ByteArray) (pl pr:Option Addr) (enc h:ByteArray) :
 (treeL X k v pl pr enc h)[35]?=some (.pointer pl) /\ (treeL X k v pl pr enc h)[36]?=some (.pointer pr) /\ (treeL X k v pl pr enc h)[37]?=some (.string enc) /\ (treeL X k v pl pr enc h)[38]?=some (.string h) /\ (treeL X k v pl pr enc h)[0]?=some (.string k) /\ (treeL X k v pl pr enc h)[1]?=some (.string v):=by
 have hl:(X.map B).length=32:=by rw [List.length_map,hX]
 have e:treeL X k v pl pr enc h=([.string k,.string v] ++ (X.map B ++ [Value.string k])) ++ [.pointer pl,.pointer pr,.string enc,.string h]:=by unfold treeL rankL;simp
 have hl2:([Value.string k,.string v] ++ (X.map B ++ [Value.string k])).length=35:=by simp [hX]
 refine ⟨?_,?_,?_,?_,rfl,rfl⟩ <;> (rw [e,List.getElem?_append_right (by omega),hl2];rfl)
theorem tree_rank (X:List UInt8) (_hX:X.length=32) (k v:ByteArray) (pl pr:Option Addr) (enc h:ByteArray) (j:Nat) (u:Value) (hj:(rankL X k)[j]?=some u):(treeL X k v pl pr enc h)[2 + j]?=some u:=by
 have hlt:j < (rankL X k).length:=(List.getElem?_eq_some_iff.1 hj).1
 have e:treeL X k v pl pr enc h=[.string k,.string v] ++ (rankL X k ++ [.pointer pl,.pointer pr,.string enc,.string h]):=by unfold treeL;simp
 rw [e,List.getElem?_append_right (by simp),List.getElem?_append_left (by simpa using hlt)]
 simpa using hj
theorem withT_any (b:Nat) (X:List UInt8) (hX:X.length=32) (k v:ByteArray) (pl pr l r:Option Addr) (enc h:ByteArray) (w:World) (hb:w.heap[b]?=some (.cells (treeL X k v pl pr enc h).toArray 251))
 (p1:PtrT pl w) (p2:PtrT pr w) (p3:PtrT l w) (p4:PtrT r w) (hne:¬ (l=pl /\ r=pr)) :
 Calls prog 165 #[.pointer (some ⟨b,0,none⟩),.pointer l,.pointer r] w fun e w'=>∃ g,e=.returned (.pointer (some ⟨g,0,none⟩)) /\ w.heap.size <= g /\ w'.heap[g]?=some (.cells (treeL X k v l r ⟨#[]⟩ ⟨#[]⟩).toArray 251) /\ Below w.heap.size w w':=by
 have q1:=ptr_eql l pl w p3 p1
 have q2:=ptr_eql r pr w p4 p2
 have hlen:(X.map B).length=32:=by rw [List.length_map,hX]
 obtain ⟨g35,g36,g37,g38,g0,g1⟩:=tree_get X hX k v pl pr enc h
 have c35:w.cell? ⟨b,35,none⟩=some (.pointer pl):=(ZC hb 35).trans (by simpa using g35)
 have c36:w.cell? ⟨b,36,none⟩=some (.pointer pr):=(ZC hb 36).trans (by simpa using g36)
 have hr2:w.rangeAt b 2 (rankL X k):=fun j u hj=>(ZC hb (2 + j)).trans (by simpa using tree_rank X hX k v pl pr enc h j u hj)
 have hr0:w.rangeAt b 0 [.string k,.string v]:=fun j u hj=>(ZC hb (0 + j)).trans (by
  match j,hj with
  | 0,hj=>simpa using g0.trans hj
  | 1,hj=>simpa using g1.trans hj)
 clear g35 g36 g37 g38 g0 g1 hlen
 clear p1 p2 p3 p4
 have hd:decide (l=pl)=false \/ (decide (l=pl)=true /\ decide (r=pr)=false):=by
  by_cases e1:l=pl
  · exact .inr ⟨decide_eq_true e1,decide_eq_false fun e2=>hne ⟨e1,e2⟩⟩
  · exact .inl (decide_eq_false e1)
 have nT:=heap_alloc_new w.drew (.cells (treeL X k v l r ⟨#[]⟩ ⟨#[]⟩).toArray 251)
 have hT:Below w.heap.size w (w.drew.alloc (.cells (treeL X k v l r ⟨#[]⟩ ⟨#[]⟩).toArray 251)):=((Below.refl _ _).drew).alloc (Nat.le_refl _) _
 clear hne
 rcases hd with d1 | ⟨d1,d2⟩
 · rw [d1] at q1
   clear d1 q2
   go_enter func165,ntmps165
   go_upto_region 3 with fail
   refine wp_region_held_drew (S:=fun W=>W.rangeAt b 0 [.string k,.string v] /\ W.rangeAt b 2 (rankL X k)) (by kernel_rfl) ⟨hr0,hr2⟩ (fun hHeld=>?_)
   refine tkI 0 ?_
   simp only [Act.put,zq]
   refine tkI 1 ?_
   simp only [Act.put,zq]
   refine tkI 2 ?_
   simp only [Act.put,zq]
   refine tkH (i:=3) (v:=_) rfl (yieldsIf_load_mid (by rfl) _ _ rfl _ _ rfl _ _ (fun w h=>h.1) Tryz.underlying81 rfl size37) ?_
   simp only [Act.put,zq]
   refine tkI 4 ?_
   simp only [Act.put,zq]
   refine tkI 5 ?_
   simp only [Act.put,zq]
   refine tkI 6 ?_
   simp only [Act.put,zq]
   refine tkH (i:=7) (v:=_) rfl (yieldsIf_load_mid (by rfl) _ _ rfl _ _ rfl _ _ (fun w h=>h.2) Tryz.underlying249 rfl (rank_size X hX k)) ?_
   simp only [Act.put,zq]
   refine tkI 8 ?_
   simp only [Act.put,zq]
   refine tkI 9 ?_
   simp only [Act.put,zq]
   refine tkH (i:=10) (v:=_) rfl (yieldsIf_build (by rfl) 251 #[(0,.tmp 25),(1,.tmp 29),(2,.tmp 30),(3,.tmp 31)] rfl (treeL X k v l r ⟨#[]⟩ ⟨#[]⟩).toArray (by exact built4 X hX k v l r)) ?_
   simp only [Act.put,zq]
   refine rdH 11 (fun K hK=>?_)
   rw [if_pos (by rfl)]
   refine wp_box_row 251 _ rfl _ rfl ?_
   refine hK.out _ _ ⟨(World.rangeAt_alloc hHeld.1 _),(World.rangeAt_alloc hHeld.2 _)⟩ (fun hHeld=>?_)
   clear hK K
   simp only [Act.put,zq]
   refine tkI 12 ?_
   simp only [Act.put,zq]
   refine wpAnyH_done (by kernel_rfl) ?_ _
   go_wp2_with fail
   go_ret
   exact ⟨w.heap.size,rfl,Nat.le_refl _,nT,hT⟩
 · rw [d1] at q1
   rw [d2] at q2
   clear d1 d2
   go_enter func165,ntmps165
   go_upto_region 3 with fail
   refine wp_region_held_drew (S:=fun W=>W.rangeAt b 0 [.string k,.string v] /\ W.rangeAt b 2 (rankL X k)) (by kernel_rfl) ⟨hr0,hr2⟩ (fun hHeld=>?_)
   refine tkI 0 ?_
   simp only [Act.put,zq]
   refine tkI 1 ?_
   simp only [Act.put,zq]
   refine tkI 2 ?_
   simp only [Act.put,zq]
   refine tkH (i:=3) (v:=_) rfl (yieldsIf_load_mid (by rfl) _ _ rfl _ _ rfl _ _ (fun w h=>h.1) Tryz.underlying81 rfl size37) ?_
   simp only [Act.put,zq]
   refine tkI 4 ?_
   simp only [Act.put,zq]
   refine tkI 5 ?_
   simp only [Act.put,zq]
   refine tkI 6 ?_
   simp only [Act.put,zq]
   refine tkH (i:=7) (v:=_) rfl (yieldsIf_load_mid (by rfl) _ _ rfl _ _ rfl _ _ (fun w h=>h.2) Tryz.underlying249 rfl (rank_size X hX k)) ?_
   simp only [Act.put,zq]
   refine tkI 8 ?_
   simp only [Act.put,zq]
   refine tkI 9 ?_
   simp only [Act.put,zq]
   refine tkH (i:=10) (v:=_) rfl (yieldsIf_build (by rfl) 251 #[(0,.tmp 25),(1,.tmp 29),(2,.tmp 30),(3,.tmp 31)] rfl (treeL X k v l r ⟨#[]⟩ ⟨#[]⟩).toArray (by exact built4 X hX k v l r)) ?_
   simp only [Act.put,zq]
   refine rdH 11 (fun K hK=>?_)
   rw [if_pos (by rfl)]
   refine wp_box_row 251 _ rfl _ rfl ?_
   refine hK.out _ _ ⟨(World.rangeAt_alloc hHeld.1 _),(World.rangeAt_alloc hHeld.2 _)⟩ (fun hHeld=>?_)
   clear hK K
   simp only [Act.put,zq]
   refine tkI 12 ?_
   simp only [Act.put,zq]
   refine wpAnyH_done (by kernel_rfl) ?_ _
   go_wp2_with fail
   go_ret
   exact ⟨w.heap.size,rfl,Nat.le_refl _,nT,hT⟩
theorem with_same (b:Nat) (X:List UInt8) (hX:X.length=32) (k v:ByteArray) (pl pr:Option Addr) (enc h:ByteArray) (w:World) (hb:w.heap[b]?=some (.cells (treeL X k v pl pr enc h).toArray 251))
 (p1:PtrT pl w) (p2:PtrT pr w) :
 Calls prog 165 #[.pointer (some ⟨b,0,none⟩),.pointer pl,.pointer pr] w fun e w'=>e=.returned (.pointer (some ⟨b,0,none⟩)) /\ w'=w:=by
 have q1:=ptr_eql pl pl w p1 p1
 have q2:=ptr_eql pr pr w p2 p2
 rw [decide_eq_true rfl] at q1 q2
 obtain ⟨g35,g36,g37,g38,g0,g1⟩:=tree_get X hX k v pl pr enc h
 have c35:w.cell? ⟨b,35,none⟩=some (.pointer pl):=(ZC hb 35).trans (by simpa using g35)
 have c36:w.cell? ⟨b,36,none⟩=some (.pointer pr):=(ZC hb 36).trans (by simpa using g36)
 clear g35 g36 g37 g38 g0 g1 hb p1 p2
 go_enter func165,ntmps165
 go_wp2_with fail
 go_ret
 exact ⟨rfl,rfl⟩
end Go.Proofs.YtibjhkpgaaapaaaGreatDoor
