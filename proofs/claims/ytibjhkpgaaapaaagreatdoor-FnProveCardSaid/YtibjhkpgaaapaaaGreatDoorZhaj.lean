import Derived.Test.YtibjhkpgaaapaaaGreatDoorZhai
import Derived.Test.YtibjhkpgaaapaaaGreatDoorZhad
import Derived.Test.YtibjhkpgaaapaaaGreatDoorZhah
import Derived.Deep.QuietTactic
import Derived.BigQuiet
import Derived.Test.YtibjhkpgaaapaaaGreatDoorZhae
set_option maxRecDepth 100000
set_option maxHeartbeats 1000000
namespace Go.Proofs.YtibjhkpgaaapaaaGreatDoor
open Go.RowKit Go.Proofs.Sha Tryz
theorem shigher_any (a b:ByteArray) (w:World) (ha:a.size <= 1048576) (hb:b.size <= 1048576) :
 Calls prog 67 #[.string a,.string b] w fun e w'=>e=.returned (.bool (rk (sha a.data.toList) (sha b.data.toList) a.data.toList b.data.toList)) /\ Below w.heap.size w w':=by
 have hla:(sha a.data.toList).length=32:=by unfold sha;rw [outTo_length]
 have hlb:(sha b.data.toList).length=32:=by unfold sha;rw [outTo_length]
 have H1:=fun w'=>spec_any a w' ha
 have H2:=fun w'=>spec_any b w' hb
 have HR1:Hid (sha a.data.toList=sha b.data.toList -> rk (sha a.data.toList) (sha b.data.toList) a.data.toList b.data.toList=Op.bytesLess a.data.toList b.data.toList):=fun h=>if_pos h
 have HR2:Hid (sha a.data.toList ≠ sha b.data.toList -> rk (sha a.data.toList) (sha b.data.toList) a.data.toList b.data.toList=Op.bytesLess (sha b.data.toList) (sha a.data.toList)):=fun h=>if_neg h
 obtain ⟨X,hX⟩:∃ X,sha a.data.toList=X:=⟨_,rfl⟩
 obtain ⟨Y,hY⟩:∃ Y,sha b.data.toList=Y:=⟨_,rfl⟩
 rw [hX] at hla H1
 rw [hY] at hlb H2
 rw [hX,hY] at HR1 HR2
 rw [hX,hY]
 obtain ⟨SX,hSX⟩:∃ S:ByteArray,S=⟨X.toArray⟩:=⟨_,rfl⟩
 obtain ⟨SY,hSY⟩:∃ S:ByteArray,S=⟨Y.toArray⟩:=⟨_,rfl⟩
 have dX:SX.data.toList=X:=by rw [hSX]
 have dY:SY.data.toList=Y:=by rw [hSY]
 have zX:SX.size <= 1048576:=by rw [hSX];show X.length <= _;omega
 have zY:SY.size <= 1048576:=by rw [hSY];show Y.length <= _;omega
 rw [<- hSX] at H1
 rw [<- hSY] at H2
 have L1:=fun w'=>less_any SY SX w' zY zX
 have L2:=fun w'=>less_any a b w' ha hb
 rw [dX,dY] at L1
 have K1:Hid (∀ w',Calls prog 64 #[.string a] w' fun e w''=>e=.returned (.string SX) /\ Below w'.heap.size w' w''):=H1
 have K2:Hid (∀ w',Calls prog 64 #[.string b] w' fun e w''=>e=.returned (.string SY) /\ Below w'.heap.size w' w''):=H2
 have K3:Hid (∀ w',Calls prog 85 #[.string SY,.string SX] w' fun e w''=>e=.returned (.bool (Op.bytesLess Y X)) /\ Below w'.heap.size w' w''):=L1
 have K4:Hid (∀ w',Calls prog 85 #[.string a,.string b] w' fun e w''=>e=.returned (.bool (Op.bytesLess a.data.toList b.data.toList)) /\ Below w'.heap.size w' w''):=L2
 have tX:SX.toList=X:=by rw [ByteArray.toList_eq,dX]
 have tY:SY.toList=Y:=by rw [ByteArray.toList_eq,dY]
 have TXY:Hid (SX.toList=X /\ SY.toList=Y):=⟨tX,tY⟩
 clear hX hY H1 H2 L1 L2 hSX hSY dX dY zX zY hla hlb tX tY
 by_cases hXY:X=Y
 · have c1:(SX.toList == SY.toList)=true:=by rw [TXY.out.1,TXY.out.2,hXY];simp
   have HR:=HR1.out hXY
   have HR':Hid (rk X Y a.data.toList b.data.toList=Op.bytesLess a.data.toList b.data.toList):=HR
   clear HR HR1 HR2 hXY
   go_enter func67,ntmps67
   go_wp2_with fail
   refine (K1.out _).mono ?_
   rintro e w1 ⟨rfl,hb1⟩
   go_wp2_with fail
   refine (K2.out _).mono ?_
   rintro e w2 ⟨rfl,hb2⟩
   go_wp2_with fail
   refine (K4.out _).mono ?_
   rintro e w3 ⟨rfl,hb3⟩
   go_wp2
   go_ret
   exact ⟨by rw [HR'.out];rfl,(hb1.trans (hb2.mono hb1.size)).trans (hb3.mono (Nat.le_trans hb1.size hb2.size))⟩
 · have c1:(SX.toList == SY.toList)=false:=by rw [TXY.out.1,TXY.out.2];exact beq_eq_false_iff_ne.2 hXY
   have HR':Hid (rk X Y a.data.toList b.data.toList=Op.bytesLess Y X):=HR2.out hXY
   clear HR1 HR2 hXY
   go_enter func67,ntmps67
   go_wp2_with fail
   refine (K1.out _).mono ?_
   rintro e w1 ⟨rfl,hb1⟩
   go_wp2_with fail
   refine (K2.out _).mono ?_
   rintro e w2 ⟨rfl,hb2⟩
   go_wp2_with fail
   refine (K3.out _).mono ?_
   rintro e w3 ⟨rfl,hb3⟩
   go_wp2
   go_ret
   exact ⟨by rw [HR'.out];rfl,(hb1.trans (hb2.mono hb1.size)).trans (hb3.mono (Nat.le_trans hb1.size hb2.size))⟩
theorem pairOk_any (k v:ByteArray) (w:World) (hk:k.size <= 1048576) (hv:v.size <= 1048576):Calls prog 125 #[.string k,.string v] w fun e w'=>e=.returned (.bool (okKey k && okVal v)) /\ w=w':=by
 have hr:okVal v=decide ((v.size:Int) <= 2000):=by
  unfold okVal
  by_cases c2:v.size <= 2000
  · rw [decide_eq_true (by omega),decide_eq_true (by omega)]
  · rw [decide_eq_false (by omega),decide_eq_false (by omega)]
 by_cases c1:1 <= k.size
 · by_cases c2:k.size <= 256
   · have hq:okKey k=true:=by unfold okKey;rw [decide_eq_true (by omega)]
     rw [hq,hr,Bool.true_and]
     have z1:decide ((k.size:Int) ≥ 1)=true:=by rw [decide_eq_true_eq];omega
     have z2:decide ((1:Int) <= (k.size:Int))=true:=by rw [decide_eq_true_eq];omega
     have z3:decide ((k.size:Int) <= 256)=true:=by rw [decide_eq_true_eq];omega
     have z4:0 < k.size:=by omega
     have z5:decide (1 <= k.size)=true:=decide_eq_true c1
     clear hr hq
     go_enter func125,ntmps125
     go_wp2_with fail
     go_ret
     exact ⟨rfl,rfl⟩
   · have hq:okKey k=false:=by unfold okKey;rw [decide_eq_false (by omega)]
     rw [hq,Bool.false_and]
     have z1:decide ((k.size:Int) ≥ 1)=true:=by rw [decide_eq_true_eq];omega
     have z2:decide ((1:Int) <= (k.size:Int))=true:=by rw [decide_eq_true_eq];omega
     have z3:decide ((k.size:Int) <= 256)=false:=by rw [decide_eq_false_iff_not];omega
     have z4:0 < k.size:=by omega
     have z5:decide (1 <= k.size)=true:=decide_eq_true c1
     clear hr hq
     go_enter func125,ntmps125
     go_wp2_with fail
     go_ret
     exact ⟨rfl,rfl⟩
 · have hq:okKey k=false:=by unfold okKey;rw [decide_eq_false (by omega)]
   rw [hq,Bool.false_and]
   have z1:decide ((k.size:Int) ≥ 1)=false:=by rw [decide_eq_false_iff_not];omega
   have z2:decide ((1:Int) <= (k.size:Int))=false:=by rw [decide_eq_false_iff_not];omega
   have z0:k.size=0:=by omega
   clear hr hq
   go_enter func125,ntmps125
   go_wp2_with fail
   go_ret
   exact ⟨rfl,rfl⟩
theorem drew1 {w wr:World} (h:∃ m,wr=w.drewN m):∃ m,wr.drew=w.drewN m:=by
 obtain ⟨m,rfl⟩:=h
 exact ⟨m + 1,by rw [<- World.drewN_drewN];rfl⟩
theorem less_q (p q:ByteArray) (w:World) (hp:p.size <= 1048576) (hq:q.size <= 1048576) :
 Calls prog 85 #[.string p,.string q] w fun e w'=>e=.returned (.bool (Op.bytesLess p.data.toList q.data.toList)) /\ (∃ m,w'=w.drewN m):=by
 have hpl:p.data.toList.length=p.size:=rfl
 have hql:q.data.toList.length=q.size:=rfl
 go_enter func85,ntmps85
 go_wp2_with fail
 go_loopw [5] (fun t wr=>∃ k:Nat,k <= p.size /\ k <= q.size /\ t=.int .i64 (k:Int) /\ Hid (Op.bytesLess p.data.toList q.data.toList=Op.bytesLess (p.data.toList.drop k) (q.data.toList.drop k)) /\ ∃ m,wr=w.drewN m) (fun t _=>p.size - (intOf t).toNat)
 case atStart=>exact ⟨0,by omega,by omega,rfl,rfl,0,rfl⟩
 case round =>
  obtain ⟨k,hk1,hk2,rfl,HL,hb⟩:=hrel
  by_cases h1:k < p.size
  · by_cases h2:k < q.size
    · have z1:(0:Int) <= (k:Int):=by omega
      have z2:(k:Int) < (p.size:Int):=by omega
      have z3:(k:Int) < (q.size:Int):=by omega
      go_wp2_with fail
      go_region
      rw [bget p k h1,bget q k h2]
      have HE:=less_eq p.data.toList q.data.toList k h1 h2
      have HN:=less_ne p.data.toList q.data.toList k h1 h2
      obtain ⟨x,hx⟩:∃ x,p.data.toList.getD k 0=x:=⟨_,rfl⟩
      obtain ⟨y,hy⟩:∃ y,q.data.toList.getD k 0=y:=⟨_,rfl⟩
      rw [hx,hy] at HE HN
      rw [hx,hy]
      have HXY:Hid (p.data.toList.getD k 0=x /\ q.data.toList.getD k 0=y):=⟨hx,hy⟩
      clear hx hy
      by_cases hxy:x=y
      · have c0:((x.toNat:Int) != (y.toNat:Int))=false:=by rw [hxy];simp
        have HE':Hid (Op.bytesLess p.data.toList q.data.toList=Op.bytesLess (p.data.toList.drop (k + 1)) (q.data.toList.drop (k + 1))):=HL.out.trans (HE hxy)
        clear HE HN hxy
        go_wp2_with fail
        go_roundw
        case rel=>exact ⟨k + 1,by omega,by omega,by go_num,HE',drew1 hb⟩
        case measure=>simp [intOf];omega
      · have c0:((x.toNat:Int) != (y.toNat:Int))=true:=by
         rw [bne_iff_ne];exact fun h=>hxy (UInt8.toNat_inj.1 (by omega))
        have HN':Hid (Op.bytesLess p.data.toList q.data.toList=decide (x.toNat < y.toNat)):=(HL.out.trans (HN hxy)).trans (by simp)
        clear HE HN hxy
        go_wp2_with fail
        go_region
        rw [bget p k h1,bget q k h2,HXY.out.1,HXY.out.2]
        go_wp2
        go_ret
        exact ⟨by rw [HN'.out];rfl,drew1 (drew1 hb)⟩
    · have HN':Hid (Op.bytesLess p.data.toList q.data.toList=decide (p.size < q.size)):=(HL.out.trans (less_end p.data.toList q.data.toList k (.inr (by omega)) (by omega) (by omega))).trans (by simp)
      go_wp2
      go_ret
      exact ⟨by rw [HN'.out];rfl,hb⟩
  · have HN':Hid (Op.bytesLess p.data.toList q.data.toList=decide (p.size < q.size)):=(HL.out.trans (less_end p.data.toList q.data.toList k (.inl (by omega)) (by omega) (by omega))).trans (by simp)
    go_wp2
    go_ret
    exact ⟨by rw [HN'.out];rfl,hb⟩
theorem pairOk_q (k v:ByteArray) (w:World) (hk:k.size <= 1048576) (hv:v.size <= 1048576):Calls prog 125 #[.string k,.string v] w fun e w'=>e=.returned (.bool (okKey k && okVal v)) /\ w'=w :=
 (pairOk_any k v w hk hv).mono fun _ _ ⟨he,hw⟩=>⟨he,hw.symm⟩
theorem lessL (a b:ByteArray):Op.bytesLess a.data.toList b.data.toList=lessB a b:=by unfold lessB;rw [ByteArray.toList_eq,ByteArray.toList_eq]
theorem lessS_q (p q:ByteArray) (w:World) (hp:p.size <= 1048576) (hq:q.size <= 1048576):Calls prog 85 #[.string p,.string q] w fun e w'=>e=.returned (.bool (lessB p q)) /\ (∃ m,w'=w.drewN m):=by
 have:=less_q p q w hp hq
 rw [lessL] at this
 exact this
theorem draws_below {a w:World} {B:Nat} (n:Nat) (h:Below B a w):Below B a (w.drewN n):=⟨h.os,h.tape,h.output,h.size,h.block⟩
theorem emp_size {s:ByteArray} {b:Bool} (h:emp s=b):(b=true -> s.size=0) /\ (b=false -> 0 < s.size):=by
 unfold emp at h
 subst h
 exact ⟨fun h=>by simpa using h,fun h=>by rw [decide_eq_false_iff_not] at h;omega⟩
theorem emp_beq {s:ByteArray} {b:Bool} (h:emp s=b):((s.size:Int) == 0)=b:=by
 rw [<- h]
 unfold emp
 by_cases e:s.size=0
 · rw [decide_eq_true e];simp [e]
 · rw [decide_eq_false e,beq_eq_false_iff_ne];omega
theorem emp_ne {s:ByteArray} (h:emp s=false):¬ s=ByteArray.empty:=fun e=>by
 subst e
 cases h
theorem canW_spec (over under lo hi:ByteArray):canW over under lo hi=(if (!emp hi && !lessB lo hi)=true then false else if (!emp under && !lessB lo under)=true then false else (emp over || emp hi || lessB over hi)):=by
 have h0:emp over=true -> lessB over hi = !emp hi:=fun h=>by
  have hs:over.size=0:=by unfold emp at h;simpa using h
  have ho:over.toList=[]:=by rw [ByteArray.toList_eq];exact List.length_eq_zero_iff.1 hs
  unfold lessB
  rw [ho,<- emp_iff]
  cases hi.toList <;> rfl
 unfold canW
 cases h1:emp hi <;> cases h2:emp under <;> cases h3:emp over <;> cases h4:lessB lo hi <;> cases h5:lessB lo under <;> cases h6:lessB over hi <;> simp_all
theorem wants_any (over under lo hi:ByteArray) (w:World) (h1:over.size <= 1048576) (h2:under.size <= 1048576) (h3:lo.size <= 1048576) (h4:hi.size <= 1048576) :
 Calls prog 106 #[.agg #[.string over,.string under],.string lo,.string hi] w fun e w'=>e=.returned (.bool (canW over under lo hi)) /\ Below w.heap.size w w':=by
 have hbA:Below w.heap.size w (w.alloc (.cells #[.string over,.string under] 94)):=(Below.refl _ _).alloc (Nat.le_refl _) _
 have HA:=fun w'=>lessS_q lo hi w' h3 h4
 have HB:=fun w'=>lessS_q lo under w' h3 h2
 have HC:=fun w'=>lessS_q over hi w' h1 h4
 have HR:=canW_spec over under lo hi
 cases e1:emp hi with
 | false =>
  cases a1:lessB lo hi with
  | false =>
   rw [e1,a1] at HR
   have HR2:Hid _:=HR
   clear HR
   rw [a1] at HA
   try have ne1:=emp_ne e1
   have be1:=emp_beq e1
   have se1:=emp_size e1
   simp only [Bool.false_eq_true,false_implies,forall_const,true_and] at se1
   go_enter func106,ntmps106
   go_wp2_with (first | (go_at_call_of 85 (Value.string over);refine (HC _).mono ?_;rintro e w1 ⟨rfl,m3,rfl⟩) | (go_at_call_of 85 (Value.string hi);refine (HA _).mono ?_;rintro e w1 ⟨rfl,m1,rfl⟩) | (go_at_call_of 85 (Value.string under);refine (HB _).mono ?_;rintro e w1 ⟨rfl,m2,rfl⟩))
   go_ret
   exact ⟨by rw [HR2.out];rfl,by first | exact hbA | exact draws_below _ hbA | exact draws_below _ (draws_below _ hbA) | exact draws_below _ (draws_below _ (draws_below _ hbA))⟩
  | true =>
   cases e2:emp under with
   | false =>
    cases a2:lessB lo under with
    | false =>
     rw [e1,a1,e2,a2] at HR
     have HR2:Hid _:=HR
     clear HR
     rw [a1] at HA
     rw [a2] at HB
     try have ne1:=emp_ne e1
     have be1:=emp_beq e1
     have se1:=emp_size e1
     simp only [Bool.false_eq_true,false_implies,forall_const,true_and] at se1
     try have ne2:=emp_ne e2
     have be2:=emp_beq e2
     have se2:=emp_size e2
     simp only [Bool.false_eq_true,false_implies,forall_const,true_and] at se2
     go_enter func106,ntmps106
     go_wp2_with (first | (go_at_call_of 85 (Value.string over);refine (HC _).mono ?_;rintro e w1 ⟨rfl,m3,rfl⟩) | (go_at_call_of 85 (Value.string hi);refine (HA _).mono ?_;rintro e w1 ⟨rfl,m1,rfl⟩) | (go_at_call_of 85 (Value.string under);refine (HB _).mono ?_;rintro e w1 ⟨rfl,m2,rfl⟩))
     go_ret
     exact ⟨by rw [HR2.out];rfl,by first | exact hbA | exact draws_below _ hbA | exact draws_below _ (draws_below _ hbA) | exact draws_below _ (draws_below _ (draws_below _ hbA))⟩
    | true =>
     cases e3:emp over with
     | false =>
      cases a3:lessB over hi with
      | false =>
       rw [e1,a1,e2,a2,e3,a3] at HR
       have HR2:Hid _:=HR
       clear HR
       rw [a1] at HA
       rw [a2] at HB
       rw [a3] at HC
       try have ne1:=emp_ne e1
       have be1:=emp_beq e1
       have se1:=emp_size e1
       simp only [Bool.false_eq_true,false_implies,forall_const,true_and] at se1
       try have ne2:=emp_ne e2
       have be2:=emp_beq e2
       have se2:=emp_size e2
       simp only [Bool.false_eq_true,false_implies,forall_const,true_and] at se2
       try have ne3:=emp_ne e3
       have be3:=emp_beq e3
       have se3:=emp_size e3
       simp only [Bool.false_eq_true,false_implies,forall_const,true_and] at se3
       go_enter func106,ntmps106
       go_wp2_with (first | (go_at_call_of 85 (Value.string over);refine (HC _).mono ?_;rintro e w1 ⟨rfl,m3,rfl⟩) | (go_at_call_of 85 (Value.string hi);refine (HA _).mono ?_;rintro e w1 ⟨rfl,m1,rfl⟩) | (go_at_call_of 85 (Value.string under);refine (HB _).mono ?_;rintro e w1 ⟨rfl,m2,rfl⟩))
       go_ret
       exact ⟨by rw [HR2.out];rfl,by first | exact hbA | exact draws_below _ hbA | exact draws_below _ (draws_below _ hbA) | exact draws_below _ (draws_below _ (draws_below _ hbA))⟩
      | true =>
       rw [e1,a1,e2,a2,e3,a3] at HR
       have HR2:Hid _:=HR
       clear HR
       rw [a1] at HA
       rw [a2] at HB
       rw [a3] at HC
       try have ne1:=emp_ne e1
       have be1:=emp_beq e1
       have se1:=emp_size e1
       simp only [Bool.false_eq_true,false_implies,forall_const,true_and] at se1
       try have ne2:=emp_ne e2
       have be2:=emp_beq e2
       have se2:=emp_size e2
       simp only [Bool.false_eq_true,false_implies,forall_const,true_and] at se2
       try have ne3:=emp_ne e3
       have be3:=emp_beq e3
       have se3:=emp_size e3
       simp only [Bool.false_eq_true,false_implies,forall_const,true_and] at se3
       go_enter func106,ntmps106
       go_wp2_with (first | (go_at_call_of 85 (Value.string over);refine (HC _).mono ?_;rintro e w1 ⟨rfl,m3,rfl⟩) | (go_at_call_of 85 (Value.string hi);refine (HA _).mono ?_;rintro e w1 ⟨rfl,m1,rfl⟩) | (go_at_call_of 85 (Value.string under);refine (HB _).mono ?_;rintro e w1 ⟨rfl,m2,rfl⟩))
       go_ret
       exact ⟨by rw [HR2.out];rfl,by first | exact hbA | exact draws_below _ hbA | exact draws_below _ (draws_below _ hbA) | exact draws_below _ (draws_below _ (draws_below _ hbA))⟩
     | true =>
      rw [e1,a1,e2,a2,e3] at HR
      have HR2:Hid _:=HR
      clear HR
      rw [a1] at HA
      rw [a2] at HB
      try have ne1:=emp_ne e1
      have be1:=emp_beq e1
      have se1:=emp_size e1
      simp only [Bool.false_eq_true,false_implies,forall_const,true_and] at se1
      try have ne2:=emp_ne e2
      have be2:=emp_beq e2
      have se2:=emp_size e2
      simp only [Bool.false_eq_true,false_implies,forall_const,true_and] at se2
      try have ne3:=emp_ne e3
      have be3:=emp_beq e3
      have se3:=emp_size e3
      simp only [Bool.true_eq_false,false_implies,forall_const,and_true] at se3
      go_enter func106,ntmps106
      go_wp2_with (first | (go_at_call_of 85 (Value.string over);refine (HC _).mono ?_;rintro e w1 ⟨rfl,m3,rfl⟩) | (go_at_call_of 85 (Value.string hi);refine (HA _).mono ?_;rintro e w1 ⟨rfl,m1,rfl⟩) | (go_at_call_of 85 (Value.string under);refine (HB _).mono ?_;rintro e w1 ⟨rfl,m2,rfl⟩))
      go_ret
      exact ⟨by rw [HR2.out];rfl,by first | exact hbA | exact draws_below _ hbA | exact draws_below _ (draws_below _ hbA) | exact draws_below _ (draws_below _ (draws_below _ hbA))⟩
   | true =>
    cases e3:emp over with
    | false =>
     cases a3:lessB over hi with
     | false =>
      rw [e1,a1,e2,e3,a3] at HR
      have HR2:Hid _:=HR
      clear HR
      rw [a1] at HA
      rw [a3] at HC
      try have ne1:=emp_ne e1
      have be1:=emp_beq e1
      have se1:=emp_size e1
      simp only [Bool.false_eq_true,false_implies,forall_const,true_and] at se1
      try have ne2:=emp_ne e2
      have be2:=emp_beq e2
      have se2:=emp_size e2
      simp only [Bool.true_eq_false,false_implies,forall_const,and_true] at se2
      try have ne3:=emp_ne e3
      have be3:=emp_beq e3
      have se3:=emp_size e3
      simp only [Bool.false_eq_true,false_implies,forall_const,true_and] at se3
      go_enter func106,ntmps106
      go_wp2_with (first | (go_at_call_of 85 (Value.string over);refine (HC _).mono ?_;rintro e w1 ⟨rfl,m3,rfl⟩) | (go_at_call_of 85 (Value.string hi);refine (HA _).mono ?_;rintro e w1 ⟨rfl,m1,rfl⟩) | (go_at_call_of 85 (Value.string under);refine (HB _).mono ?_;rintro e w1 ⟨rfl,m2,rfl⟩))
      go_ret
      exact ⟨by rw [HR2.out];rfl,by first | exact hbA | exact draws_below _ hbA | exact draws_below _ (draws_below _ hbA) | exact draws_below _ (draws_below _ (draws_below _ hbA))⟩
     | true =>
      rw [e1,a1,e2,e3,a3] at HR
      have HR2:Hid _:=HR
      clear HR
      rw [a1] at HA
      rw [a3] at HC
      try have ne1:=emp_ne e1
      have be1:=emp_beq e1
      have se1:=emp_size e1
      simp only [Bool.false_eq_true,false_implies,forall_const,true_and] at se1
      try have ne2:=emp_ne e2
      have be2:=emp_beq e2
      have se2:=emp_size e2
      simp only [Bool.true_eq_false,false_implies,forall_const,and_true] at se2
      try have ne3:=emp_ne e3
      have be3:=emp_beq e3
      have se3:=emp_size e3
      simp only [Bool.false_eq_true,false_implies,forall_const,true_and] at se3
      go_enter func106,ntmps106
      go_wp2_with (first | (go_at_call_of 85 (Value.string over);refine (HC _).mono ?_;rintro e w1 ⟨rfl,m3,rfl⟩) | (go_at_call_of 85 (Value.string hi);refine (HA _).mono ?_;rintro e w1 ⟨rfl,m1,rfl⟩) | (go_at_call_of 85 (Value.string under);refine (HB _).mono ?_;rintro e w1 ⟨rfl,m2,rfl⟩))
      go_ret
      exact ⟨by rw [HR2.out];rfl,by first | exact hbA | exact draws_below _ hbA | exact draws_below _ (draws_below _ hbA) | exact draws_below _ (draws_below _ (draws_below _ hbA))⟩
    | true =>
     rw [e1,a1,e2,e3] at HR
     have HR2:Hid _:=HR
     clear HR
     rw [a1] at HA
     try have ne1:=emp_ne e1
     have be1:=emp_beq e1
     have se1:=emp_size e1
     simp only [Bool.false_eq_true,false_implies,forall_const,true_and] at se1
     try have ne2:=emp_ne e2
     have be2:=emp_beq e2
     have se2:=emp_size e2
     simp only [Bool.true_eq_false,false_implies,forall_const,and_true] at se2
     try have ne3:=emp_ne e3
     have be3:=emp_beq e3
     have se3:=emp_size e3
     simp only [Bool.true_eq_false,false_implies,forall_const,and_true] at se3
     go_enter func106,ntmps106
     go_wp2_with (first | (go_at_call_of 85 (Value.string over);refine (HC _).mono ?_;rintro e w1 ⟨rfl,m3,rfl⟩) | (go_at_call_of 85 (Value.string hi);refine (HA _).mono ?_;rintro e w1 ⟨rfl,m1,rfl⟩) | (go_at_call_of 85 (Value.string under);refine (HB _).mono ?_;rintro e w1 ⟨rfl,m2,rfl⟩))
     go_ret
     exact ⟨by rw [HR2.out];rfl,by first | exact hbA | exact draws_below _ hbA | exact draws_below _ (draws_below _ hbA) | exact draws_below _ (draws_below _ (draws_below _ hbA))⟩
 | true =>
  cases e2:emp under with
  | false =>
   cases a2:lessB lo under with
   | false =>
    rw [e1,e2,a2] at HR
    have HR2:Hid _:=HR
    clear HR
    rw [a2] at HB
    try have ne1:=emp_ne e1
    have be1:=emp_beq e1
    have se1:=emp_size e1
    simp only [Bool.true_eq_false,false_implies,forall_const,and_true] at se1
    try have ne2:=emp_ne e2
    have be2:=emp_beq e2
    have se2:=emp_size e2
    simp only [Bool.false_eq_true,false_implies,forall_const,true_and] at se2
    go_enter func106,ntmps106
    go_wp2_with (first | (go_at_call_of 85 (Value.string over);refine (HC _).mono ?_;rintro e w1 ⟨rfl,m3,rfl⟩) | (go_at_call_of 85 (Value.string hi);refine (HA _).mono ?_;rintro e w1 ⟨rfl,m1,rfl⟩) | (go_at_call_of 85 (Value.string under);refine (HB _).mono ?_;rintro e w1 ⟨rfl,m2,rfl⟩))
    go_ret
    exact ⟨by rw [HR2.out];rfl,by first | exact hbA | exact draws_below _ hbA | exact draws_below _ (draws_below _ hbA) | exact draws_below _ (draws_below _ (draws_below _ hbA))⟩
   | true =>
    cases e3:emp over with
    | false =>
     rw [e1,e2,a2,e3] at HR
     have HR2:Hid _:=HR
     clear HR
     rw [a2] at HB
     try have ne1:=emp_ne e1
     have be1:=emp_beq e1
     have se1:=emp_size e1
     simp only [Bool.true_eq_false,false_implies,forall_const,and_true] at se1
     try have ne2:=emp_ne e2
     have be2:=emp_beq e2
     have se2:=emp_size e2
     simp only [Bool.false_eq_true,false_implies,forall_const,true_and] at se2
     try have ne3:=emp_ne e3
     have be3:=emp_beq e3
     have se3:=emp_size e3
     simp only [Bool.false_eq_true,false_implies,forall_const,true_and] at se3
     go_enter func106,ntmps106
     go_wp2_with (first | (go_at_call_of 85 (Value.string over);refine (HC _).mono ?_;rintro e w1 ⟨rfl,m3,rfl⟩) | (go_at_call_of 85 (Value.string hi);refine (HA _).mono ?_;rintro e w1 ⟨rfl,m1,rfl⟩) | (go_at_call_of 85 (Value.string under);refine (HB _).mono ?_;rintro e w1 ⟨rfl,m2,rfl⟩))
     go_ret
     exact ⟨by rw [HR2.out];rfl,by first | exact hbA | exact draws_below _ hbA | exact draws_below _ (draws_below _ hbA) | exact draws_below _ (draws_below _ (draws_below _ hbA))⟩
    | true =>
     rw [e1,e2,a2,e3] at HR
     have HR2:Hid _:=HR
     clear HR
     rw [a2] at HB
     try have ne1:=emp_ne e1
     have be1:=emp_beq e1
     have se1:=emp_size e1
     simp only [Bool.true_eq_false,false_implies,forall_const,and_true] at se1
     try have ne2:=emp_ne e2
     have be2:=emp_beq e2
     have se2:=emp_size e2
     simp only [Bool.false_eq_true,false_implies,forall_const,true_and] at se2
     try have ne3:=emp_ne e3
     have be3:=emp_beq e3
     have se3:=emp_size e3
     simp only [Bool.true_eq_false,false_implies,forall_const,and_true] at se3
     go_enter func106,ntmps106
     go_wp2_with (first | (go_at_call_of 85 (Value.string over);refine (HC _).mono ?_;rintro e w1 ⟨rfl,m3,rfl⟩) | (go_at_call_of 85 (Value.string hi);refine (HA _).mono ?_;rintro e w1 ⟨rfl,m1,rfl⟩) | (go_at_call_of 85 (Value.string under);refine (HB _).mono ?_;rintro e w1 ⟨rfl,m2,rfl⟩))
     go_ret
     exact ⟨by rw [HR2.out];rfl,by first | exact hbA | exact draws_below _ hbA | exact draws_below _ (draws_below _ hbA) | exact draws_below _ (draws_below _ (draws_below _ hbA))⟩
  | true =>
   cases e3:emp over with
   | false =>
    rw [e1,e2,e3] at HR
    have HR2:Hid _:=HR
    clear HR
    try have ne1:=emp_ne e1
    have be1:=emp_beq e1
    have se1:=emp_size e1
    simp only [Bool.true_eq_false,false_implies,forall_const,and_true] at se1
    try have ne2:=emp_ne e2
    have be2:=emp_beq e2
    have se2:=emp_size e2
    simp only [Bool.true_eq_false,false_implies,forall_const,and_true] at se2
    try have ne3:=emp_ne e3
    have be3:=emp_beq e3
    have se3:=emp_size e3
    simp only [Bool.false_eq_true,false_implies,forall_const,true_and] at se3
    go_enter func106,ntmps106
    go_wp2_with (first | (go_at_call_of 85 (Value.string over);refine (HC _).mono ?_;rintro e w1 ⟨rfl,m3,rfl⟩) | (go_at_call_of 85 (Value.string hi);refine (HA _).mono ?_;rintro e w1 ⟨rfl,m1,rfl⟩) | (go_at_call_of 85 (Value.string under);refine (HB _).mono ?_;rintro e w1 ⟨rfl,m2,rfl⟩))
    go_ret
    exact ⟨by rw [HR2.out];rfl,by first | exact hbA | exact draws_below _ hbA | exact draws_below _ (draws_below _ hbA) | exact draws_below _ (draws_below _ (draws_below _ hbA))⟩
   | true =>
    rw [e1,e2,e3] at HR
    have HR2:Hid _:=HR
    clear HR
    try have ne1:=emp_ne e1
    have be1:=emp_beq e1
    have se1:=emp_size e1
    simp only [Bool.true_eq_false,false_implies,forall_const,and_true] at se1
    try have ne2:=emp_ne e2
    have be2:=emp_beq e2
    have se2:=emp_size e2
    simp only [Bool.true_eq_false,false_implies,forall_const,and_true] at se2
    try have ne3:=emp_ne e3
    have be3:=emp_beq e3
    have se3:=emp_size e3
    simp only [Bool.true_eq_false,false_implies,forall_const,and_true] at se3
    go_enter func106,ntmps106
    go_wp2_with (first | (go_at_call_of 85 (Value.string over);refine (HC _).mono ?_;rintro e w1 ⟨rfl,m3,rfl⟩) | (go_at_call_of 85 (Value.string hi);refine (HA _).mono ?_;rintro e w1 ⟨rfl,m1,rfl⟩) | (go_at_call_of 85 (Value.string under);refine (HB _).mono ?_;rintro e w1 ⟨rfl,m2,rfl⟩))
    go_ret
    exact ⟨by rw [HR2.out];rfl,by first | exact hbA | exact draws_below _ hbA | exact draws_below _ (draws_below _ hbA) | exact draws_below _ (draws_below _ (draws_below _ hbA))⟩
theorem insW_spec (over under key:ByteArray) (hk:emp key=false):insW over under key=((emp over || lessB over key) && (emp under || lessB key under)):=by
 have h0:emp over=true -> lessB over key=true:=fun h=>by
  have hs:over.size=0:=by unfold emp at h;simpa using h
  have ho:over.toList=[]:=by rw [ByteArray.toList_eq];exact List.length_eq_zero_iff.1 hs
  rw [<- emp_iff] at hk
  unfold lessB
  rw [ho]
  cases hq:key.toList with
  | nil=>rw [hq] at hk;cases hk
  | cons a b=>rfl
 unfold insW
 cases h1:emp over with
 | false=>rfl
 | true=>rw [h0 h1];rfl
theorem inside_any (over under key:ByteArray) (w:World) (hk:emp key=false) (h1:over.size <= 1048576) (h2:under.size <= 1048576) (h3:key.size <= 1048576) :
 Calls prog 139 #[.string key,.agg #[.string over,.string under]] w fun e w'=>e=.returned (.bool (insW over under key)) /\ Below w.heap.size w w':=by
 have hbA:Below w.heap.size w (w.alloc (.cells #[.string over,.string under] 94)):=(Below.refl _ _).alloc (Nat.le_refl _) _
 have HA:=fun w'=>lessS_q over key w' h1 h3
 have HB:=fun w'=>lessS_q key under w' h3 h2
 have HR:=insW_spec over under key hk
 cases e1:emp over with
 | false =>
  cases a1:lessB over key with
  | false =>
   rw [e1,a1] at HR
   have HR2:Hid _:=HR
   clear HR
   rw [a1] at HA
   try have ne1:=emp_ne e1
   have be1:=emp_beq e1
   have se1:=emp_size e1
   simp only [Bool.false_eq_true,false_implies,forall_const,true_and] at se1
   go_enter func139,ntmps139
   go_wp2_with (first | (go_at_call_of 85 (Value.string over);refine (HA _).mono ?_;rintro e w1 ⟨rfl,m1,rfl⟩) | (go_at_call_of 85 (Value.string under);refine (HB _).mono ?_;rintro e w1 ⟨rfl,m2,rfl⟩))
   go_ret
   exact ⟨by rw [HR2.out];rfl,by first | exact hbA | exact draws_below _ hbA | exact draws_below _ (draws_below _ hbA)⟩
  | true =>
   cases e2:emp under with
   | false =>
    cases a2:lessB key under with
    | false =>
     rw [e1,a1,e2,a2] at HR
     have HR2:Hid _:=HR
     clear HR
     rw [a1] at HA
     rw [a2] at HB
     try have ne1:=emp_ne e1
     have be1:=emp_beq e1
     have se1:=emp_size e1
     simp only [Bool.false_eq_true,false_implies,forall_const,true_and] at se1
     try have ne2:=emp_ne e2
     have be2:=emp_beq e2
     have se2:=emp_size e2
     simp only [Bool.false_eq_true,false_implies,forall_const,true_and] at se2
     go_enter func139,ntmps139
     go_wp2_with (first | (go_at_call_of 85 (Value.string over);refine (HA _).mono ?_;rintro e w1 ⟨rfl,m1,rfl⟩) | (go_at_call_of 85 (Value.string under);refine (HB _).mono ?_;rintro e w1 ⟨rfl,m2,rfl⟩))
     go_ret
     exact ⟨by rw [HR2.out];rfl,by first | exact hbA | exact draws_below _ hbA | exact draws_below _ (draws_below _ hbA)⟩
    | true =>
     rw [e1,a1,e2,a2] at HR
     have HR2:Hid _:=HR
     clear HR
     rw [a1] at HA
     rw [a2] at HB
     try have ne1:=emp_ne e1
     have be1:=emp_beq e1
     have se1:=emp_size e1
     simp only [Bool.false_eq_true,false_implies,forall_const,true_and] at se1
     try have ne2:=emp_ne e2
     have be2:=emp_beq e2
     have se2:=emp_size e2
     simp only [Bool.false_eq_true,false_implies,forall_const,true_and] at se2
     go_enter func139,ntmps139
     go_wp2_with (first | (go_at_call_of 85 (Value.string over);refine (HA _).mono ?_;rintro e w1 ⟨rfl,m1,rfl⟩) | (go_at_call_of 85 (Value.string under);refine (HB _).mono ?_;rintro e w1 ⟨rfl,m2,rfl⟩))
     go_ret
     exact ⟨by rw [HR2.out];rfl,by first | exact hbA | exact draws_below _ hbA | exact draws_below _ (draws_below _ hbA)⟩
   | true =>
    rw [e1,a1,e2] at HR
    have HR2:Hid _:=HR
    clear HR
    rw [a1] at HA
    try have ne1:=emp_ne e1
    have be1:=emp_beq e1
    have se1:=emp_size e1
    simp only [Bool.false_eq_true,false_implies,forall_const,true_and] at se1
    try have ne2:=emp_ne e2
    have be2:=emp_beq e2
    have se2:=emp_size e2
    simp only [Bool.true_eq_false,false_implies,forall_const,and_true] at se2
    go_enter func139,ntmps139
    go_wp2_with (first | (go_at_call_of 85 (Value.string over);refine (HA _).mono ?_;rintro e w1 ⟨rfl,m1,rfl⟩) | (go_at_call_of 85 (Value.string under);refine (HB _).mono ?_;rintro e w1 ⟨rfl,m2,rfl⟩))
    go_ret
    exact ⟨by rw [HR2.out];rfl,by first | exact hbA | exact draws_below _ hbA | exact draws_below _ (draws_below _ hbA)⟩
 | true =>
  cases e2:emp under with
  | false =>
   cases a2:lessB key under with
   | false =>
    rw [e1,e2,a2] at HR
    have HR2:Hid _:=HR
    clear HR
    rw [a2] at HB
    try have ne1:=emp_ne e1
    have be1:=emp_beq e1
    have se1:=emp_size e1
    simp only [Bool.true_eq_false,false_implies,forall_const,and_true] at se1
    try have ne2:=emp_ne e2
    have be2:=emp_beq e2
    have se2:=emp_size e2
    simp only [Bool.false_eq_true,false_implies,forall_const,true_and] at se2
    go_enter func139,ntmps139
    go_wp2_with (first | (go_at_call_of 85 (Value.string over);refine (HA _).mono ?_;rintro e w1 ⟨rfl,m1,rfl⟩) | (go_at_call_of 85 (Value.string under);refine (HB _).mono ?_;rintro e w1 ⟨rfl,m2,rfl⟩))
    go_ret
    exact ⟨by rw [HR2.out];rfl,by first | exact hbA | exact draws_below _ hbA | exact draws_below _ (draws_below _ hbA)⟩
   | true =>
    rw [e1,e2,a2] at HR
    have HR2:Hid _:=HR
    clear HR
    rw [a2] at HB
    try have ne1:=emp_ne e1
    have be1:=emp_beq e1
    have se1:=emp_size e1
    simp only [Bool.true_eq_false,false_implies,forall_const,and_true] at se1
    try have ne2:=emp_ne e2
    have be2:=emp_beq e2
    have se2:=emp_size e2
    simp only [Bool.false_eq_true,false_implies,forall_const,true_and] at se2
    go_enter func139,ntmps139
    go_wp2_with (first | (go_at_call_of 85 (Value.string over);refine (HA _).mono ?_;rintro e w1 ⟨rfl,m1,rfl⟩) | (go_at_call_of 85 (Value.string under);refine (HB _).mono ?_;rintro e w1 ⟨rfl,m2,rfl⟩))
    go_ret
    exact ⟨by rw [HR2.out];rfl,by first | exact hbA | exact draws_below _ hbA | exact draws_below _ (draws_below _ hbA)⟩
  | true =>
   rw [e1,e2] at HR
   have HR2:Hid _:=HR
   clear HR
   try have ne1:=emp_ne e1
   have be1:=emp_beq e1
   have se1:=emp_size e1
   simp only [Bool.true_eq_false,false_implies,forall_const,and_true] at se1
   try have ne2:=emp_ne e2
   have be2:=emp_beq e2
   have se2:=emp_size e2
   simp only [Bool.true_eq_false,false_implies,forall_const,and_true] at se2
   go_enter func139,ntmps139
   go_wp2_with (first | (go_at_call_of 85 (Value.string over);refine (HA _).mono ?_;rintro e w1 ⟨rfl,m1,rfl⟩) | (go_at_call_of 85 (Value.string under);refine (HB _).mono ?_;rintro e w1 ⟨rfl,m2,rfl⟩))
   go_ret
   exact ⟨by rw [HR2.out];rfl,by first | exact hbA | exact draws_below _ hbA | exact draws_below _ (draws_below _ hbA)⟩
end Go.Proofs.YtibjhkpgaaapaaaGreatDoor
