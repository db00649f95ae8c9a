import Derived.Test.YtibjhkpgaaapaaaGreatDoorZian
import Derived.Test.YtibjhkpgaaapaaaGreatDoorZiai
import Derived.Test.YtibjhkpgaaapaaaGreatDoorZiag
import Derived.Test.YtibjhkpgaaapaaaGreatDoorZiam
import Derived.WalkLawsBesides
set_option maxRecDepth 100000
set_option maxHeartbeats 1000000
namespace Go.Proofs.YtibjhkpgaaapaaaGreatDoor
open Go.RowKit Go.Proofs.Sha Tryz
theorem lessL (a b:ByteArray):Op.bytesLess a.data.toList b.data.toList=lessB a b:=by unfold lessB;rw[ByteArray.toList_eq,ByteArray.toList_eq]
theorem qbl (p q:ByteArray)(w:World)(hp:p.size<=1048576)(hq:q.size<=1048576):Calls prog 85 #[.string p,.string q] w λe w'=>e=.returned (.bool (lessB p q))/\(∃m,w'=w.drewN m):=by
 have:=less_q p q w hp hq;rw[lessL] at this;exact this
theorem qaa {a w:World}{B:Nat}(n:Nat)(h:Below B a w):Below B a (w.drewN n):=⟨h.os,h.tape,h.output,h.size,h.block⟩
theorem qag {s:ByteArray}{b:Bool}(h:emp s=b):(b=true->s.size=0)/\(b=false->0<s.size):=by
 unfold emp at h;subst h;exact⟨λh=>by simpa using h,λh=>by rw[decide_eq_false_iff_not] at h;omega⟩
theorem qaj {s:ByteArray}{b:Bool}(h:emp s=b):((s.size:Int) == 0)=b:=by
 rw[<-h];unfold emp;by_cases e:s.size=0
 ·rw[decide_eq_true e];simp[e]
 ·rw[decide_eq_false e,beq_eq_false_iff_ne];omega
theorem qao {s:ByteArray}(h:emp s=false):¬ s=ByteArray.empty:=λe=>by
 subst e;cases h
theorem canW_spec (over under lo hi:ByteArray):canW over under lo hi=(if (!emp hi && !lessB lo hi)=true then false else if (!emp under && !lessB lo under)=true then false else (emp over || emp hi || lessB over hi)):=by
 have h0:emp over=true->lessB over hi = !emp hi:=λh=>by
  have hs:over.size=0:=by unfold emp at h;simpa using h
  have ho:over.toList=[]:=by rw[ByteArray.toList_eq];exact List.length_eq_zero_iff.1 hs
  unfold lessB;rw[ho,<-qcf];cases hi.toList <;> rfl
 unfold canW;cases h1:emp hi <;> cases h2:emp under <;> cases h3:emp over <;> cases h4:lessB lo hi <;> cases h5:lessB lo under <;> cases h6:lessB over hi <;> simp_all
theorem qcd (over under lo hi:ByteArray)(w:World)(h1:over.size<=1048576)(h2:under.size<=1048576)(h3:lo.size<=1048576)(h4:hi.size<=1048576) : Calls prog 106 #[.agg #[.string over,.string under],.string lo,.string hi] w λe w'=>e=.returned (.bool (canW over under lo hi))/\Below w.heap.size w w':=by
 have hbA:=bA w (.cells #[.string over,.string under] 94);have HA:=λw'=>qbl lo hi w' h3 h4;have HB:=λw'=>qbl lo under w' h3 h2;have HC:=λw'=>qbl over hi w' h1 h4;have HR:=canW_spec over under lo hi;cases e1:emp hi with
 | false =>
  cases a1:lessB lo hi with
  | false =>
   rw[e1,a1] at HR;have HR2:Hid _:=HR;clear HR;rw[a1] at HA
   try have ne1:=qao e1
   have be1:=qaj e1;have se1:=qag e1;simp only[Bool.false_eq_true,false_implies,forall_const,true_and] at se1;go_enter func106,ntmps106;go_wp2_with (first|(go_at_call_of 85 (Value.string over);refine(HC _).mono ?_;rintro e w1 ⟨rfl,m3,rfl⟩)|(go_at_call_of 85 (Value.string hi);refine(HA _).mono ?_;rintro e w1 ⟨rfl,m1,rfl⟩)|(go_at_call_of 85 (Value.string under);refine(HB _).mono ?_;rintro e w1 ⟨rfl,m2,rfl⟩));go_ret;exact⟨by rw[HR2.out];rfl,by first|exact hbA|exact qaa _ hbA|exact qaa _ (qaa _ hbA)|exact qaa _ (qaa _ (qaa _ hbA))⟩
  | true =>
   cases e2:emp under with
   | false =>
    cases a2:lessB lo under with
    | false =>
     rw[e1,a1,e2,a2] at HR;have HR2:Hid _:=HR;clear HR;rw[a1] at HA;rw[a2] at HB
     try have ne1:=qao e1
     have be1:=qaj e1;have se1:=qag e1;simp only[Bool.false_eq_true,false_implies,forall_const,true_and] at se1
     try have ne2:=qao e2
     have be2:=qaj e2;have se2:=qag e2;simp only[Bool.false_eq_true,false_implies,forall_const,true_and] at se2;go_enter func106,ntmps106;go_wp2_with (first|(go_at_call_of 85 (Value.string over);refine(HC _).mono ?_;rintro e w1 ⟨rfl,m3,rfl⟩)|(go_at_call_of 85 (Value.string hi);refine(HA _).mono ?_;rintro e w1 ⟨rfl,m1,rfl⟩)|(go_at_call_of 85 (Value.string under);refine(HB _).mono ?_;rintro e w1 ⟨rfl,m2,rfl⟩));go_ret;exact⟨by rw[HR2.out];rfl,by first|exact hbA|exact qaa _ hbA|exact qaa _ (qaa _ hbA)|exact qaa _ (qaa _ (qaa _ hbA))⟩
    | true =>
     cases e3:emp over with
     | false =>
      cases a3:lessB over hi with
      | false =>
       rw[e1,a1,e2,a2,e3,a3] at HR;have HR2:Hid _:=HR;clear HR;rw[a1] at HA;rw[a2] at HB;rw[a3] at HC
       try have ne1:=qao e1
       have be1:=qaj e1;have se1:=qag e1;simp only[Bool.false_eq_true,false_implies,forall_const,true_and] at se1
       try have ne2:=qao e2
       have be2:=qaj e2;have se2:=qag e2;simp only[Bool.false_eq_true,false_implies,forall_const,true_and] at se2
       try have ne3:=qao e3
       have be3:=qaj e3;have se3:=qag e3;simp only[Bool.false_eq_true,false_implies,forall_const,true_and] at se3;go_enter func106,ntmps106;go_wp2_with (first|(go_at_call_of 85 (Value.string over);refine(HC _).mono ?_;rintro e w1 ⟨rfl,m3,rfl⟩)|(go_at_call_of 85 (Value.string hi);refine(HA _).mono ?_;rintro e w1 ⟨rfl,m1,rfl⟩)|(go_at_call_of 85 (Value.string under);refine(HB _).mono ?_;rintro e w1 ⟨rfl,m2,rfl⟩));go_ret;exact⟨by rw[HR2.out];rfl,by first|exact hbA|exact qaa _ hbA|exact qaa _ (qaa _ hbA)|exact qaa _ (qaa _ (qaa _ hbA))⟩
      | true =>
       rw[e1,a1,e2,a2,e3,a3] at HR;have HR2:Hid _:=HR;clear HR;rw[a1] at HA;rw[a2] at HB;rw[a3] at HC
       try have ne1:=qao e1
       have be1:=qaj e1;have se1:=qag e1;simp only[Bool.false_eq_true,false_implies,forall_const,true_and] at se1
       try have ne2:=qao e2
       have be2:=qaj e2;have se2:=qag e2;simp only[Bool.false_eq_true,false_implies,forall_const,true_and] at se2
       try have ne3:=qao e3
       have be3:=qaj e3;have se3:=qag e3;simp only[Bool.false_eq_true,false_implies,forall_const,true_and] at se3;go_enter func106,ntmps106;go_wp2_with (first|(go_at_call_of 85 (Value.string over);refine(HC _).mono ?_;rintro e w1 ⟨rfl,m3,rfl⟩)|(go_at_call_of 85 (Value.string hi);refine(HA _).mono ?_;rintro e w1 ⟨rfl,m1,rfl⟩)|(go_at_call_of 85 (Value.string under);refine(HB _).mono ?_;rintro e w1 ⟨rfl,m2,rfl⟩));go_ret;exact⟨by rw[HR2.out];rfl,by first|exact hbA|exact qaa _ hbA|exact qaa _ (qaa _ hbA)|exact qaa _ (qaa _ (qaa _ hbA))⟩
     | true =>
      rw[e1,a1,e2,a2,e3] at HR;have HR2:Hid _:=HR;clear HR;rw[a1] at HA;rw[a2] at HB
      try have ne1:=qao e1
      have be1:=qaj e1;have se1:=qag e1;simp only[Bool.false_eq_true,false_implies,forall_const,true_and] at se1
      try have ne2:=qao e2
      have be2:=qaj e2;have se2:=qag e2;simp only[Bool.false_eq_true,false_implies,forall_const,true_and] at se2
      try have ne3:=qao e3
      have be3:=qaj e3;have se3:=qag e3;simp only[Bool.true_eq_false,false_implies,forall_const,and_true] at se3;go_enter func106,ntmps106;go_wp2_with (first|(go_at_call_of 85 (Value.string over);refine(HC _).mono ?_;rintro e w1 ⟨rfl,m3,rfl⟩)|(go_at_call_of 85 (Value.string hi);refine(HA _).mono ?_;rintro e w1 ⟨rfl,m1,rfl⟩)|(go_at_call_of 85 (Value.string under);refine(HB _).mono ?_;rintro e w1 ⟨rfl,m2,rfl⟩));go_ret;exact⟨by rw[HR2.out];rfl,by first|exact hbA|exact qaa _ hbA|exact qaa _ (qaa _ hbA)|exact qaa _ (qaa _ (qaa _ hbA))⟩
   | true =>
    cases e3:emp over with
    | false =>
     cases a3:lessB over hi with
     | false =>
      rw[e1,a1,e2,e3,a3] at HR;have HR2:Hid _:=HR;clear HR;rw[a1] at HA;rw[a3] at HC
      try have ne1:=qao e1
      have be1:=qaj e1;have se1:=qag e1;simp only[Bool.false_eq_true,false_implies,forall_const,true_and] at se1
      try have ne2:=qao e2
      have be2:=qaj e2;have se2:=qag e2;simp only[Bool.true_eq_false,false_implies,forall_const,and_true] at se2
      try have ne3:=qao e3
      have be3:=qaj e3;have se3:=qag e3;simp only[Bool.false_eq_true,false_implies,forall_const,true_and] at se3;go_enter func106,ntmps106;go_wp2_with (first|(go_at_call_of 85 (Value.string over);refine(HC _).mono ?_;rintro e w1 ⟨rfl,m3,rfl⟩)|(go_at_call_of 85 (Value.string hi);refine(HA _).mono ?_;rintro e w1 ⟨rfl,m1,rfl⟩)|(go_at_call_of 85 (Value.string under);refine(HB _).mono ?_;rintro e w1 ⟨rfl,m2,rfl⟩));go_ret;exact⟨by rw[HR2.out];rfl,by first|exact hbA|exact qaa _ hbA|exact qaa _ (qaa _ hbA)|exact qaa _ (qaa _ (qaa _ hbA))⟩
     | true =>
      rw[e1,a1,e2,e3,a3] at HR;have HR2:Hid _:=HR;clear HR;rw[a1] at HA;rw[a3] at HC
      try have ne1:=qao e1
      have be1:=qaj e1;have se1:=qag e1;simp only[Bool.false_eq_true,false_implies,forall_const,true_and] at se1
      try have ne2:=qao e2
      have be2:=qaj e2;have se2:=qag e2;simp only[Bool.true_eq_false,false_implies,forall_const,and_true] at se2
      try have ne3:=qao e3
      have be3:=qaj e3;have se3:=qag e3;simp only[Bool.false_eq_true,false_implies,forall_const,true_and] at se3;go_enter func106,ntmps106;go_wp2_with (first|(go_at_call_of 85 (Value.string over);refine(HC _).mono ?_;rintro e w1 ⟨rfl,m3,rfl⟩)|(go_at_call_of 85 (Value.string hi);refine(HA _).mono ?_;rintro e w1 ⟨rfl,m1,rfl⟩)|(go_at_call_of 85 (Value.string under);refine(HB _).mono ?_;rintro e w1 ⟨rfl,m2,rfl⟩));go_ret;exact⟨by rw[HR2.out];rfl,by first|exact hbA|exact qaa _ hbA|exact qaa _ (qaa _ hbA)|exact qaa _ (qaa _ (qaa _ hbA))⟩
    | true =>
     rw[e1,a1,e2,e3] at HR;have HR2:Hid _:=HR;clear HR;rw[a1] at HA
     try have ne1:=qao e1
     have be1:=qaj e1;have se1:=qag e1;simp only[Bool.false_eq_true,false_implies,forall_const,true_and] at se1
     try have ne2:=qao e2
     have be2:=qaj e2;have se2:=qag e2;simp only[Bool.true_eq_false,false_implies,forall_const,and_true] at se2
     try have ne3:=qao e3
     have be3:=qaj e3;have se3:=qag e3;simp only[Bool.true_eq_false,false_implies,forall_const,and_true] at se3;go_enter func106,ntmps106;go_wp2_with (first|(go_at_call_of 85 (Value.string over);refine(HC _).mono ?_;rintro e w1 ⟨rfl,m3,rfl⟩)|(go_at_call_of 85 (Value.string hi);refine(HA _).mono ?_;rintro e w1 ⟨rfl,m1,rfl⟩)|(go_at_call_of 85 (Value.string under);refine(HB _).mono ?_;rintro e w1 ⟨rfl,m2,rfl⟩));go_ret;exact⟨by rw[HR2.out];rfl,by first|exact hbA|exact qaa _ hbA|exact qaa _ (qaa _ hbA)|exact qaa _ (qaa _ (qaa _ hbA))⟩
 | true =>
  cases e2:emp under with
  | false =>
   cases a2:lessB lo under with
   | false =>
    rw[e1,e2,a2] at HR;have HR2:Hid _:=HR;clear HR;rw[a2] at HB
    try have ne1:=qao e1
    have be1:=qaj e1;have se1:=qag e1;simp only[Bool.true_eq_false,false_implies,forall_const,and_true] at se1
    try have ne2:=qao e2
    have be2:=qaj e2;have se2:=qag e2;simp only[Bool.false_eq_true,false_implies,forall_const,true_and] at se2;go_enter func106,ntmps106;go_wp2_with (first|(go_at_call_of 85 (Value.string over);refine(HC _).mono ?_;rintro e w1 ⟨rfl,m3,rfl⟩)|(go_at_call_of 85 (Value.string hi);refine(HA _).mono ?_;rintro e w1 ⟨rfl,m1,rfl⟩)|(go_at_call_of 85 (Value.string under);refine(HB _).mono ?_;rintro e w1 ⟨rfl,m2,rfl⟩));go_ret;exact⟨by rw[HR2.out];rfl,by first|exact hbA|exact qaa _ hbA|exact qaa _ (qaa _ hbA)|exact qaa _ (qaa _ (qaa _ hbA))⟩
   | true =>
    cases e3:emp over with
    | false =>
     rw[e1,e2,a2,e3] at HR;have HR2:Hid _:=HR;clear HR;rw[a2] at HB
     try have ne1:=qao e1
     have be1:=qaj e1;have se1:=qag e1;simp only[Bool.true_eq_false,false_implies,forall_const,and_true] at se1
     try have ne2:=qao e2
     have be2:=qaj e2;have se2:=qag e2;simp only[Bool.false_eq_true,false_implies,forall_const,true_and] at se2
     try have ne3:=qao e3
     have be3:=qaj e3;have se3:=qag e3;simp only[Bool.false_eq_true,false_implies,forall_const,true_and] at se3;go_enter func106,ntmps106;go_wp2_with (first|(go_at_call_of 85 (Value.string over);refine(HC _).mono ?_;rintro e w1 ⟨rfl,m3,rfl⟩)|(go_at_call_of 85 (Value.string hi);refine(HA _).mono ?_;rintro e w1 ⟨rfl,m1,rfl⟩)|(go_at_call_of 85 (Value.string under);refine(HB _).mono ?_;rintro e w1 ⟨rfl,m2,rfl⟩));go_ret;exact⟨by rw[HR2.out];rfl,by first|exact hbA|exact qaa _ hbA|exact qaa _ (qaa _ hbA)|exact qaa _ (qaa _ (qaa _ hbA))⟩
    | true =>
     rw[e1,e2,a2,e3] at HR;have HR2:Hid _:=HR;clear HR;rw[a2] at HB
     try have ne1:=qao e1
     have be1:=qaj e1;have se1:=qag e1;simp only[Bool.true_eq_false,false_implies,forall_const,and_true] at se1
     try have ne2:=qao e2
     have be2:=qaj e2;have se2:=qag e2;simp only[Bool.false_eq_true,false_implies,forall_const,true_and] at se2
     try have ne3:=qao e3
     have be3:=qaj e3;have se3:=qag e3;simp only[Bool.true_eq_false,false_implies,forall_const,and_true] at se3;go_enter func106,ntmps106;go_wp2_with (first|(go_at_call_of 85 (Value.string over);refine(HC _).mono ?_;rintro e w1 ⟨rfl,m3,rfl⟩)|(go_at_call_of 85 (Value.string hi);refine(HA _).mono ?_;rintro e w1 ⟨rfl,m1,rfl⟩)|(go_at_call_of 85 (Value.string under);refine(HB _).mono ?_;rintro e w1 ⟨rfl,m2,rfl⟩));go_ret;exact⟨by rw[HR2.out];rfl,by first|exact hbA|exact qaa _ hbA|exact qaa _ (qaa _ hbA)|exact qaa _ (qaa _ (qaa _ hbA))⟩
  | true =>
   cases e3:emp over with
   | false =>
    rw[e1,e2,e3] at HR;have HR2:Hid _:=HR;clear HR
    try have ne1:=qao e1
    have be1:=qaj e1;have se1:=qag e1;simp only[Bool.true_eq_false,false_implies,forall_const,and_true] at se1
    try have ne2:=qao e2
    have be2:=qaj e2;have se2:=qag e2;simp only[Bool.true_eq_false,false_implies,forall_const,and_true] at se2
    try have ne3:=qao e3
    have be3:=qaj e3;have se3:=qag e3;simp only[Bool.false_eq_true,false_implies,forall_const,true_and] at se3;go_enter func106,ntmps106;go_wp2_with (first|(go_at_call_of 85 (Value.string over);refine(HC _).mono ?_;rintro e w1 ⟨rfl,m3,rfl⟩)|(go_at_call_of 85 (Value.string hi);refine(HA _).mono ?_;rintro e w1 ⟨rfl,m1,rfl⟩)|(go_at_call_of 85 (Value.string under);refine(HB _).mono ?_;rintro e w1 ⟨rfl,m2,rfl⟩));go_ret;exact⟨by rw[HR2.out];rfl,by first|exact hbA|exact qaa _ hbA|exact qaa _ (qaa _ hbA)|exact qaa _ (qaa _ (qaa _ hbA))⟩
   | true =>
    rw[e1,e2,e3] at HR;have HR2:Hid _:=HR;clear HR
    try have ne1:=qao e1
    have be1:=qaj e1;have se1:=qag e1;simp only[Bool.true_eq_false,false_implies,forall_const,and_true] at se1
    try have ne2:=qao e2
    have be2:=qaj e2;have se2:=qag e2;simp only[Bool.true_eq_false,false_implies,forall_const,and_true] at se2
    try have ne3:=qao e3
    have be3:=qaj e3;have se3:=qag e3;simp only[Bool.true_eq_false,false_implies,forall_const,and_true] at se3;go_enter func106,ntmps106;go_wp2_with (first|(go_at_call_of 85 (Value.string over);refine(HC _).mono ?_;rintro e w1 ⟨rfl,m3,rfl⟩)|(go_at_call_of 85 (Value.string hi);refine(HA _).mono ?_;rintro e w1 ⟨rfl,m1,rfl⟩)|(go_at_call_of 85 (Value.string under);refine(HB _).mono ?_;rintro e w1 ⟨rfl,m2,rfl⟩));go_ret;exact⟨by rw[HR2.out];rfl,by first|exact hbA|exact qaa _ hbA|exact qaa _ (qaa _ hbA)|exact qaa _ (qaa _ (qaa _ hbA))⟩
theorem insW_spec (over under key:ByteArray)(hk:emp key=false):insW over under key=((emp over || lessB over key) && (emp under || lessB key under)):=by
 have h0:emp over=true->lessB over key=true:=λh=>by
  have hs:over.size=0:=by unfold emp at h;simpa using h
  have ho:over.toList=[]:=by rw[ByteArray.toList_eq];exact List.length_eq_zero_iff.1 hs
  rw[<-qcf] at hk;unfold lessB;rw[ho];cases hq:key.toList with
  | nil=>rw[hq] at hk;cases hk
  | cons a b=>rfl
 unfold insW;cases h1:emp over with
 | false=>rfl
 | true=>rw[h0 h1];rfl
theorem inside_any (over under key:ByteArray)(w:World)(hk:emp key=false)(h1:over.size<=1048576)(h2:under.size<=1048576)(h3:key.size<=1048576) : Calls prog 139 #[.string key,.agg #[.string over,.string under]] w λe w'=>e=.returned (.bool (insW over under key))/\Below w.heap.size w w':=by
 have hbA:=bA w (.cells #[.string over,.string under] 94);have HA:=λw'=>qbl over key w' h1 h3;have HB:=λw'=>qbl key under w' h3 h2;have HR:=insW_spec over under key hk;cases e1:emp over with
 | false =>
  cases a1:lessB over key with
  | false =>
   rw[e1,a1] at HR;have HR2:Hid _:=HR;clear HR;rw[a1] at HA
   try have ne1:=qao e1
   have be1:=qaj e1;have se1:=qag e1;simp only[Bool.false_eq_true,false_implies,forall_const,true_and] at se1;go_enter func139,ntmps139;go_wp2_with (first|(go_at_call_of 85 (Value.string over);refine(HA _).mono ?_;rintro e w1 ⟨rfl,m1,rfl⟩)|(go_at_call_of 85 (Value.string under);refine(HB _).mono ?_;rintro e w1 ⟨rfl,m2,rfl⟩));go_ret;exact⟨by rw[HR2.out];rfl,by first|exact hbA|exact qaa _ hbA|exact qaa _ (qaa _ hbA)⟩
  | true =>
   cases e2:emp under with
   | false =>
    cases a2:lessB key under with
    | false =>
     rw[e1,a1,e2,a2] at HR;have HR2:Hid _:=HR;clear HR;rw[a1] at HA;rw[a2] at HB
     try have ne1:=qao e1
     have be1:=qaj e1;have se1:=qag e1;simp only[Bool.false_eq_true,false_implies,forall_const,true_and] at se1
     try have ne2:=qao e2
     have be2:=qaj e2;have se2:=qag e2;simp only[Bool.false_eq_true,false_implies,forall_const,true_and] at se2;go_enter func139,ntmps139;go_wp2_with (first|(go_at_call_of 85 (Value.string over);refine(HA _).mono ?_;rintro e w1 ⟨rfl,m1,rfl⟩)|(go_at_call_of 85 (Value.string under);refine(HB _).mono ?_;rintro e w1 ⟨rfl,m2,rfl⟩));go_ret;exact⟨by rw[HR2.out];rfl,by first|exact hbA|exact qaa _ hbA|exact qaa _ (qaa _ hbA)⟩
    | true =>
     rw[e1,a1,e2,a2] at HR;have HR2:Hid _:=HR;clear HR;rw[a1] at HA;rw[a2] at HB
     try have ne1:=qao e1
     have be1:=qaj e1;have se1:=qag e1;simp only[Bool.false_eq_true,false_implies,forall_const,true_and] at se1
     try have ne2:=qao e2
     have be2:=qaj e2;have se2:=qag e2;simp only[Bool.false_eq_true,false_implies,forall_const,true_and] at se2;go_enter func139,ntmps139;go_wp2_with (first|(go_at_call_of 85 (Value.string over);refine(HA _).mono ?_;rintro e w1 ⟨rfl,m1,rfl⟩)|(go_at_call_of 85 (Value.string under);refine(HB _).mono ?_;rintro e w1 ⟨rfl,m2,rfl⟩));go_ret;exact⟨by rw[HR2.out];rfl,by first|exact hbA|exact qaa _ hbA|exact qaa _ (qaa _ hbA)⟩
   | true =>
    rw[e1,a1,e2] at HR;have HR2:Hid _:=HR;clear HR;rw[a1] at HA
    try have ne1:=qao e1
    have be1:=qaj e1;have se1:=qag e1;simp only[Bool.false_eq_true,false_implies,forall_const,true_and] at se1
    try have ne2:=qao e2
    have be2:=qaj e2;have se2:=qag e2;simp only[Bool.true_eq_false,false_implies,forall_const,and_true] at se2;go_enter func139,ntmps139;go_wp2_with (first|(go_at_call_of 85 (Value.string over);refine(HA _).mono ?_;rintro e w1 ⟨rfl,m1,rfl⟩)|(go_at_call_of 85 (Value.string under);refine(HB _).mono ?_;rintro e w1 ⟨rfl,m2,rfl⟩));go_ret;exact⟨by rw[HR2.out];rfl,by first|exact hbA|exact qaa _ hbA|exact qaa _ (qaa _ hbA)⟩
 | true =>
  cases e2:emp under with
  | false =>
   cases a2:lessB key under with
   | false =>
    rw[e1,e2,a2] at HR;have HR2:Hid _:=HR;clear HR;rw[a2] at HB
    try have ne1:=qao e1
    have be1:=qaj e1;have se1:=qag e1;simp only[Bool.true_eq_false,false_implies,forall_const,and_true] at se1
    try have ne2:=qao e2
    have be2:=qaj e2;have se2:=qag e2;simp only[Bool.false_eq_true,false_implies,forall_const,true_and] at se2;go_enter func139,ntmps139;go_wp2_with (first|(go_at_call_of 85 (Value.string over);refine(HA _).mono ?_;rintro e w1 ⟨rfl,m1,rfl⟩)|(go_at_call_of 85 (Value.string under);refine(HB _).mono ?_;rintro e w1 ⟨rfl,m2,rfl⟩));go_ret;exact⟨by rw[HR2.out];rfl,by first|exact hbA|exact qaa _ hbA|exact qaa _ (qaa _ hbA)⟩
   | true =>
    rw[e1,e2,a2] at HR;have HR2:Hid _:=HR;clear HR;rw[a2] at HB
    try have ne1:=qao e1
    have be1:=qaj e1;have se1:=qag e1;simp only[Bool.true_eq_false,false_implies,forall_const,and_true] at se1
    try have ne2:=qao e2
    have be2:=qaj e2;have se2:=qag e2;simp only[Bool.false_eq_true,false_implies,forall_const,true_and] at se2;go_enter func139,ntmps139;go_wp2_with (first|(go_at_call_of 85 (Value.string over);refine(HA _).mono ?_;rintro e w1 ⟨rfl,m1,rfl⟩)|(go_at_call_of 85 (Value.string under);refine(HB _).mono ?_;rintro e w1 ⟨rfl,m2,rfl⟩));go_ret;exact⟨by rw[HR2.out];rfl,by first|exact hbA|exact qaa _ hbA|exact qaa _ (qaa _ hbA)⟩
  | true =>
   rw[e1,e2] at HR;have HR2:Hid _:=HR;clear HR
   try have ne1:=qao e1
   have be1:=qaj e1;have se1:=qag e1;simp only[Bool.true_eq_false,false_implies,forall_const,and_true] at se1
   try have ne2:=qao e2
   have be2:=qaj e2;have se2:=qag e2;simp only[Bool.true_eq_false,false_implies,forall_const,and_true] at se2;go_enter func139,ntmps139;go_wp2_with (first|(go_at_call_of 85 (Value.string over);refine(HA _).mono ?_;rintro e w1 ⟨rfl,m1,rfl⟩)|(go_at_call_of 85 (Value.string under);refine(HB _).mono ?_;rintro e w1 ⟨rfl,m2,rfl⟩));go_ret;exact⟨by rw[HR2.out];rfl,by first|exact hbA|exact qaa _ hbA|exact qaa _ (qaa _ hbA)⟩
theorem subsB_any (b:Nat)(hash over under:ByteArray)(par:Option Addr)(k v l r:ByteArray)(pl pr:Option Addr)(w:World)(h:BF b hash over under par k v l r pl pr w):Calls prog 230 #[.pointer (some ⟨b,0,none⟩)] w λe w'=>e=.returned (.tuple #[.pointer pl,.pointer pr])/\Below w.heap.size w w':=by
 have c8:w.cell? ⟨b,8,none⟩=some (.pointer pl):=ZC h 8;have c9:w.cell? ⟨b,9,none⟩=some (.pointer pr):=ZC h 9;clear h;go_enter func230,ntmps230;go_wp2_with fail;go_region_held3 (λW=>W.cell? ⟨b,8,none⟩=some (.pointer pl)/\W.cell? ⟨b,9,none⟩=some (.pointer pr)) (exact⟨c8,c9⟩) (fail);go_wp2_with fail;go_ret2;exact⟨rfl,(Below.refl _ _).drew⟩
theorem pairB_any (b:Nat)(hash over under:ByteArray)(par:Option Addr)(k v l r:ByteArray)(pl pr:Option Addr)(w:World)(h:BF b hash over under par k v l r pl pr w):Calls prog 151 #[.pointer (some ⟨b,0,none⟩)] w λe w'=>e=.returned (.agg #[.string k,.string v])/\Below w.heap.size w w':=by
 have hlt:=(zG h).1;have hA:=(Below.heap_alloc w (.cells #[.string ⟨#[]⟩,.string ⟨#[]⟩] 81) b hlt).trans h;have c4:(w.alloc (.cells #[.string ⟨#[]⟩,.string ⟨#[]⟩] 81)).cell? ⟨b,4,none⟩=some (.string k):=ZC hA 4;have c5:(w.alloc (.cells #[.string ⟨#[]⟩,.string ⟨#[]⟩] 81)).cell? ⟨b,5,none⟩=some (.string v):=ZC hA 5;have hN:=heap_alloc_new w (.cells #[.string ⟨#[]⟩,.string ⟨#[]⟩] 81);have hb:=bA w (.cells #[.string ⟨#[]⟩,.string ⟨#[]⟩] 81);clear h hA;go_enter func151,ntmps151;go_wp2_with fail;generalize w.alloc (.cells #[.string ⟨#[]⟩,.string ⟨#[]⟩] 81)=W at c4 c5 hN hb⊢;obtain⟨gp,hgp⟩:=eX (w.heap.size);rw[hgp] at hN⊢;have hgl:w.heap.size<=gp:=Nat.le_of_eq hgp;clear hgp;have p0:W.cell? ⟨gp,0,none⟩=some (.string ⟨#[]⟩):=ZC hN 0;have p1:W.cell? ⟨gp,1,none⟩=some (.string ⟨#[]⟩):=ZC hN 1;have fp:=fZ hN;go_region;have hN2:=heap_setCell_same _ gp 1 _ 81 (.string v) (heap_setCell_same _ gp 0 _ 81 (.string k) hN);have hb2:Below w.heap.size w ((W.setCell ⟨gp,0,none⟩ (.string k)).setCell ⟨gp,1,none⟩ (.string v)).drew:=((hb.setCell hgl _).setCell hgl _).drew;have hN3:((W.setCell ⟨gp,0,none⟩ (.string k)).setCell ⟨gp,1,none⟩ (.string v)).drew.heap[gp]?=some (.cells #[.string k,.string v] 81):=hN2;generalize ((W.setCell ⟨gp,0,none⟩ (.string k)).setCell ⟨gp,1,none⟩ (.string v)).drew=W2 at hb2 hN3⊢;have q0:W2.cell? ⟨gp,0,none⟩=some (.string k):=ZC hN3 0;have q1:W2.cell? ⟨gp,1,none⟩=some (.string v):=ZC hN3 1;clear c4 c5 p0 p1 fp hN hN2 hN3;go_wp2_with fail;exact bodyPost_ret (v:=.agg #[.string k,.string v]) (by simp[results,Tryz.results151,go_sem,q0,q1]) rfl ⟨rfl,hb2⟩
theorem goInto_none (lo hi:ByteArray)(w:World):Calls prog 109 #[.agg #[.string lo,.string hi],.pointer none] w λe w'=>e=.returned (.bool false)/\Below w.heap.size w w':=by
 have hb:=bA w (.cells #[.string lo,.string hi] 75);have hN:=heap_alloc_new w (.cells #[.string lo,.string hi] 75);have n0:(w.alloc (.cells #[.string lo,.string hi] 75)).cell? ⟨w.heap.size,0,none⟩=some (.string lo):=ZC hN 0;have n1:(w.alloc (.cells #[.string lo,.string hi] 75)).cell? ⟨w.heap.size,1,none⟩=some (.string hi):=ZC hN 1;have q:∀w',(binOp .neq 166 (.pointer none) (.pointer none)).run prog w'=.ok (.bool false) w':=λw'=>by
  have:=qdg none none w' (.inl rfl) (.inl rfl);simp only[binOp] at this⊢;cases hq:(Op.equal 166 (.pointer none) (.pointer none)).run prog w' <;> simp_all
 clear hN;go_enter func109,ntmps109;go_wp2_with fail;go_quiet (first|fail);go_wp2_with fail;go_ret;exact⟨rfl,qaa _ hb⟩
theorem goInto_some (lo hi:ByteArray)(b:Nat)(hash over under:ByteArray)(par:Option Addr)(w:World)(h:BR b hash over under par w):Calls prog 109 #[.agg #[.string lo,.string hi],.pointer (some ⟨b,0,none⟩)] w λe w'=>e=.returned (.bool (canW over under lo hi))/\Below w.heap.size w w':=by
 have hlt:=(zG h).1;have hA:=(Below.heap_alloc w (.cells #[.string lo,.string hi] 75) b hlt).trans h;have hN:=heap_alloc_new w (.cells #[.string lo,.string hi] 75);have hb:=bA w (.cells #[.string lo,.string hi] 75);have hP:Ptr (some ⟨b,0,none⟩) (w.alloc (.cells #[.string lo,.string hi] 75)):=.inr ⟨b,_,_,rfl,hA⟩;have HC:=λw'=>can_any lo hi over under par w';go_enter func109,ntmps109;go_wp2_with fail;generalize w.alloc (.cells #[.string lo,.string hi] 75)=W at hA hN hb hP⊢;obtain⟨ga,hga⟩:=eX (w.heap.size);rw[hga] at hN⊢;have c1:W.cell? ⟨b,1,none⟩=some (.string over):=ZC hA 1;have c2:W.cell? ⟨b,2,none⟩=some (.string under):=ZC hA 2;have c3:W.cell? ⟨b,3,none⟩=some (.pointer par):=ZC hA 3;have n0:W.cell? ⟨ga,0,none⟩=some (.string lo):=ZC hN 0;have n1:W.cell? ⟨ga,1,none⟩=some (.string hi):=ZC hN 1;have q:(binOp .neq 166 (.pointer (some ⟨b,0,none⟩)) (.pointer none)).run prog W=.ok (.bool true) W:=by
  have:=qdg (some ⟨b,0,none⟩) none W hP (.inl rfl);simp only[binOp] at this⊢;cases hq:(Op.equal 166 (.pointer (some ⟨b,0,none⟩)) (.pointer none)).run prog W <;> simp_all
 have q2:(binOp .neq 166 (.pointer (some ⟨b,0,none⟩)) (.pointer none)).run prog W.drew=.ok (.bool true) W.drew:=by
  have hP2:Ptr (some ⟨b,0,none⟩) W.drew:=.inr ⟨b,_,_,rfl,hA⟩;have:=qdg (some ⟨b,0,none⟩) none W.drew hP2 (.inl rfl);simp only[binOp] at this⊢;cases hq:(Op.equal 166 (.pointer (some ⟨b,0,none⟩)) (.pointer none)).run prog W.drew <;> simp_all
 clear hP hga h;go_region_held3 (λW=>W.cell? ⟨b,1,none⟩=some (.string over)/\W.cell? ⟨b,2,none⟩=some (.string under)/\W.cell? ⟨b,3,none⟩=some (.pointer par)/\W.cell? ⟨ga,0,none⟩=some (.string lo)/\W.cell? ⟨ga,1,none⟩=some (.string hi)) (first|exact⟨c1,c2,c3,n0,n1⟩|exact⟨ZC hA2 1,ZC hA2 2,ZC hA2 3,ZC hN2 0,ZC hN2 1⟩) (first|(go_at_call 142;refine(HC _).mono ?_;rintro e w2 ⟨rfl,hb2⟩;have hA2:=(hb2.block b (zG hA).1).trans hA;have hN2:=(hb2.block ga (zG hN).1).trans hN));go_wp2_with fail;go_ret;exact⟨rfl,hb.trans (((Below.refl W.heap.size W).drew.trans hb2).mono hb.size)⟩
theorem qbE (w:World):Calls prog 141 #[] w λe w'=>e=.returned (.agg #[.int .i64 1,.bool false])/\Below w.heap.size w w':=by
 go_enter func141,ntmps141;go_wp2;have c0:=ZC (heap_alloc_new w (.cells #[.int .i64 1,.bool false] 208)) 0;have c1:=ZC (heap_alloc_new w (.cells #[.int .i64 1,.bool false] 208)) 1;refine bodyPost_ret (v:=.agg #[.int .i64 1,.bool false]) ?_ rfl ⟨rfl,(Below.refl _ _).alloc (Nat.le_refl _) _⟩;simp[results,Tryz.results141,go_sem,asAddr,c0,c1]
theorem wlet (b:Nat)(v:Nat)(x:UInt8)(hx:UInt8.ofNat v=x)(l:List UInt8)(w:World)(h:Bld b l w)(hl:l.length<=9000000)(hv:v<=1000) : Calls prog 223 #[.pointer (some ⟨b,0,none⟩),.iface 208 (.agg #[.int .i64 1,.bool false]),.int .i64 (v:Int)] w λe w'=>e=.returned (.tuple #[])/\Put b (l++[x]) w w':=by
 rw[<-hx];exact wint1 b v l w h hl (by omega)
theorem eput (b:Nat)(l:List UInt8)(w:World)(h:Bld b l w)(hl:l.length<=9000000) : Calls prog 238 #[.agg #[],.pointer (some ⟨b,0,none⟩)] w λe w'=>e=.returned (.tuple #[])/\Put b (l++[69]) w w':=by
 have HW:Hid (∀w',Bld b l w'->Calls prog 223 #[.pointer (some ⟨b,0,none⟩),.iface 208 (.agg #[.int .i64 1,.bool false]),.int .i64 69] w' λe w''=>e=.returned (.tuple #[])/\Put b (l++[69]) w' w''):=λw' h'=>wlet b 69 69 rfl l w' h' hl (by omega);go_enter func238,ntmps238;go_wp2_with (first|(go_at_call 141;refine(qbE _).mono ?_;rintro e w1 ⟨rfl,hb1⟩)|(go_at_call 223;refine(HW.out _ ((h.alloc _).below hb1)).mono ?_;rintro e w2 ⟨rfl,hp2⟩));go_end0;exact⟨rfl,(((Put.refl h).alloc _).below hb1).trans hp2⟩
theorem sput (hash:ByteArray)(b:Nat)(l:List UInt8)(w:World)(h:Bld b l w)(hl:l.length+hash.size<=8000000) : Calls prog 242 #[.agg #[.string hash],.pointer (some ⟨b,0,none⟩)] w λe w'=>e=.returned (.tuple #[])/\Put b (l++83 :: hash.data.toList) w w':=by
 have HW:Hid (∀w',Bld b l w'->Calls prog 223 #[.pointer (some ⟨b,0,none⟩),.iface 208 (.agg #[.int .i64 1,.bool false]),.int .i64 83] w' λe w''=>e=.returned (.tuple #[])/\Put b (l++[83]) w' w''):=λw' h'=>wlet b 83 83 rfl l w' h' (by omega) (by omega);have HX:Hid (∀n w',Bld b (l++[83]) w'->Calls prog 224 #[.pointer (some ⟨b,0,none⟩),.iface 214 (.agg #[.int .i64 n]),.string hash] w' λe w''=>e=.returned (.tuple #[])/\Put b (l++83 :: hash.data.toList) w' w''):=λn w' h'=>by
  have:=wplain n b hash (l++[83]) w' h' (by rw[List.length_append,List.length_singleton];omega)
  rwa [List.append_assoc,List.singleton_append] at this
 have hA:=h.alloc (.cells #[.string hash] 216);have nA:=heap_alloc_new w (.cells #[.string hash] 216);have hne:w.heap.size ≠ b:=by have:=h.lt;omega
 generalize l++83 :: hash.data.toList=L at HX⊢;go_enter func242,ntmps242;go_wp2_with (first|(go_at_call 141;refine(qbE _).mono ?_;rintro e w1 ⟨rfl,hb1⟩)|(go_at_call 223;refine(HW.out _ (hA.below hb1)).mono ?_;rintro e w2 ⟨rfl,hp2⟩;have n2:=hp2.cells (qab hb1 nA) hne (by decide);have c2:=ZC n2 0)|(go_at_call 224;refine(HX.out _ _ hp2.1).mono ?_;rintro e w3 ⟨rfl,hp3⟩));go_end0;exact⟨rfl,((((Put.refl h).alloc _).below hb1).trans hp2).trans hp3⟩
abbrev badP:Ending:=.panicked [{ v:=.iface 205 (.agg #[]),recovered:=false }]
theorem qbN (w:World):Calls prog 93 #[.bool true] w λe w'=>e=.returned (.tuple #[])/\w=w':=by
 go_enter func93,ntmps93;go_wp2;go_end0;exact⟨rfl,rfl⟩
theorem qbZ (w:World):Calls prog 93 #[.bool false] w λe w'=>e=badP/\w=w':=by
 go_enter func93,ntmps93;go_wp2;exact⟨rfl,rfl,rfl⟩
def bAt (s:ByteArray) (a:Nat):Nat:=(s.data.toList.getD a 0).toNat
def PR (q rb:Nat) (wd:Nat) (lo hi:ByteArray) (cnt:Nat) (w:World):Prop:=w.heap[q]?=some (.cells #[.pointer (some ⟨rb,0,none⟩),.int .i64 (wd:Int),.string lo,.string hi,.int .i64 (cnt:Int)] 140)
theorem PR.ne {q rb r wd cnt a:Nat}{lo hi s:ByteArray}{f:Bool}{w:World}(h:PR q rb wd lo hi cnt w)(h2:Rd r s a f w):q ≠ r:=λe=>by
 subst e;unfold PR at h;unfold Rd at h2;rw[h] at h2;simp only[Option.some.injEq,Obj.cells.injEq] at h2;exact absurd h2.2.1 (by decide)
theorem rp_letter_ok (q rb wd:Nat)(lo hi s:ByteArray)(cnt a:Nat)(w:World)(hQ:PR q rb wd lo hi cnt w)(hR:Rd rb s a false w)(hs:s.size<=1300000)(h:a<s.size) : Calls prog 140 #[.pointer (some ⟨q,0,none⟩),.iface 208 (.agg #[.int .i64 1,.bool false])] w λe w'=>e=.returned (.int .i64 (bAt s a:Int))/\Rd rb s (a+1) false w'/\Mv rb w w':=by
 have hne:=hQ.ne hR;have HC:Hid (Calls prog 168 #[.pointer (some ⟨rb,0,none⟩),.iface 208 (.agg #[.int .i64 1,.bool false])] w λe w'=>e=.returned (.int .i64 (bAt s a:Int))/\w'.cell? ⟨q,0,none⟩=some (.pointer (some ⟨rb,0,none⟩))/\w'.cell? ⟨rb,2,none⟩=some (.bool false)/\Rd rb s (a+1) false w'/\Mv rb w w'):=by
  refine(rint1 rb s a false w hR (by omega) hs).mono ?_;rintro e w' ⟨v,t,a',f',rfl,hN,hv,ha',_,hR',hM⟩;rcases hN.out with ⟨_,h1,ht,rfl,rfl⟩|⟨h1,_⟩
  ·refine⟨?_,ZC (hM.cells hQ hne) 0,ZC hR' 2,hR',hM⟩;have hts:t.size=1:=(by rw[ht,ByteArray.size_extract];omega);rw[hv.out,hts,val1,ht];rw[qcN s a 1 0 (by omega)];rfl
  ·exfalso;rcases h1 with h1|h1
   ·cases h1
   ·omega
 have q0:w.cell? ⟨q,0,none⟩=some (.pointer (some ⟨rb,0,none⟩)):=ZC hQ 0;clear hQ hR;go_enter func140,ntmps140;go_wp2_with (first|(go_at_call 168;refine HC.out.mono ?_;rintro e w1 ⟨rfl,q1,r1,hR1,hM1⟩)|(go_at_call 93;refine(qbN _).mono ?_;rintro e w2 ⟨rfl,rfl⟩));go_ret;exact⟨rfl,hR1,hM1⟩
theorem rp_letter_no (q rb wd:Nat)(lo hi s:ByteArray)(cnt a:Nat)(w:World)(hQ:PR q rb wd lo hi cnt w)(hR:Rd rb s a false w)(hs:s.size<=1300000)(ha:a<=s.size)(h:¬ a<s.size) : Calls prog 140 #[.pointer (some ⟨q,0,none⟩),.iface 208 (.agg #[.int .i64 1,.bool false])] w λe w'=>e=badP/\Mv rb w w':=by
 have hne:=hQ.ne hR;have HC:Hid (Calls prog 168 #[.pointer (some ⟨rb,0,none⟩),.iface 208 (.agg #[.int .i64 1,.bool false])] w λe w'=>∃v:Int,e=.returned (.int .i64 v)/\w'.cell? ⟨q,0,none⟩=some (.pointer (some ⟨rb,0,none⟩))/\w'.cell? ⟨rb,2,none⟩=some (.bool true)/\Mv rb w w'):=by
  refine(rint1 rb s a false w hR ha hs).mono ?_;rintro e w' ⟨v,t,a',f',rfl,hN,hv,ha',_,hR',hM⟩;rcases hN.out with ⟨_,h1,ht,rfl,rfl⟩|⟨h1,_,_,rfl⟩
  ·exfalso;omega
  ·exact⟨v,rfl,ZC (hM.cells hQ hne) 0,ZC hR' 2,hM⟩
 have q0:w.cell? ⟨q,0,none⟩=some (.pointer (some ⟨rb,0,none⟩)):=ZC hQ 0;clear hQ hR;go_enter func140,ntmps140;go_wp2_with (first|(go_at_call 168;refine HC.out.mono ?_;rintro e w1 ⟨v1,rfl,q1,r1,hM1⟩)|(go_at_call 93;refine(qbZ _).mono ?_;rintro e w2 ⟨rfl,rfl⟩));exact⟨rfl,rfl,hM1⟩
theorem rp_plain_ok (n:Nat)(hn:n<=32)(q rb wd:Nat)(lo hi s:ByteArray)(cnt a:Nat)(w:World)(hQ:PR q rb wd lo hi cnt w)(hR:Rd rb s a false w)(hs:s.size<=1300000)(h:a+n<=s.size) : Calls prog 143 #[.pointer (some ⟨q,0,none⟩),.iface 214 (.agg #[.int .i64 (n:Int)])] w λe w'=>e=.returned (.string (s.extract a (a+n)))/\Rd rb s (a+n) false w'/\Mv rb w w':=by
 have hne:=hQ.ne hR;have HC:Hid (Calls prog 169 #[.pointer (some ⟨rb,0,none⟩),.iface 214 (.agg #[.int .i64 (n:Int)])] w λe w'=>e=.returned (.string (s.extract a (a+n)))/\w'.cell? ⟨q,0,none⟩=some (.pointer (some ⟨rb,0,none⟩))/\w'.cell? ⟨rb,2,none⟩=some (.bool false)/\Rd rb s (a+n) false w'/\Mv rb w w'):=by
  refine(rplain n rb s a false w hR (by omega) hs (by omega)).mono ?_;rintro e w' ⟨t,a',f',rfl,hN,ha',_,hR',hM⟩;rcases hN.out with ⟨_,h1,ht,rfl,rfl⟩|⟨h1,_⟩
  ·exact⟨by rw[ht],ZC (hM.cells hQ hne) 0,ZC hR' 2,hR',hM⟩
  ·exfalso;rcases h1 with h1|h1
   ·cases h1
   ·omega
 have q0:w.cell? ⟨q,0,none⟩=some (.pointer (some ⟨rb,0,none⟩)):=ZC hQ 0;generalize s.extract a (a+n)=X at HC⊢;clear hQ hR h;go_enter func143,ntmps143;go_wp2_with (first|(go_at_call 169;refine HC.out.mono ?_;rintro e w1 ⟨rfl,q1,r1,hR1,hM1⟩)|(go_at_call 93;refine(qbN _).mono ?_;rintro e w2 ⟨rfl,rfl⟩));go_ret;exact⟨rfl,hR1,hM1⟩
theorem rp_plain_no (n:Nat)(hn:n<=32)(q rb wd:Nat)(lo hi s:ByteArray)(cnt a:Nat)(w:World)(hQ:PR q rb wd lo hi cnt w)(hR:Rd rb s a false w)(hs:s.size<=1300000)(ha:a<=s.size)(h:¬ a+n<=s.size) : Calls prog 143 #[.pointer (some ⟨q,0,none⟩),.iface 214 (.agg #[.int .i64 (n:Int)])] w λe w'=>e=badP/\Mv rb w w':=by
 have hne:=hQ.ne hR;have HC:Hid (Calls prog 169 #[.pointer (some ⟨rb,0,none⟩),.iface 214 (.agg #[.int .i64 (n:Int)])] w λe w'=>∃X,e=.returned (.string X)/\w'.cell? ⟨q,0,none⟩=some (.pointer (some ⟨rb,0,none⟩))/\w'.cell? ⟨rb,2,none⟩=some (.bool true)/\Mv rb w w'):=by
  refine(rplain n rb s a false w hR ha hs (by omega)).mono ?_;rintro e w' ⟨t,a',f',rfl,hN,ha',_,hR',hM⟩;rcases hN.out with ⟨_,h1,ht,rfl,rfl⟩|⟨h1,_,_,rfl⟩
  ·exfalso;omega
  ·exact⟨t,rfl,ZC (hM.cells hQ hne) 0,ZC hR' 2,hM⟩
 have q0:w.cell? ⟨q,0,none⟩=some (.pointer (some ⟨rb,0,none⟩)):=ZC hQ 0;clear hQ hR h;go_enter func143,ntmps143;go_wp2_with (first|(go_at_call 169;refine HC.out.mono ?_;rintro e w1 ⟨X,rfl,q1,r1,hM1⟩)|(go_at_call 93;refine(qbZ _).mono ?_;rintro e w2 ⟨rfl,rfl⟩));exact⟨rfl,rfl,hM1⟩
theorem rp_sized_ok (q rb wd:Nat)(lo hi s:ByteArray)(cnt a:Nat)(w:World)(hQ:PR q rb wd lo hi cnt w)(hR:Rd rb s a false w)(hs:s.size<=1300000)(h:pieceOk s a) : Calls prog 143 #[.pointer (some ⟨q,0,none⟩),.iface 261 (.agg #[.int .i64 2,.bool false])] w λe w'=>e=.returned (.string (s.extract (a+2) (a+2+szAt s a)))/\Rd rb s (a+2+szAt s a) false w'/\Mv rb w w':=by
 have hne:=hQ.ne hR;have HC:Hid (Calls prog 169 #[.pointer (some ⟨rb,0,none⟩),.iface 261 (.agg #[.int .i64 2,.bool false])] w λe w'=>e=.returned (.string (s.extract (a+2) (a+2+szAt s a)))/\w'.cell? ⟨q,0,none⟩=some (.pointer (some ⟨rb,0,none⟩))/\w'.cell? ⟨rb,2,none⟩=some (.bool false)/\Rd rb s (a+2+szAt s a) false w'/\Mv rb w w'):=by
  refine(rsized2 rb s a false w hR (by have:=h.1;omega) hs).mono ?_;rintro e w' ⟨t,a',f',rfl,hN,ha',_,hR',hM⟩;rcases SX2 hN.out with ⟨_,h1,ht,rfl,rfl⟩|⟨h1,_⟩
  ·exact⟨by rw[ht],ZC (hM.cells hQ hne) 0,ZC hR' 2,hR',hM⟩
  ·exfalso;rcases h1 with h1|h1
   ·cases h1
   ·exact h1 h
 have q0:w.cell? ⟨q,0,none⟩=some (.pointer (some ⟨rb,0,none⟩)):=ZC hQ 0;generalize s.extract (a+2) (a+2+szAt s a)=X at HC⊢;generalize a+2+szAt s a=a2 at HC⊢;clear hQ hR h;go_enter func143,ntmps143;go_wp2_with (first|(go_at_call 169;refine HC.out.mono ?_;rintro e w1 ⟨rfl,q1,r1,hR1,hM1⟩)|(go_at_call 93;refine(qbN _).mono ?_;rintro e w2 ⟨rfl,rfl⟩));go_ret;exact⟨rfl,hR1,hM1⟩
theorem rp_sized_no (q rb wd:Nat)(lo hi s:ByteArray)(cnt a:Nat)(w:World)(hQ:PR q rb wd lo hi cnt w)(hR:Rd rb s a false w)(hs:s.size<=1300000)(ha:a<=s.size)(h:¬ pieceOk s a) : Calls prog 143 #[.pointer (some ⟨q,0,none⟩),.iface 261 (.agg #[.int .i64 2,.bool false])] w λe w'=>e=badP/\Mv rb w w':=by
 have hne:=hQ.ne hR;have HC:Hid (Calls prog 169 #[.pointer (some ⟨rb,0,none⟩),.iface 261 (.agg #[.int .i64 2,.bool false])] w λe w'=>∃X,e=.returned (.string X)/\w'.cell? ⟨q,0,none⟩=some (.pointer (some ⟨rb,0,none⟩))/\w'.cell? ⟨rb,2,none⟩=some (.bool true)/\Mv rb w w'):=by
  refine(rsized2 rb s a false w hR ha hs).mono ?_;rintro e w' ⟨t,a',f',rfl,hN,ha',_,hR',hM⟩;rcases SX2 hN.out with ⟨_,h1,ht,rfl,rfl⟩|⟨h1,rfl⟩
  ·exact absurd h1 h
  ·exact⟨t,rfl,ZC (hM.cells hQ hne) 0,ZC hR' 2,hM⟩
 have q0:w.cell? ⟨q,0,none⟩=some (.pointer (some ⟨rb,0,none⟩)):=ZC hQ 0;clear hQ hR h;go_enter func143,ntmps143;go_wp2_with (first|(go_at_call 169;refine HC.out.mono ?_;rintro e w1 ⟨X,rfl,q1,r1,hM1⟩)|(go_at_call 93;refine(qbZ _).mono ?_;rintro e w2 ⟨rfl,rfl⟩));exact⟨rfl,rfl,hM1⟩
end Go.Proofs.YtibjhkpgaaapaaaGreatDoor
