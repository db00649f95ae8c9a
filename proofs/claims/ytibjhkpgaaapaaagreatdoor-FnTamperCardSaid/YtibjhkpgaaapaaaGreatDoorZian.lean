import Derived.Test.YtibjhkpgaaapaaaGreatDoorZiai
import Derived.Test.YtibjhkpgaaapaaaGreatDoorZiab
import Derived.Deep.Cut
import Derived.Deep.RegionHeld3
import Derived.Lib.Builder
import Derived.Deep.QuietTactic
import Derived.BigQuiet
import Derived.Test.YtibjhkpgaaapaaaGreatDoorZiaf
import Derived.Test.YtibjhkpgaaapaaaGreatDoorZiaa
set_option maxRecDepth 100000
set_option maxHeartbeats 2000000
namespace Go.Proofs.YtibjhkpgaaapaaaGreatDoor
open Go.RowKit Go.Proofs.Sha Tryz
abbrev FN:=(ByteArray × ByteArray × ByteArray × ByteArray) × Int
structure FndOk (wd:Nat) (fnd:ByteArray->FN):Prop where
 code:∀h,(fnd h).2=0\/(fnd h).2=2\/(fnd h).2=3
 node:∀h,(fnd h).2=0->okKey (fnd h).1.1=true/\okVal (fnd h).1.2.1=true/\((fnd h).1.2.2.1.size=0\/(fnd h).1.2.2.1.size=wd)/\((fnd h).1.2.2.2.size=0\/(fnd h).1.2.2.2.size=wd)
def lessB (a b:ByteArray):Bool:=Op.bytesLess a.toList b.toList
def emp (a:ByteArray):Bool:=decide (a.size=0)
def canW (over under lo hi:ByteArray):Bool:=(emp hi || (lessB lo hi && lessB over hi)) && (emp under || lessB lo under)
def insW (over under k:ByteArray):Bool:=lessB over k && (emp under || lessB k under)
def hasW (lo hi k:ByteArray):Bool:=!lessB k lo && (emp hi || lessB k hi)
def parW (hg:ByteArray->ByteArray->Bool) (par k:ByteArray):Bool:=emp par || hg par k
def goF (fnd:ByteArray->FN) (hg:ByteArray->ByteArray->Bool) (lo hi:ByteArray):Nat->ByteArray->ByteArray->ByteArray->ByteArray->Nat->Int × Nat × List PairT
 | 0,_,_,_,_,_=>(9,0,[])
 | f+1,hash,over,under,par,cnt =>
  if (emp hash || !canW over under lo hi)=true then (0,cnt,[]) else
  if (fnd hash).2=2 then (2,0,[]) else
  if (fnd hash).2 ≠ 0 then (3,0,[]) else
  if (insW over under (fnd hash).1.1 && parW hg par (fnd hash).1.1)=false then (3,0,[]) else
  if 500<cnt+1 then (6,0,[]) else
  if (goF fnd hg lo hi f (fnd hash).1.2.2.1 over (fnd hash).1.1 (fnd hash).1.1 (cnt+1)).1 ≠ 0 then ((goF fnd hg lo hi f (fnd hash).1.2.2.1 over (fnd hash).1.1 (fnd hash).1.1 (cnt+1)).1,0,[]) else
  if (goF fnd hg lo hi f (fnd hash).1.2.2.2 (fnd hash).1.1 under (fnd hash).1.1 (goF fnd hg lo hi f (fnd hash).1.2.2.1 over (fnd hash).1.1 (fnd hash).1.1 (cnt+1)).2.1).1 ≠ 0 then ((goF fnd hg lo hi f (fnd hash).1.2.2.2 (fnd hash).1.1 under (fnd hash).1.1 (goF fnd hg lo hi f (fnd hash).1.2.2.1 over (fnd hash).1.1 (fnd hash).1.1 (cnt+1)).2.1).1,0,[]) else
  (0,(goF fnd hg lo hi f (fnd hash).1.2.2.2 (fnd hash).1.1 under (fnd hash).1.1 (goF fnd hg lo hi f (fnd hash).1.2.2.1 over (fnd hash).1.1 (fnd hash).1.1 (cnt+1)).2.1).2.1,
   (goF fnd hg lo hi f (fnd hash).1.2.2.1 over (fnd hash).1.1 (fnd hash).1.1 (cnt+1)).2.2++(if hasW lo hi (fnd hash).1.1=true then [((fnd hash).1.1,(fnd hash).1.2.1)] else []) ++
   (goF fnd hg lo hi f (fnd hash).1.2.2.2 (fnd hash).1.1 under (fnd hash).1.1 (goF fnd hg lo hi f (fnd hash).1.2.2.1 over (fnd hash).1.1 (fnd hash).1.1 (cnt+1)).2.1).2.2)
section
variable {fnd:ByteArray->FN} {hg:ByteArray->ByteArray->Bool} {lo hi:ByteArray}
theorem qaQ {f:Nat}{hash over under par:ByteArray}{cnt:Nat}(h:(emp hash || !canW over under lo hi)=true):goF fnd hg lo hi (f+1) hash over under par cnt=(0,cnt,[]):=by rw[goF,if_pos h]
theorem qbm {f:Nat}{hash over under par:ByteArray}{cnt:Nat}(h:(emp hash || !canW over under lo hi)=false)(h2:(fnd hash).2=2):goF fnd hg lo hi (f+1) hash over under par cnt=(2,0,[]):=by rw[goF,if_neg (by rw[h];decide),if_pos h2]
theorem goF_corrupt {f:Nat}{hash over under par:ByteArray}{cnt:Nat}(h:(emp hash || !canW over under lo hi)=false)(h2:(fnd hash).2=3):goF fnd hg lo hi (f+1) hash over under par cnt=(3,0,[]):=by rw[goF,if_neg (by rw[h];decide),if_neg (by rw[h2];decide),if_pos (by rw[h2];decide)]
theorem qbD {f:Nat}{hash over under par:ByteArray}{cnt:Nat}(h:(emp hash || !canW over under lo hi)=false)(h2:(fnd hash).2=0)(h3:(insW over under (fnd hash).1.1 && parW hg par (fnd hash).1.1)=false):goF fnd hg lo hi (f+1) hash over under par cnt=(3,0,[]):=by
 rw[goF,if_neg (by rw[h];decide),if_neg (by rw[h2];decide),if_neg (by rw[h2];decide),if_pos h3]
theorem qdf {f:Nat}{hash over under par:ByteArray}{cnt:Nat}(h:(emp hash || !canW over under lo hi)=false)(h2:(fnd hash).2=0)(h3:(insW over under (fnd hash).1.1 && parW hg par (fnd hash).1.1)=true)(h4:500<cnt+1):goF fnd hg lo hi (f+1) hash over under par cnt=(6,0,[]):=by
 rw[goF,if_neg (by rw[h];decide),if_neg (by rw[h2];decide),if_neg (by rw[h2];decide),if_neg (by rw[h3];decide),if_pos h4]
theorem qbc {f:Nat}{hash over under par:ByteArray}{cnt:Nat}{k v l r:ByteArray}(h:(emp hash || !canW over under lo hi)=false)(h2:fnd hash=((k,v,l,r),0))(h3:(insW over under k && parW hg par k)=true)(h4:cnt+1<=500){L R:Int × Nat × List PairT}(hL:goF fnd hg lo hi f l over k k (cnt+1)=L)(hR:goF fnd hg lo hi f r k under k L.2.1=R) : goF fnd hg lo hi (f+1) hash over under par cnt=if L.1 ≠ 0 then (L.1,0,[]) else if R.1 ≠ 0 then (R.1,0,[]) else (0,R.2.1,L.2.2++(if hasW lo hi k=true then [(k,v)] else [])++R.2.2):=by
 rw[goF,h2];simp only[hL,hR];rw[if_neg (by rw[h];decide),if_neg (by decide),if_neg (by simp),if_neg (by rw[h3];decide),if_neg (by omega)]
theorem qbo:∀ (f:Nat) (hash over under par:ByteArray) (cnt:Nat),cnt<=500->(goF fnd hg lo hi f hash over under par cnt).1=0->cnt<=(goF fnd hg lo hi f hash over under par cnt).2.1/\(goF fnd hg lo hi f hash over under par cnt).2.1<=500
 | 0,_,_,_,_,_,_,h=>by rw[goF] at h;exact absurd h (by decide)
 | f+1,hash,over,under,par,cnt,hc,h=>by
  cases h1:(emp hash || !canW over under lo hi) with
  | true=>rw[qaQ h1] at h⊢;exact⟨Nat.le_refl _,hc⟩
  | false =>
   by_cases h2:(fnd hash).2=2
   ·rw[qbm h1 h2] at h;exact absurd h (by decide)
   ·by_cases h20:(fnd hash).2=0
    ·cases h3:(insW over under (fnd hash).1.1 && parW hg par (fnd hash).1.1) with
     | false=>rw[qbD h1 h20 h3] at h;exact absurd h (by decide)
     | true =>
      by_cases h4:500<cnt+1
      ·rw[qdf h1 h20 h3 h4] at h;exact absurd h (by decide)
      ·have e:fnd hash=(((fnd hash).1.1,(fnd hash).1.2.1,(fnd hash).1.2.2.1,(fnd hash).1.2.2.2),0):=by rw[<-h20]
       rw[qbc h1 e h3 (by omega) rfl rfl] at h⊢
       have il:=qbo f (fnd hash).1.2.2.1 over (fnd hash).1.1 (fnd hash).1.1 (cnt+1) (by omega)
       split at h
       ·rename_i q;exact absurd h q
       ·rename_i q
        have il:=il (by simpa using q)
        split at h
        ·rename_i q2;exact absurd h q2
        ·rename_i q2
         have ir:=qbo f (fnd hash).1.2.2.2 (fnd hash).1.1 under (fnd hash).1.1 _ il.2 (by simpa using q2)
         rw[if_neg q,if_neg q2]
         exact⟨Nat.le_trans (Nat.le_trans (Nat.le_succ _) il.1) ir.1,ir.2⟩
    ·rw[goF,if_neg (by rw[h1];decide),if_neg h2,if_pos h20] at h;exact absurd h (by decide)
end
def BR (b:Nat) (hash over under:ByteArray) (par:Option Addr) (w:World):Prop:=w.heap[b]?=some (.cells #[.string hash,.string over,.string under,.pointer par,.string ⟨#[]⟩,.string ⟨#[]⟩,.string ⟨#[]⟩,.string ⟨#[]⟩,.pointer none,.pointer none] 225)
def BF (b:Nat) (hash over under:ByteArray) (par:Option Addr) (k v l r:ByteArray) (pl pr:Option Addr) (w:World):Prop:=w.heap[b]?=some (.cells #[.string hash,.string over,.string under,.pointer par,.string k,.string v,.string l,.string r,.pointer pl,.pointer pr] 225)
theorem qcf (s:ByteArray):s.toList.isEmpty=emp s:=by
 rw[ByteArray.toList_eq];unfold emp;by_cases h:s.size=0
 ·rw[decide_eq_true h];have:s.data.toList.length=0:=h;rw[List.length_eq_zero_iff.1 this];rfl
 ·rw[decide_eq_false h];have:s.data.toList.length ≠ 0:=h;cases hs:s.data.toList with
  | nil=>rw[hs] at this;exact absurd rfl this
  | cons a b=>rfl
theorem branchAt_none (over under:ByteArray)(par:Option Addr)(w:World):Calls prog 148 #[.string ⟨#[]⟩,.agg #[.string over,.string under,.pointer par]] w λe w'=>e=.returned (.pointer none)/\Below w.heap.size w w':=by
 have hb:=bA w (.cells #[.string over,.string under,.pointer par] 144);go_enter func148,ntmps148;go_wp2_with fail;go_ret;exact⟨rfl,hb⟩
theorem branchAt_some (hash over under:ByteArray)(par:Option Addr)(w:World)(hn:emp hash=false):Calls prog 148 #[.string hash,.agg #[.string over,.string under,.pointer par]] w λe w'=>(∃b,e=.returned (.pointer (some ⟨b,0,none⟩))/\w.heap.size<=b/\BR b hash over under par w')/\Below w.heap.size w w':=by
 have hz:hash.toList.isEmpty=false:=(qcf hash).trans hn;have hb:Below w.heap.size w ((w.alloc (.cells #[.string over,.string under,.pointer par] 144)).alloc (.cells #[.string hash,.string over,.string under,.pointer par,.string ⟨#[]⟩,.string ⟨#[]⟩,.string ⟨#[]⟩,.string ⟨#[]⟩,.pointer none,.pointer none] 225)):=((Below.refl _ _).alloc (Nat.le_refl _) _).alloc (by simp) _;have nA:=heap_alloc_new (w.alloc (.cells #[.string over,.string under,.pointer par] 144)) (.cells #[.string hash,.string over,.string under,.pointer par,.string ⟨#[]⟩,.string ⟨#[]⟩,.string ⟨#[]⟩,.string ⟨#[]⟩,.pointer none,.pointer none] 225);rw[World.size_alloc] at nA;go_enter func148,ntmps148;go_wp2_with fail;go_ret;exact⟨⟨w.heap.size+1,rfl,by omega,nA⟩,hb⟩
def rkL (k:ByteArray):List Value:=(sha k.data.toList).map B++[Value.string k]
theorem qdm (k:ByteArray):(rkL k).length=33:=by unfold rkL;rw[List.length_append,List.length_map];unfold sha;rw[qar];rfl
theorem rkL_last (k:ByteArray):(rkL k)[32]?=some (.string k):=by
 unfold rkL;have:((sha k.data.toList).map B).length=32:=by rw[List.length_map];unfold sha;rw[qar]
 rw[List.getElem?_append_right (by omega),this];rfl
def RKb (g:Nat) (k:ByteArray) (w:World):Prop:=w.heap[g]?=some (.cells (rkL k).toArray 249)
theorem RKb.c32 {g:Nat}{k:ByteArray}{w:World}(h:RKb g k w):w.cell? ⟨g,32,none⟩=some (.string k):=(ZC h 32).trans (by simpa using rkL_last k)
theorem RKb.range {g:Nat}{k:ByteArray}{w:World}(h:RKb g k w):w.rangeAt g 0 (rkL k):=λj u hj=>(ZC h (0+j)).trans (by simpa using hj)
theorem leftOf_any (over under key:ByteArray)(par:Option Addr)(w:World):Calls prog 172 #[.agg #[.string over,.string under,.pointer par],.agg (rkL key).toArray] w λe w'=>(∃g,e=.returned (.agg #[.string over,.string key,.pointer (some ⟨g,0,none⟩)])/\w.heap.size<=g/\RKb g key w')/\Below w.heap.size w w':=by
 obtain⟨W,hW⟩:=eX ((w.alloc (.cells #[.string over,.string under,.pointer par] 144)).alloc (.cells (rkL key).toArray 249));have hb:Below w.heap.size w W:=by rw[<-hW];exact((Below.refl _ _).alloc (Nat.le_refl _) _).alloc (by simp) _
 have n0:W.heap[w.heap.size]?=some (.cells #[.string over,.string under,.pointer par] 144):=by rw[<-hW,Below.heap_alloc _ _ _ (by simp)];exact heap_alloc_new w _
 have n1:W.heap[w.heap.size+1]?=some (.cells (rkL key).toArray 249):=by
  have:=heap_alloc_new (w.alloc (.cells #[.string over,.string under,.pointer par] 144)) (.cells (rkL key).toArray 249);rw[<-hW];simpa using this
 have hsz:W.heap.size=w.heap.size+1+1:=by rw[<-hW];simp
 have ca:W.cell? ⟨w.heap.size,0,none⟩=some (.string over):=ZC n0 0;have cb:W.cell? ⟨w.heap.size+1,32,none⟩=some (.string key):=RKb.c32 n1;have hbz:Below w.heap.size w (W.alloc (.cells #[.string over,.string key,.pointer (some ⟨w.heap.size+1,0,none⟩)] 144)):=hb.alloc hb.size _;have nz:RKb (w.heap.size+1) key (W.alloc (.cells #[.string over,.string key,.pointer (some ⟨w.heap.size+1,0,none⟩)] 144)):=(Below.heap_alloc W _ _ (by omega)).trans n1;have nR:=heap_alloc_new W (.cells #[.string over,.string key,.pointer (some ⟨w.heap.size+1,0,none⟩)] 144);rw[hsz] at nR;generalize (rkL key).toArray=cs at hW n1;obtain⟨ga,hga⟩:=eX (w.heap.size);go_enter func172,ntmps172;rw[hga] at ca cb hsz hbz nz nR;have q0:=ZC nR 0;have q1:=ZC nR 1;have q2:=ZC nR 2;go_wp2_with fail;exact bodyPost_ret (v:=.agg #[.string over,.string key,.pointer (some ⟨ga+1,0,none⟩)]) (by simp[results,Tryz.results172,go_sem,q0,q1,q2]) rfl ⟨⟨ga+1,rfl,by omega,nz⟩,by rw[hga];exact hbz⟩
theorem rightOf_any (over under key:ByteArray)(par:Option Addr)(w:World):Calls prog 173 #[.agg #[.string over,.string under,.pointer par],.agg (rkL key).toArray] w λe w'=>(∃g,e=.returned (.agg #[.string key,.string under,.pointer (some ⟨g,0,none⟩)])/\w.heap.size<=g/\RKb g key w')/\Below w.heap.size w w':=by
 obtain⟨W,hW⟩:=eX ((w.alloc (.cells #[.string over,.string under,.pointer par] 144)).alloc (.cells (rkL key).toArray 249));have hb:Below w.heap.size w W:=by rw[<-hW];exact((Below.refl _ _).alloc (Nat.le_refl _) _).alloc (by simp) _
 have n0:W.heap[w.heap.size]?=some (.cells #[.string over,.string under,.pointer par] 144):=by rw[<-hW,Below.heap_alloc _ _ _ (by simp)];exact heap_alloc_new w _
 have n1:W.heap[w.heap.size+1]?=some (.cells (rkL key).toArray 249):=by
  have:=heap_alloc_new (w.alloc (.cells #[.string over,.string under,.pointer par] 144)) (.cells (rkL key).toArray 249);rw[<-hW];simpa using this
 have hsz:W.heap.size=w.heap.size+1+1:=by rw[<-hW];simp
 have ca:W.cell? ⟨w.heap.size,1,none⟩=some (.string under):=ZC n0 1;have cb:W.cell? ⟨w.heap.size+1,32,none⟩=some (.string key):=RKb.c32 n1;have hbz:Below w.heap.size w (W.alloc (.cells #[.string key,.string under,.pointer (some ⟨w.heap.size+1,0,none⟩)] 144)):=hb.alloc hb.size _;have nz:RKb (w.heap.size+1) key (W.alloc (.cells #[.string key,.string under,.pointer (some ⟨w.heap.size+1,0,none⟩)] 144)):=(Below.heap_alloc W _ _ (by omega)).trans n1;have nR:=heap_alloc_new W (.cells #[.string key,.string under,.pointer (some ⟨w.heap.size+1,0,none⟩)] 144);rw[hsz] at nR;generalize (rkL key).toArray=cs at hW n1;obtain⟨ga,hga⟩:=eX (w.heap.size);go_enter func173,ntmps173;rw[hga] at ca cb hsz hbz nz nR;have q0:=ZC nR 0;have q1:=ZC nR 1;have q2:=ZC nR 2;go_wp2_with fail;exact bodyPost_ret (v:=.agg #[.string key,.string under,.pointer (some ⟨ga+1,0,none⟩)]) (by simp[results,Tryz.results173,go_sem,q0,q1,q2]) rfl ⟨⟨ga+1,rfl,by omega,nz⟩,by rw[hga];exact hbz⟩
theorem qbk (a b:ByteArray):lessB a b = !(lessB b a || (b.toList == a.toList)):=qcq _ _
theorem canW_eq (over under lo hi:ByteArray):canW over under lo hi=(if (!hi.toList.isEmpty && ((Op.bytesLess hi.toList lo.toList || (hi.toList == lo.toList)) || (Op.bytesLess hi.toList over.toList || (hi.toList == over.toList))))=true then false else (under.toList.isEmpty || (!Op.bytesLess under.toList lo.toList && !(under.toList == lo.toList)))):=by
 unfold canW;rw[qbk lo hi,qbk over hi,qbk lo under,qcf,qcf];unfold lessB;cases emp hi <;> cases emp under <;> cases Op.bytesLess hi.toList lo.toList <;> cases (hi.toList == lo.toList) <;> cases Op.bytesLess hi.toList over.toList <;> cases (hi.toList == over.toList) <;> simp
theorem hasW_eq (lo hi key:ByteArray):hasW lo hi key=((Op.bytesLess lo.toList key.toList || (lo.toList == key.toList)) && (hi.toList.isEmpty || Op.bytesLess key.toList hi.toList)):=by
 unfold hasW;rw[qbk key lo,qcf];unfold lessB;simp
theorem can_any (lo hi over under:ByteArray)(par:Option Addr)(w:World):Calls prog 142 #[.agg #[.string lo,.string hi],.agg #[.string over,.string under,.pointer par]] w λe w'=>e=.returned (.bool (canW over under lo hi))/\Below w.heap.size w w':=by
 have hb:Below w.heap.size w ((w.alloc (.cells #[.string lo,.string hi] 75)).alloc (.cells #[.string over,.string under,.pointer par] 144)):=((Below.refl _ _).alloc (Nat.le_refl _) _).alloc (by simp) _;have HR:=canW_eq over under lo hi;cases h1:hi.toList.isEmpty with
 | false =>
  cases a1:Op.bytesLess hi.toList lo.toList with
  | false =>
   cases a2:(hi.toList == lo.toList) with
   | false =>
    cases a3:Op.bytesLess hi.toList over.toList with
    | false =>
     cases a4:(hi.toList == over.toList) with
     | false =>
      cases h2:under.toList.isEmpty with
      | false =>
       rw[h1,a1,a2,a3,a4,h2] at HR;have HR2:Hid _:=HR;clear HR;go_enter func142,ntmps142;go_wp2_with fail;go_ret;exact⟨by rw[HR2.out];rfl,hb⟩
      | true =>
       rw[h1,a1,a2,a3,a4,h2] at HR;have HR2:Hid _:=HR;clear HR;go_enter func142,ntmps142;go_wp2_with fail;go_ret;exact⟨by rw[HR2.out];rfl,hb⟩
     | true =>
      rw[h1,a1,a2,a3,a4] at HR;have HR2:Hid _:=HR;clear HR;go_enter func142,ntmps142;go_wp2_with fail;go_ret;exact⟨by rw[HR2.out];rfl,hb⟩
    | true =>
     rw[h1,a1,a2,a3] at HR;have HR2:Hid _:=HR;clear HR;go_enter func142,ntmps142;go_wp2_with fail;go_ret;exact⟨by rw[HR2.out];rfl,hb⟩
   | true =>
    rw[h1,a1,a2] at HR;have HR2:Hid _:=HR;clear HR;go_enter func142,ntmps142;go_wp2_with fail;go_ret;exact⟨by rw[HR2.out];rfl,hb⟩
  | true =>
   rw[h1,a1] at HR;have HR2:Hid _:=HR;clear HR;go_enter func142,ntmps142;go_wp2_with fail;go_ret;exact⟨by rw[HR2.out];rfl,hb⟩
 | true =>
  cases h2:under.toList.isEmpty with
  | false =>
   rw[h1,h2] at HR;have HR2:Hid _:=HR;clear HR;go_enter func142,ntmps142;go_wp2_with fail;go_ret;exact⟨by rw[HR2.out];rfl,hb⟩
  | true =>
   rw[h1,h2] at HR;have HR2:Hid _:=HR;clear HR;go_enter func142,ntmps142;go_wp2_with fail;go_ret;exact⟨by rw[HR2.out];rfl,hb⟩
theorem has_any (lo hi key:ByteArray)(w:World):Calls prog 101 #[.agg #[.string lo,.string hi],.string key] w λe w'=>e=.returned (.bool (hasW lo hi key))/\Below w.heap.size w w':=by
 have hb:=bA w (.cells #[.string lo,.string hi] 75);have HR:=hasW_eq lo hi key;cases a1:Op.bytesLess lo.toList key.toList with
 | false =>
  cases a2:(lo.toList == key.toList) with
  | false =>
   rw[a1,a2] at HR;have HR2:Hid _:=HR;clear HR;go_enter func101,ntmps101;go_wp2_with fail;go_ret;exact⟨by rw[HR2.out];rfl,hb⟩
  | true =>
   cases h1:hi.toList.isEmpty with
   | false =>
    rw[a1,a2,h1] at HR;have HR2:Hid _:=HR;clear HR;go_enter func101,ntmps101;go_wp2_with fail;go_ret;exact⟨by rw[HR2.out];rfl,hb⟩
   | true =>
    rw[a1,a2,h1] at HR;have HR2:Hid _:=HR;clear HR;go_enter func101,ntmps101;go_wp2_with fail;go_ret;exact⟨by rw[HR2.out];rfl,hb⟩
 | true =>
  cases h1:hi.toList.isEmpty with
  | false =>
   rw[a1,h1] at HR;have HR2:Hid _:=HR;clear HR;go_enter func101,ntmps101;go_wp2_with fail;go_ret;exact⟨by rw[HR2.out];rfl,hb⟩
  | true =>
   rw[a1,h1] at HR;have HR2:Hid _:=HR;clear HR;go_enter func101,ntmps101;go_wp2_with fail;go_ret;exact⟨by rw[HR2.out];rfl,hb⟩
def Ptr (p:Option Addr) (w:World):Prop:=p=none\/∃ (x:Nat) (cs:Array Value) (u:TypeId),p=some ⟨x,0,none⟩/\w.heap[x]?=some (.cells cs u (0,0))
theorem size125:(prog.info? 249).map (·.size)=some 33:=by kernel_rfl
theorem size75:(prog.info? 225).map (·.size)=some 10:=by kernel_rfl
theorem ptr_eqlR (a b:Option Addr)(w:World)(ha:Ptr a w)(hb:Ptr b w):(binOp .eql 142 (.pointer a) (.pointer b)).run prog w=.ok (.bool (decide (a=b))) w:=by
 obtain⟨j,h1,h2⟩:=Option.map_eq_some_iff.1 size125;exact qbT 142 249 j Tryz.underlying142 h1 (by rw[h2];decide) a b w ha hb
theorem qdg (a b:Option Addr)(w:World)(ha:Ptr a w)(hb:Ptr b w):(binOp .eql 166 (.pointer a) (.pointer b)).run prog w=.ok (.bool (decide (a=b))) w:=by
 obtain⟨j,h1,h2⟩:=Option.map_eq_some_iff.1 size75;exact qbT 166 225 j Tryz.underlying166 h1 (by rw[h2];decide) a b w ha hb
def hgW (a b:ByteArray):Bool:=rk (sha a.data.toList) (sha b.data.toList) a.data.toList b.data.toList
def ParAt (par:Option Addr) (pk:ByteArray) (w:World):Prop:=(par=none/\emp pk=true)\/(emp pk=false/\∃g,par=some ⟨g,0,none⟩/\RKb g pk w)
theorem fits_no (over under key:ByteArray)(par:Option Addr)(w:World)(h:insW over under key=false):Calls prog 171 #[.agg #[.string over,.string under,.pointer par],.agg (rkL key).toArray] w λe w'=>e=.returned (.bool false)/\Below w.heap.size w w':=by
 obtain⟨W,hW⟩:=eX ((w.alloc (.cells #[.string over,.string under,.pointer par] 144)).alloc (.cells (rkL key).toArray 249));have hb:Below w.heap.size w W:=by rw[<-hW];exact((Below.refl _ _).alloc (Nat.le_refl _) _).alloc (by simp) _
 have n0:W.heap[w.heap.size]?=some (.cells #[.string over,.string under,.pointer par] 144):=by rw[<-hW,Below.heap_alloc _ _ _ (by simp)];exact heap_alloc_new w _
 have n1:W.heap[w.heap.size+1]?=some (.cells (rkL key).toArray 249):=by
  have:=heap_alloc_new (w.alloc (.cells #[.string over,.string under,.pointer par] 144)) (.cells (rkL key).toArray 249);rw[<-hW];simpa using this
 have ca:W.cell? ⟨w.heap.size,0,none⟩=some (.string over):=ZC n0 0;have cc:W.cell? ⟨w.heap.size,1,none⟩=some (.string under):=ZC n0 1;have cb:W.cell? ⟨w.heap.size+1,32,none⟩=some (.string key):=RKb.c32 n1;generalize (rkL key).toArray=cs at hW n1;obtain⟨ga,hga⟩:=eX (w.heap.size);rw[hga] at ca cb cc;cases a1:Op.bytesLess key.toList over.toList with
 | true =>
  go_enter func171,ntmps171;go_wp2_with fail;go_ret;exact⟨rfl,by rw[hga] at hb⊢;exact hb⟩
 | false =>
  cases a2:(key.toList == over.toList) with
  | true =>
   go_enter func171,ntmps171;go_wp2_with fail;go_ret;exact⟨rfl,by rw[hga] at hb⊢;exact hb⟩
  | false =>
   have hin:(emp under || lessB key under)=false:=by
    unfold insW at h;rw[qbk over key] at h;have:lessB key over=false:=a1;rw[this,a2] at h
    simpa using h
   rw[Bool.or_eq_false_iff] at hin;have e2:=qcf under;rw[hin.1] at e2;have a3:Op.bytesLess key.toList under.toList=false:=hin.2;go_enter func171,ntmps171;go_wp2_with fail;go_ret;exact⟨rfl,by rw[hga] at hb⊢;exact hb⟩
theorem ins_yes {over under key:ByteArray}(h:insW over under key=true):Op.bytesLess key.toList over.toList=false/\(key.toList == over.toList)=false/\(under.toList.isEmpty=true\/(under.toList.isEmpty=false/\Op.bytesLess key.toList under.toList=true)):=by
 unfold insW at h;rw[Bool.and_eq_true,qbk over key] at h;obtain⟨h1,h2⟩:=h;have h1':(lessB key over || (key.toList == over.toList))=false:=by simpa using h1
 rw[Bool.or_eq_false_iff] at h1';refine⟨h1'.1,h1'.2,?_⟩;rw[qcf];cases hu:emp under with
 | true=>exact .inl rfl
 | false=>rw[hu,Bool.false_or] at h2;exact .inr ⟨rfl,h2⟩
theorem fits_top (over under key:ByteArray)(w:World)(h:insW over under key=true):Calls prog 171 #[.agg #[.string over,.string under,.pointer none],.agg (rkL key).toArray] w λe w'=>e=.returned (.bool true)/\Below w.heap.size w w':=by
 obtain⟨W,hW⟩:=eX ((w.alloc (.cells #[.string over,.string under,.pointer none] 144)).alloc (.cells (rkL key).toArray 249));have hb:Below w.heap.size w W:=by rw[<-hW];exact((Below.refl _ _).alloc (Nat.le_refl _) _).alloc (by simp) _
 have n0:W.heap[w.heap.size]?=some (.cells #[.string over,.string under,.pointer none] 144):=by rw[<-hW,Below.heap_alloc _ _ _ (by simp)];exact heap_alloc_new w _
 have n1:W.heap[w.heap.size+1]?=some (.cells (rkL key).toArray 249):=by
  have:=heap_alloc_new (w.alloc (.cells #[.string over,.string under,.pointer none] 144)) (.cells (rkL key).toArray 249);rw[<-hW];simpa using this
 have ca:W.cell? ⟨w.heap.size,0,none⟩=some (.string over):=ZC n0 0;have cc:W.cell? ⟨w.heap.size,1,none⟩=some (.string under):=ZC n0 1;have cd:W.cell? ⟨w.heap.size,2,none⟩=some (.pointer none):=ZC n0 2;have cb:W.cell? ⟨w.heap.size+1,32,none⟩=some (.string key):=RKb.c32 n1;have qn:∀W':World,(binOp .eql 142 (.pointer none) (.pointer none)).run prog W'=.ok (.bool true) W':=λW'=>by rw[ptr_eqlR none none W' (.inl rfl) (.inl rfl)];rfl
 generalize (rkL key).toArray=cs at hW n1;obtain⟨ga,hga⟩:=eX (w.heap.size);rw[hga] at ca cb cc cd;obtain⟨a1,a2,ha⟩:=ins_yes h;clear h;rcases ha with e2|⟨e2,a3⟩
 all_goals
  go_enter func171,ntmps171;go_upto_region 3 with fail;go_quiet (fail);go_wp2_with fail;go_ret;exact⟨rfl,by rw[hga] at hb⊢;exact⟨hb.os,hb.tape,hb.output,hb.size,hb.block⟩⟩
theorem fits_par (over under key pk:ByteArray)(g:Nat)(w:World)(h:insW over under key=true)(hg:RKb g pk w):Calls prog 171 #[.agg #[.string over,.string under,.pointer (some ⟨g,0,none⟩)],.agg (rkL key).toArray] w λe w'=>e=.returned (.bool (hgW pk key))/\Below w.heap.size w w':=by
 obtain⟨W,hW⟩:=eX ((w.alloc (.cells #[.string over,.string under,.pointer (some ⟨g,0,none⟩)] 144)).alloc (.cells (rkL key).toArray 249));have hb:Below w.heap.size w W:=by rw[<-hW];exact((Below.refl _ _).alloc (Nat.le_refl _) _).alloc (by simp) _
 have n0:W.heap[w.heap.size]?=some (.cells #[.string over,.string under,.pointer (some ⟨g,0,none⟩)] 144):=by rw[<-hW,Below.heap_alloc _ _ _ (by simp)];exact heap_alloc_new w _
 have n1:RKb (w.heap.size+1) key W:=by
  have:=heap_alloc_new (w.alloc (.cells #[.string over,.string under,.pointer (some ⟨g,0,none⟩)] 144)) (.cells (rkL key).toArray 249);unfold RKb;rw[<-hW];simpa using this
 have hg1:RKb g pk W:=(hb.block g (zG hg).1).trans hg;have ca:W.cell? ⟨w.heap.size,0,none⟩=some (.string over):=ZC n0 0;have cc:W.cell? ⟨w.heap.size,1,none⟩=some (.string under):=ZC n0 1;have cd:W.cell? ⟨w.heap.size,2,none⟩=some (.pointer (some ⟨g,0,none⟩)):=ZC n0 2;have cb:W.cell? ⟨w.heap.size+1,32,none⟩=some (.string key):=RKb.c32 n1;have qn:∀W':World,RKb g pk W'->(binOp .eql 142 (.pointer (some ⟨g,0,none⟩)) (.pointer none)).run prog W'=.ok (.bool false) W':=λW' hW'=>by rw[ptr_eqlR _ none W' (.inr ⟨g,_,_,rfl,hW'⟩) (.inl rfl)];rfl
 have r1:=hg1.range;have r2:=n1.range;have HAB:Hid (∀w',Calls prog 164 #[.agg (rkL pk).toArray,.agg (rkL key).toArray] w' λe w''=>e=.returned (.bool (hgW pk key))/\Below w'.heap.size w' w''):=λw'=>above_any _ _ (by unfold sha;rw[qar]) (by unfold sha;rw[qar]) pk key w';obtain⟨ga,hga⟩:=eX (w.heap.size);rw[hga] at ca cb cc cd r2;obtain⟨a1,a2,ha⟩:=ins_yes h;clear h;have hq:=qn W hg1;have HS:Hid (∀W',Below W.heap.size W W'->W'.rangeAt g 0 (rkL pk)/\W'.rangeAt (ga+1) 0 (rkL key)/\W'.cell? ⟨ga,2,none⟩=some (.pointer (some ⟨g,0,none⟩))/\(binOp .eql 142 (.pointer (some ⟨g,0,none⟩)) (.pointer none)).run prog W'=.ok (.bool false) W'):=λW' hW'=>by
  have x1:RKb g pk W':=(hW'.block g (zG hg1).1).trans hg1;rw[hga] at n1 n0;have x2:RKb (ga+1) key W':=(hW'.block (ga+1) (zG n1).1).trans n1;have x3:=(hW'.block ga (zG n0).1).trans n0;exact⟨x1.range,x2.range,ZC x3 2,qn W' x1⟩
 clear qn hq;rcases ha with e2|⟨e2,a3⟩
 ·go_enter func171,ntmps171;go_upto_region 3 with fail;refine wp_region_held_drew (S:=λW'=>W'.rangeAt g 0 (rkL pk)/\W'.rangeAt (ga+1) 0 (rkL key)/\W'.cell? ⟨ga,2,none⟩=some (.pointer (some ⟨g,0,none⟩))/\(binOp .eql 142 (.pointer (some ⟨g,0,none⟩)) (.pointer none)).run prog W'=.ok (.bool false) W') (by kernel_rfl) (HS.out _ (Below.refl _ _).drew) (λhHeld=>?_);refine tkI 0 ?_;simp only[Act.put,zq];refine tkI 1 ?_;simp only[Act.put,zq];refine tkI 2 ?_;simp only[Act.put,zq];refine tkI 3 ?_;simp only[Act.put,zq];refine tkI 4 ?_;simp only[Act.put,zq];refine tkI 5 ?_;simp only[Act.put,zq];refine tkI 6 ?_;simp only[Act.put,zq];refine tkH (i:=7) (v:=_) rfl (yieldsIf_load_mid (by rfl) _ _ rfl _ _ rfl (rkL pk) _ (λw h=>h.1) Tryz.underlying249 rfl (by rw[qdm];exact size125)) ?_;simp only[Act.put,zq];refine tkH (i:=8) (v:=_) rfl (yieldsIf_load_mid (by rfl) _ _ rfl _ _ rfl (rkL key) _ (λw h=>h.2.1) Tryz.underlying249 rfl (by rw[qdm];exact size125)) ?_;simp only[Act.put,zq];refine rdH 9 (λK hK=>?_);go_simp;refine(HAB.out _).mono ?_;rintro e w1 ⟨rfl,hb1'⟩;have hbw1:Below W.heap.size W w1:=((Below.refl W.heap.size W).drew).trans hb1';refine hK.out _ _ (HS.out _ hbw1) (λhHeld=>?_);clear hK K;refine tkI 10 ?_;simp only[Act.put,zq];refine tkI 11 ?_;simp only[Act.put,zq];refine wpAnyH_done (by kernel_rfl) ?_ _;go_wp2_with fail;go_ret;exact⟨rfl,hb.trans (hbw1.mono hb.size)⟩
 ·go_enter func171,ntmps171;go_upto_region 3 with fail;refine wp_region_held_drew (S:=λW'=>W'.rangeAt g 0 (rkL pk)/\W'.rangeAt (ga+1) 0 (rkL key)/\W'.cell? ⟨ga,2,none⟩=some (.pointer (some ⟨g,0,none⟩))/\(binOp .eql 142 (.pointer (some ⟨g,0,none⟩)) (.pointer none)).run prog W'=.ok (.bool false) W') (by kernel_rfl) (HS.out _ (Below.refl _ _).drew) (λhHeld=>?_);refine tkI 0 ?_;simp only[Act.put,zq];refine tkI 1 ?_;simp only[Act.put,zq];refine tkI 2 ?_;simp only[Act.put,zq];refine tkI 3 ?_;simp only[Act.put,zq];refine tkI 4 ?_;simp only[Act.put,zq];refine tkI 5 ?_;simp only[Act.put,zq];refine tkI 6 ?_;simp only[Act.put,zq];refine tkH (i:=7) (v:=_) rfl (yieldsIf_load_mid (by rfl) _ _ rfl _ _ rfl (rkL pk) _ (λw h=>h.1) Tryz.underlying249 rfl (by rw[qdm];exact size125)) ?_;simp only[Act.put,zq];refine tkH (i:=8) (v:=_) rfl (yieldsIf_load_mid (by rfl) _ _ rfl _ _ rfl (rkL key) _ (λw h=>h.2.1) Tryz.underlying249 rfl (by rw[qdm];exact size125)) ?_;simp only[Act.put,zq];refine rdH 9 (λK hK=>?_);go_simp;refine(HAB.out _).mono ?_;rintro e w1 ⟨rfl,hb1'⟩;have hbw1:Below W.heap.size W w1:=((Below.refl W.heap.size W).drew).trans hb1';refine hK.out _ _ (HS.out _ hbw1) (λhHeld=>?_);clear hK K;refine tkI 10 ?_;simp only[Act.put,zq];refine tkI 11 ?_;simp only[Act.put,zq];refine wpAnyH_done (by kernel_rfl) ?_ _;go_wp2_with fail;go_ret;exact⟨rfl,hb.trans (hbw1.mono hb.size)⟩
theorem fits_any (over under key pk:ByteArray)(par:Option Addr)(w:World)(hp:ParAt par pk w):Calls prog 171 #[.agg #[.string over,.string under,.pointer par],.agg (rkL key).toArray] w λe w'=>e=.returned (.bool (insW over under key && parW hgW pk key))/\Below w.heap.size w w':=by
 cases h:insW over under key with
 | false=>exact fits_no over under key par w h
 | true =>
  rw[Bool.true_and];unfold parW;rcases hp with ⟨rfl,he⟩|⟨he,g,rfl,hg⟩
  ·rw[he];exact fits_top over under key w h
  ·rw[he];exact fits_par over under key pk g w h hg
theorem qcG (a b:ByteArray)(w:World)(ha:a.size<=1048576)(hb:b.size<=1048576) : Calls prog 67 #[.string a,.string b] w λe w'=>e=.returned (.bool (rk (sha a.data.toList) (sha b.data.toList) a.data.toList b.data.toList))/\Below w.heap.size w w':=by
 have hla:(sha a.data.toList).length=32:=by unfold sha;rw[qar]
 have hlb:(sha b.data.toList).length=32:=by unfold sha;rw[qar]
 have H1:=λw'=>qcM a w' ha;have H2:=λw'=>qcM b w' hb;have HR1:Hid (sha a.data.toList=sha b.data.toList->rk (sha a.data.toList) (sha b.data.toList) a.data.toList b.data.toList=Op.bytesLess a.data.toList b.data.toList):=λh=>if_pos h;have HR2:Hid (sha a.data.toList ≠ sha b.data.toList->rk (sha a.data.toList) (sha b.data.toList) a.data.toList b.data.toList=Op.bytesLess (sha b.data.toList) (sha a.data.toList)):=λh=>if_neg h;obtain⟨X,hX⟩:=eX (sha a.data.toList);obtain⟨Y,hY⟩:=eX (sha b.data.toList);rw[hX] at hla H1;rw[hY] at hlb H2;rw[hX,hY] at HR1 HR2;rw[hX,hY];obtain⟨SX,hSX⟩:∃S:ByteArray,S=⟨X.toArray⟩:=⟨_,rfl⟩;obtain⟨SY,hSY⟩:∃S:ByteArray,S=⟨Y.toArray⟩:=⟨_,rfl⟩;have dX:SX.data.toList=X:=by rw[hSX]
 have dY:SY.data.toList=Y:=by rw[hSY]
 have zX:SX.size<=1048576:=by rw[hSX];show X.length<=_;omega
 have zY:SY.size<=1048576:=by rw[hSY];show Y.length<=_;omega
 rw[<-hSX] at H1;rw[<-hSY] at H2;have L1:=λw'=>less_any SY SX w' zY zX;have L2:=λw'=>less_any a b w' ha hb;rw[dX,dY] at L1;have K1:Hid (∀w',Calls prog 64 #[.string a] w' λe w''=>e=.returned (.string SX)/\Below w'.heap.size w' w''):=H1;have K2:Hid (∀w',Calls prog 64 #[.string b] w' λe w''=>e=.returned (.string SY)/\Below w'.heap.size w' w''):=H2;have K3:Hid (∀w',Calls prog 85 #[.string SY,.string SX] w' λe w''=>e=.returned (.bool (Op.bytesLess Y X))/\Below w'.heap.size w' w''):=L1;have K4:Hid (∀w',Calls prog 85 #[.string a,.string b] w' λe w''=>e=.returned (.bool (Op.bytesLess a.data.toList b.data.toList))/\Below w'.heap.size w' w''):=L2;have tX:SX.toList=X:=by rw[ByteArray.toList_eq,dX]
 have tY:SY.toList=Y:=by rw[ByteArray.toList_eq,dY]
 have TXY:Hid (SX.toList=X/\SY.toList=Y):=⟨tX,tY⟩;clear hX hY H1 H2 L1 L2 hSX hSY dX dY zX zY hla hlb tX tY;by_cases hXY:X=Y
 ·have c1:(SX.toList == SY.toList)=true:=(by rw[TXY.out.1,TXY.out.2,hXY];simp);have HR:=HR1.out hXY;have HR':Hid (rk X Y a.data.toList b.data.toList=Op.bytesLess a.data.toList b.data.toList):=HR;clear HR HR1 HR2 hXY;go_enter func67,ntmps67;go_wp2_with fail;refine(K1.out _).mono ?_;rintro e w1 ⟨rfl,hb1⟩;go_wp2_with fail;refine(K2.out _).mono ?_;rintro e w2 ⟨rfl,hb2⟩;go_wp2_with fail;refine(K4.out _).mono ?_;rintro e w3 ⟨rfl,hb3⟩;go_wp2;go_ret;exact⟨by rw[HR'.out];rfl,(hb1.trans (hb2.mono hb1.size)).trans (hb3.mono (Nat.le_trans hb1.size hb2.size))⟩
 ·have c1:(SX.toList == SY.toList)=false:=(by rw[TXY.out.1,TXY.out.2];exact beq_eq_false_iff_ne.2 hXY);have HR':Hid (rk X Y a.data.toList b.data.toList=Op.bytesLess Y X):=HR2.out hXY;clear HR1 HR2 hXY;go_enter func67,ntmps67;go_wp2_with fail;refine(K1.out _).mono ?_;rintro e w1 ⟨rfl,hb1⟩;go_wp2_with fail;refine(K2.out _).mono ?_;rintro e w2 ⟨rfl,hb2⟩;go_wp2_with fail;refine(K3.out _).mono ?_;rintro e w3 ⟨rfl,hb3⟩;go_wp2;go_ret;exact⟨by rw[HR'.out];rfl,(hb1.trans (hb2.mono hb1.size)).trans (hb3.mono (Nat.le_trans hb1.size hb2.size))⟩
end Go.Proofs.YtibjhkpgaaapaaaGreatDoor
