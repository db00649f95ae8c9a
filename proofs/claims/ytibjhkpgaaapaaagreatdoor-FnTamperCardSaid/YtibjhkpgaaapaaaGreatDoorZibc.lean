import Derived.Test.YtibjhkpgaaapaaaGreatDoorZiao
import Derived.Test.YtibjhkpgaaapaaaGreatDoorZiar
set_option maxRecDepth 100000
set_option maxHeartbeats 1000000
namespace Go.Proofs.YtibjhkpgaaapaaaGreatDoor
open Go.RowKit Go.Proofs.Sha Tryz
def prL (fnd:ByteArray->FN) (lo hi:ByteArray):Nat->ByteArray->ByteArray->ByteArray->List UInt8
 | 0,_,_,_=>[]
 | f+1,hash,over,under =>
  if emp hash=true then [69] else
  if canW over under lo hi=false then 83 :: hash.data.toList else
  (70 :: (sized (fnd hash).1.1.data.toList++sized (fnd hash).1.2.1.data.toList))++(prL fnd lo hi f (fnd hash).1.2.2.1 over (fnd hash).1.1++prL fnd lo hi f (fnd hash).1.2.2.2 (fnd hash).1.1 under)
theorem prL_e {fnd:ByteArray->FN}{lo hi:ByteArray}{f:Nat}{hash over under:ByteArray}(h:emp hash=true):prL fnd lo hi (f+1) hash over under=[69]:=by rw[prL,if_pos h]
theorem prL_s {fnd:ByteArray->FN}{lo hi:ByteArray}{f:Nat}{hash over under:ByteArray}(h:emp hash=false)(h2:canW over under lo hi=false):prL fnd lo hi (f+1) hash over under=83 :: hash.data.toList:=by rw[prL,if_neg (by rw[h];decide),if_pos h2]
theorem prL_f {fnd:ByteArray->FN}{lo hi:ByteArray}{f:Nat}{hash over under:ByteArray}(h:emp hash=false)(h2:canW over under lo hi=true):prL fnd lo hi (f+1) hash over under=(70 :: (sized (fnd hash).1.1.data.toList++sized (fnd hash).1.2.1.data.toList))++(prL fnd lo hi f (fnd hash).1.2.2.1 over (fnd hash).1.1++prL fnd lo hi f (fnd hash).1.2.2.2 (fnd hash).1.1 under):=by rw[prL,if_neg (by rw[h];decide),if_neg (by rw[h2];decide)]
theorem sized_len (l:List UInt8):(sized l).length=l.length+2:=rfl
theorem qdw {fnd:ByteArray->FN}{lo hi:ByteArray}{wd:Nat}(hfo:FndOk wd fnd)(hwd:wd<=32):∀ (f:Nat) (hash over under par:ByteArray) (cnt:Nat),cnt<=500->(hash.size=0\/hash.size=wd)->(goF fnd hgW lo hi f hash over under par cnt).1=0->(prL fnd lo hi f hash over under).length+2400*cnt<=2400*(goF fnd hgW lo hi f hash over under par cnt).2.1+40
 | 0,_,_,_,_,_,_,_,h=>by rw[goF] at h;exact absurd h (by decide)
 | f+1,hash,over,under,par,cnt,hc,hs,h=>by
  cases h1:emp hash with
  | true=>rw[prL_e h1,qaQ (by rw[h1];rfl)];simp only[List.length_singleton];omega
  | false =>
   cases h2:canW over under lo hi with
   | false =>
    rw[prL_s h1 h2,qaQ (by rw[h2];simp),List.length_cons]
    have:hash.data.toList.length=hash.size:=rfl
    simp only
    omega
   | true =>
    have hsk:(emp hash || !canW over under lo hi)=false:=by rw[h1,h2];rfl
    by_cases hC:codeF fnd hash over under par (cnt+1)=0
    ·obtain⟨hz,hfit,hc5⟩:=qcp hC
     obtain⟨okk,okv,okl,okr⟩:=hfo.node hash hz
     have hfe:fnd hash=(((fnd hash).1.1,(fnd hash).1.2.1,(fnd hash).1.2.2.1,(fnd hash).1.2.2.2),0):=by rw[<-hz]
     obtain⟨LR,hLR⟩:=eX (goF fnd hgW lo hi f (fnd hash).1.2.2.1 over (fnd hash).1.1 (fnd hash).1.1 (cnt+1))
     obtain⟨RR,hRR⟩:=eX (goF fnd hgW lo hi f (fnd hash).1.2.2.2 (fnd hash).1.1 under (fnd hash).1.1 LR.2.1)
     rw[qbc hsk hfe hfit hc5 hLR hRR] at h⊢
     by_cases hl0:LR.1=0
     ·rw[if_neg (λh=>h hl0)] at h⊢
      by_cases hr0:RR.1=0
      ·rw[if_neg (λh=>h hr0)] at h⊢
       have q:=qbo f (fnd hash).1.2.2.1 over (fnd hash).1.1 (fnd hash).1.1 (cnt+1) hc5 (by rw[hLR];exact hl0)
       rw[hLR] at q
       have il:=qdw hfo hwd f _ _ _ _ _ hc5 okl (by rw[hLR];exact hl0)
       have ir:=qdw hfo hwd f _ _ _ _ _ q.2 okr (by rw[hRR];exact hr0)
       rw[hLR] at il
       rw[hRR] at ir
       rw[prL_f h1 h2]
       simp only[List.length_append,List.length_cons,sized_len]
       have e1:(fnd hash).1.1.data.toList.length=(fnd hash).1.1.size:=rfl
       have e2:(fnd hash).1.2.1.data.toList.length=(fnd hash).1.2.1.size:=rfl
       unfold okKey at okk
       unfold okVal at okv
       have okk:=of_decide_eq_true okk
       have okv:=of_decide_eq_true okv
       omega
      ·rw[if_pos hr0] at h;exact absurd h hr0
     ·rw[if_pos hl0] at h;exact absurd h hl0
    ·rw[goF_code hsk hC] at h;exact absurd h hC
def Is5 (k:Nat) (w:World):Prop:=∃cur t,w.heap[k]?=some (.cells cur 5 t)
structure Ft (base:Nat) (N:Nat->Prop) (w w':World):Prop where
 os:w'.os=w.os
 tape:w'.tape=w.tape
 output:w'.output=w.output
 size:w.heap.size<=w'.heap.size
 block:∀k,k<w.heap.size->¬ N k->¬ (base<=k/\Is5 k w)->w'.heap[k]?=w.heap[k]?
section
variable {base:Nat} {N N':Nat->Prop} {w w' w1 w2:World}
theorem Ft.trans (h:Ft base N w w1)(k:Ft base N' w1 w2)(hN:∀q,q<w.heap.size->N' q->N q):Ft base N w w2:=by
 refine⟨k.os.trans h.os,k.tape.trans h.tape,k.output.trans h.output,Nat.le_trans h.size k.size,λq hq h1 h2=>?_⟩;have e:=h.block q hq h1 h2;refine(k.block q (Nat.lt_of_lt_of_le hq h.size) (λx=>h1 (hN q hq x)) (λx=>h2 ⟨x.1,?_⟩)).trans e;obtain⟨cur,t,hx⟩:=x.2;exact⟨cur,t,e.symm.trans hx⟩
theorem Ft.of_below (h:Below w.heap.size w w1):Ft base N w w1:=⟨h.os,h.tape,h.output,h.size,λq hq _ _=>h.block q hq⟩
theorem Ft.of_fr (h:Fr w.heap.size N w w1):Ft base N w w1:=⟨h.os,h.tape,h.output,h.size,λq hq h1 _=>h.block q hq h1 (λx=>by omega)⟩
theorem Ft.of_put {c:Nat}{l:List UInt8}(h:Put c l w w1)(hN:N c):Ft c N w w1 :=
 ⟨h.2.1.os,h.2.1.tape,h.2.1.output,h.2.1.size,λq hq h1 h2=>by
  have ho:=Array.getElem?_eq_getElem hq
  by_cases hc:q<c
  ·exact h.2.1.block q hc
  ·refine(h.2.2 q _ ho (λe=>h1 (by cases e;exact hN)) (λcs fz e=>h2 ⟨by omega,cs,fz,by rw[ho,e]⟩)).trans ho.symm⟩
theorem Ft.keep {q:Nat}{cs:Array Value}{t:TypeId}{z:Nat × Nat}(h:Ft base N w w1)(hq:w.heap[q]?=some (.cells cs t z))(h1:¬ N q)(ht:t ≠ 5):w1.heap[q]?=some (.cells cs t z):=by
 refine(h.block q (zG hq).1 h1 ?_).trans hq;rintro⟨h2,cur,z',h3⟩;rw[hq] at h3;simp only[Option.some.injEq,Obj.cells.injEq] at h3;exact ht h3.2.1
theorem Ft.below {B0:Nat}(h:Ft base N w w')(hb:B0<=base)(hN:∀q,N q->B0<=q)(hs:B0<=w.heap.size):Below B0 w w' :=
 ⟨h.os,h.tape,h.output,h.size,λq hq=>h.block q (by omega) (λx=>by have:=hN q x;omega) (λx=>by omega)⟩
theorem LinkAt.ft {l over under:ByteArray}{par p:Option Addr}(h:LinkAt l over under par p w)(f:Ft base N w w')(hN:∀q,p=some q->¬ N q.block):LinkAt l over under par p w':=by
 rcases h with h|⟨h1,q,h2,h3⟩
 ·exact .inl h
 ·exact .inr ⟨h1,q,h2,f.keep h3 (hN _ h2) (by decide)⟩
end
theorem Bld.fr {c:Nat}{l:List UInt8}{N:Nat->Prop}{w w':World}(h:Bld c l w)(f:Fr w.heap.size N w w')(hN:∀q,N q->∃cs t,w.heap[q]?=some (.cells cs t)/\t ≠ 165/\t ≠ 5):Bld c l w':=by
 have H:∀p,Lib.BuilderAtF 165 5 c c p (Lib.byteCells l) w->Lib.BuilderAtF 165 5 c c p (Lib.byteCells l) w':=by
  rintro p ⟨h1,v,h2,h3,h4⟩;have hk:∀ (k:Nat) (cs:Array Value) (t:TypeId) (z:Nat × Nat),w.heap[k]?=some (.cells cs t z)->(t=165\/t=5)->w'.heap[k]?=some (.cells cs t z):=λk cs t z hk ht=>by
   refine(f.block k (zG hk).1 (λx=>?_) (λx=>by have:=(zG hk).1;omega)).trans hk;obtain⟨cs',t',h5,h6,h7⟩:=hN _ x;rw[hk] at h5;simp only[Option.some.injEq,Obj.cells.injEq] at h5;rcases ht with e|e
   ·exact h6 (by rw[<-h5.2.1,e])
   ·exact h7 (by rw[<-h5.2.1,e])
  refine⟨h1,v,hk _ _ _ _ h2 (.inl rfl),⟨h3.1,?_⟩,h4⟩;rcases h3.2 with hn|⟨g,cap,cur,fz,hv,hbg,hg,rest⟩
  ·exact .inl hn
  ·exact .inr ⟨g,cap,cur,fz,hv,hbg,hk _ _ _ _ hg (.inr rfl),rest⟩
 rcases h with h|h
 ·exact .inl (H _ h)
 ·exact .inr (H _ h)
theorem closed_none (w:World):Calls prog 110 #[.pointer none] w λe w'=>e=.returned (.iface 211 (.agg #[]))/\Below w.heap.size w w':=by
 have q:=qdg none none w (.inl rfl) (.inl rfl);rw[decide_eq_true rfl] at q;go_enter func110,ntmps110;go_wp2_with fail;go_ret;exact⟨rfl,Below.refl _ _⟩
theorem closed_some (b:Nat)(hash over under:ByteArray)(par:Option Addr)(w:World)(h:BR b hash over under par w):Calls prog 110 #[.pointer (some ⟨b,0,none⟩)] w λe w'=>e=.returned (.iface 216 (.agg #[.string hash]))/\Below w.heap.size w w':=by
 have hP:Ptr (some ⟨b,0,none⟩) w:=.inr ⟨b,_,_,rfl,h⟩;have q:=qdg (some ⟨b,0,none⟩) none w hP (.inl rfl);rw[decide_eq_false (λe=>by cases e)] at q;have c0:w.cell? ⟨b,0,none⟩=some (.string hash):=ZC h 0;clear hP h;go_enter func110,ntmps110;go_wp2_with fail;go_ret;exact⟨rfl,Below.refl _ _⟩
theorem into_none (gb c:Nat)(lo hi:ByteArray)(l:List UInt8)(w:World)(hg:w.heap[gb]?=some (.cells #[.string lo,.string hi] 75))(h:Bld c l w)(hl:l.length<=7000000) : Calls prog 108 #[.pointer none,.pointer (some ⟨gb,0,none⟩),.pointer (some ⟨c,0,none⟩)] w λe w'=>e=.returned (.bool false)/\Put c (l++[69]) w w':=by
 have g0:=ZC hg 0;have g1:=ZC hg 1;have HG:=goInto_none lo hi w;have HC:=closed_none;have HE:Hid (∀w',Bld c l w'->Calls prog 238 #[.agg #[],.pointer (some ⟨c,0,none⟩)] w' λe w''=>e=.returned (.tuple #[])/\Put c (l++[69]) w' w''):=λw' h'=>eput c l w' h' (by omega);have hm : ∀ w' : World, (method 427 211 (.agg #[]) "loop.example/s03048/impl.put").run prog w' = .ok (238, .agg #[]) w' := fun _ => by kernel_rfl
 clear hg;go_enter func108,ntmps108;go_wp2_with (first|(go_at_call 109;refine HG.mono ?_;rintro e w1 ⟨rfl,hb1⟩)|(go_at_call 110;refine(HC _).mono ?_;rintro e w2 ⟨rfl,hb2⟩)|(go_at_call 238;refine(HE.out _ ((h.below hb1).below hb2)).mono ?_;rintro e w3 ⟨rfl,hp3⟩));go_ret;exact⟨rfl,(((Put.refl h).below hb1).below hb2).trans hp3⟩
theorem into_cut (b gb c:Nat)(hash over under:ByteArray)(par:Option Addr)(lo hi:ByteArray)(l:List UInt8)(w:World)(hB:BR b hash over under par w)(hc:canW over under lo hi=false)(hg:w.heap[gb]?=some (.cells #[.string lo,.string hi] 75))(h:Bld c l w)(hl:l.length+hash.size<=7000000) : Calls prog 108 #[.pointer (some ⟨b,0,none⟩),.pointer (some ⟨gb,0,none⟩),.pointer (some ⟨c,0,none⟩)] w λe w'=>e=.returned (.bool false)/\Put c (l++83 :: hash.data.toList) w w':=by
 have g0:=ZC hg 0;have g1:=ZC hg 1;have HG:=goInto_some lo hi b hash over under par w hB;rw[hc] at HG;have HC:Hid (∀w',Below w.heap.size w w'->Calls prog 110 #[.pointer (some ⟨b,0,none⟩)] w' λe w''=>e=.returned (.iface 216 (.agg #[.string hash]))/\Below w'.heap.size w' w''):=λw' hb=>closed_some b hash over under par w' ((hb.block b (zG hB).1).trans hB);have HE:Hid (∀w',Bld c l w'->Calls prog 242 #[.agg #[.string hash],.pointer (some ⟨c,0,none⟩)] w' λe w''=>e=.returned (.tuple #[])/\Put c (l++83 :: hash.data.toList) w' w''):=λw' h'=>sput hash c l w' h' (by omega);have hm : ∀ w' : World, (method 427 216 (.agg #[.string hash]) "loop.example/s03048/impl.put").run prog w' = .ok (242, .agg #[.string hash]) w' := fun _ => by kernel_rfl
 generalize l++83 :: hash.data.toList=L at HE⊢;clear hg hB hc;go_enter func108,ntmps108;go_wp2_with (first|(go_at_call 109;refine HG.mono ?_;rintro e w1 ⟨rfl,hb1⟩)|(go_at_call 110;refine(HC.out _ hb1).mono ?_;rintro e w2 ⟨rfl,hb2⟩)|(go_at_call 242;refine(HE.out _ ((h.below hb1).below hb2)).mono ?_;rintro e w3 ⟨rfl,hp3⟩));go_ret;exact⟨rfl,(((Put.refl h).below hb1).below hb2).trans hp3⟩
theorem into_yes (b gb c:Nat)(hash over under:ByteArray)(par:Option Addr)(lo hi:ByteArray)(w:World)(hB:BR b hash over under par w)(hc:canW over under lo hi=true)(hg:w.heap[gb]?=some (.cells #[.string lo,.string hi] 75)) : Calls prog 108 #[.pointer (some ⟨b,0,none⟩),.pointer (some ⟨gb,0,none⟩),.pointer (some ⟨c,0,none⟩)] w λe w'=>e=.returned (.bool true)/\Below w.heap.size w w':=by
 have g0:=ZC hg 0;have g1:=ZC hg 1;have HG:=goInto_some lo hi b hash over under par w hB;rw[hc] at HG;clear hg hB hc;go_enter func108,ntmps108;go_wp2_with (first|(go_at_call 109;refine HG.mono ?_;rintro e w1 ⟨rfl,hb1⟩));go_ret;exact⟨rfl,hb1⟩
theorem opened_any (b:Nat)(hash over under:ByteArray)(par:Option Addr)(k v l r:ByteArray)(pl pr:Option Addr)(w:World)(h:BF b hash over under par k v l r pl pr w) : Calls prog 113 #[.pointer (some ⟨b,0,none⟩)] w λe w'=>(∃g,e=.returned (.iface 84 (.pointer (some ⟨g,0,none⟩)))/\w'.heap[g]?=some (.cells #[.string k,.string v,.nilIface,.nilIface,.string ⟨#[]⟩] 151))/\Below w.heap.size w w':=by
 have HP:=pairB_any b hash over under par k v l r pl pr w h;clear h;go_enter func113,ntmps113;go_wp2_with (first|(go_at_call 151;refine HP.mono ?_;rintro e w1 ⟨rfl,hb1⟩));go_ret;exact⟨⟨w1.heap.size,rfl,heap_alloc_new w1 _⟩,hb1.alloc hb1.size _⟩
theorem fput (g c:Nat)(k v:ByteArray)(x y z:Value)(l:List UInt8)(w:World)(hg:w.heap[g]?=some (.cells #[.string k,.string v,x,y,z] 151))(h:Bld c l w)(hl:l.length<=6000000)(hk:k.size<=2000)(hv:v.size<=2000) : Calls prog 221 #[.pointer (some ⟨g,0,none⟩),.pointer (some ⟨c,0,none⟩)] w λe w'=>e=.returned (.tuple #[])/\Put c (l++70 :: (sized k.data.toList++sized v.data.toList)) w w':=by
 have HW:Hid (∀w',Bld c l w'->Calls prog 223 #[.pointer (some ⟨c,0,none⟩),.iface 208 (.agg #[.int .i64 1,.bool false]),.int .i64 70] w' λe w''=>e=.returned (.tuple #[])/\Put c (l++[70]) w' w''):=λw' h'=>wlet c 70 70 rfl l w' h' (by omega) (by omega);have HX:Hid (∀w',Bld c (l++[70]) w'->Calls prog 224 #[.pointer (some ⟨c,0,none⟩),.iface 261 (.agg #[.int .i64 2,.bool false]),.string k] w' λe w''=>e=.returned (.tuple #[])/\Put c (l++[70]++sized k.data.toList) w' w''):=λw' h'=>wsized2 c k (l++[70]) w' h' (by rw[List.length_append,List.length_singleton];omega);have HY:Hid (∀w',Bld c (l++[70]++sized k.data.toList) w'->Calls prog 224 #[.pointer (some ⟨c,0,none⟩),.iface 261 (.agg #[.int .i64 2,.bool false]),.string v] w' λe w''=>e=.returned (.tuple #[])/\Put c (l++70 :: (sized k.data.toList++sized v.data.toList)) w' w''):=λw' h'=>by
  have:=wsized2 c v (l++[70]++sized k.data.toList) w' h' (by rw[List.length_append,List.length_append,List.length_singleton];have:(sized k.data.toList).length=k.size+2:=rfl;omega)
  rwa [List.append_assoc,List.append_assoc,List.singleton_append] at this
 have hne:g ≠ c:=λe=>by
  subst e;rcases h with ⟨_,v',h2,_⟩|⟨_,v',h2,_⟩ <;> (rw[hg] at h2;simp only[Option.some.injEq,Obj.cells.injEq] at h2;exact absurd h2.2.1 (by decide))
 generalize l++70 :: (sized k.data.toList++sized v.data.toList)=L at HY⊢;generalize l++[70]++sized k.data.toList=L1 at HX HY;generalize l++[70]=L0 at HW HX;have hp0:Put c l w w:=Put.refl h;go_enter func221,ntmps221;go_wp2_with (first|(go_at_call 141;refine(qbE _).mono ?_;rintro e w1 ⟨rfl,hb1⟩)|(go_at_call 223;refine(HW.out _ (h.below hb1)).mono ?_;rintro e w2 ⟨rfl,hp2⟩));have n2:=hp2.cells (qab hb1 hg) hne (by decide);have hp2':=(hp0.below hb1).trans hp2;clear hp2 hb1;have c0:w2.cell? ⟨g,0,none⟩=some (.string k):=ZC n2 0;go_region_held3 (λW=>W.cell? ⟨g,0,none⟩=some (.string k)) (first|exact c0|exact ZC nA 0|exact ZC n3 0)
  (first|(go_at_call 170;refine(qbP _).mono ?_;rintro e wA ⟨rfl,hbA'⟩;have hbA:Below w2.heap.size w2 wA:=(Below.refl w2.heap.size w2).drew.trans hbA';have nA:=qab hbA n2)|(go_at_call 224;refine(HX.out _ (hp2'.1.below hbA)).mono ?_;rintro e w3 ⟨rfl,hp3⟩;have n3:=hp3.cells nA hne (by decide)))
 have hp3':=(hp2'.below hbA).trans hp3;clear hp3 hbA' hbA nA hp2' n2 c0;have c1:w3.cell? ⟨g,1,none⟩=some (.string v):=ZC n3 1;go_wp2_with fail;go_region_held3 (λW=>W.cell? ⟨g,1,none⟩=some (.string v)) (first|exact c1|exact ZC nB 1|exact ZC n4 1)
  (first|(go_at_call 170;refine(qbP _).mono ?_;rintro e wB ⟨rfl,hbB'⟩;have hbB:Below w3.heap.size w3 wB:=(Below.refl w3.heap.size w3).drew.trans hbB';have nB:=qab hbB n3)|(go_at_call 224;refine(HY.out _ (hp3'.1.below hbB)).mono ?_;rintro e w4 ⟨rfl,hp4⟩;have n4:=hp4.cells nB hne (by decide)))
 go_wp2;go_end0;exact⟨rfl,(hp3'.below hbB).trans hp4⟩
theorem at_no (b:Option Addr)(t:Int)(ht:t=1\/t=2)(c:Nat)(w:World):Calls prog 112 #[.pointer b,.int .i64 t,.pointer (some ⟨c,0,none⟩)] w λe w'=>e=.returned (.tuple #[])/\w'=w:=by
 rcases ht with rfl|rfl
 all_goals
  go_enter func112,ntmps112;go_wp2;go_end0;exact⟨rfl,rfl⟩
theorem at_yes (b c:Nat)(hash over under:ByteArray)(par:Option Addr)(k v l r:ByteArray)(pl pr:Option Addr)(L:List UInt8)(w:World)(hB:BF b hash over under par k v l r pl pr w)(h:Bld c L w)(hl:L.length<=6000000)(hk:k.size<=2000)(hv:v.size<=2000) : Calls prog 112 #[.pointer (some ⟨b,0,none⟩),.int .i64 0,.pointer (some ⟨c,0,none⟩)] w λe w'=>e=.returned (.tuple #[])/\Put c (L++70 :: (sized k.data.toList++sized v.data.toList)) w w':=by
 have HO:=opened_any b hash over under par k v l r pl pr w hB;have HP:Hid (∀g w',Below w.heap.size w w'->w'.heap[g]?=some (.cells #[.string k,.string v,.nilIface,.nilIface,.string ⟨#[]⟩] 151)->Calls prog 221 #[.pointer (some ⟨g,0,none⟩),.pointer (some ⟨c,0,none⟩)] w' λe w''=>e=.returned (.tuple #[])/\Put c (L++70 :: (sized k.data.toList++sized v.data.toList)) w w''):=λg w' hb hg=>by
  refine(fput g c k v _ _ _ L w' hg (h.below hb) hl hk hv).mono ?_;rintro e w'' ⟨rfl,hp⟩;exact⟨rfl,((Put.refl h).below hb).trans hp⟩
 generalize L++70 :: (sized k.data.toList++sized v.data.toList)=L1 at HP⊢;have hm : ∀ (g : Nat) (w' : World), (method 427 84 (.pointer (some ⟨g, 0, none⟩)) "loop.example/s03048/impl.put").run prog w' = .ok (221, .pointer (some ⟨g, 0, none⟩)) w' := fun _ _ => by kernel_rfl
 clear hB h;go_enter func112,ntmps112;go_wp2_with (first|(go_at_call 113;refine HO.mono ?_;rintro e w1 ⟨⟨g,rfl,hg⟩,hb1⟩;have hm:=hm g)|(go_at_call 221;refine(HP.out _ _ hb1 hg).mono ?_;rintro e w2 ⟨rfl,hp2⟩));go_end0;exact⟨rfl,hp2⟩
abbrev into5 (gb c:Nat):Value:=.func (.func 108) #[] #[.pointer (some ⟨gb,0,none⟩),.pointer (some ⟨c,0,none⟩)]
abbrev at5 (c:Nat):Value:=.func (.func 112) #[] #[.pointer (some ⟨c,0,none⟩)]
structure Env5 (wg:World) (B0 base lb c gb xl xa:Nat) (lo hi:ByteArray) (w:World):Prop where
 bx:w.heap[xl]?=some (.cells #[.pointer (some ⟨lb,0,none⟩)] 226)
 ax:w.heap[xa]?=some (.cells #[at5 c] 171)
 gx:w.heap[gb]?=some (.cells #[.string lo,.string hi] 75)
 bel:Below B0 wg w
 hs:base<=w.heap.size
section
variable {wg:World} {B0 base lb c gb xl xa:Nat} {lo hi:ByteArray} {w w':World} {N:Nat->Prop}
theorem Env5.ft (h:Env5 wg B0 base lb c gb xl xa lo hi w)(s:Stc B0 base lb c gb xl xa)(f:Ft c N w w')(hN:∀q,N q->q=lb\/q=c\/base<=q):Env5 wg B0 base lb c gb xl xa lo hi w':=by
 have hh:=s.h0;refine⟨f.keep h.bx (λx=>?_) (by decide),f.keep h.ax (λx=>?_) (by decide),f.keep h.gx (λx=>?_) (by decide),h.bel.trans (f.below s.hc (λq hq=>?_) (Nat.le_trans hh h.hs)),Nat.le_trans h.hs f.size⟩
 ·rcases hN _ x with e|e|e
  ·exact s.n1 e
  ·exact s.n2 e
  ·have:=s.l1;omega
 ·rcases hN _ x with e|e|e
  ·exact s.n3 e
  ·exact s.n4 e
  ·have:=s.l2;omega
 ·rcases hN _ x with e|e|e
  ·exact s.n5 e
  ·exact s.n6 e
  ·have:=s.l3;omega
 ·rcases hN _ hq with e|e|e
  ·rw[e];exact s.hl
  ·rw[e];exact s.hc
  ·omega
theorem Env5.below (h:Env5 wg B0 base lb c gb xl xa lo hi w)(s:Stc B0 base lb c gb xl xa)(hb:Below w.heap.size w w'):Env5 wg B0 base lb c gb xl xa lo hi w':=h.ft s (Ft.of_below (N:=λ_=>False) hb) (λ_ x=>x.elim)
end
theorem g1_rest (t:Int)(ht:t=1\/t=2)(b c xl xa:Nat)(w:World)(ha:w.heap[xa]?=some (.cells #[at5 c] 171)) : Calls prog 149 #[.pointer (some ⟨b,0,none⟩),.int .i64 t,.pointer (some ⟨xl,0,none⟩),.pointer (some ⟨xa,0,none⟩)] w λe w'=>e=.returned (.bool true)/\w'=w:=by
 have a0:=ZC ha 0;have HC:=at_no (some ⟨b,0,none⟩) t ht c w;clear ha;rcases ht with rfl|rfl
 all_goals
  go_enter func149,ntmps149;go_wp2_with (first|(go_at_call 112;refine HC.mono ?_;rintro e w2 ⟨rfl,rfl⟩));go_ret;exact⟨rfl,rfl⟩
theorem g1_before (fnd:ByteArray->FN)(wg:World)(B0 base lb sb c gb xl xa b:Nat)(hash over under pk:ByteArray)(par:Option Addr)(lo hi:ByteArray)(cnt:Nat)(L:List UInt8)(w:World)(s:Stc B0 base lb c gb xl xa)(hE:Env5 wg B0 base lb c gb xl xa lo hi w)(hc:(fnd hash).2=0\/(fnd hash).2=2\/(fnd hash).2=3)(hok:(fnd hash).2=0->(fnd hash).1.1.size<=2000/\(fnd hash).1.2.1.size<=2000)(hL:LD lb sb cnt 0 w)(hB:BR b hash over under par w)(hP:ParAt par pk w)(hS:Bld c L w)(hcn:cnt<=500)(hbb:base<=b)(hl:L.length<=6000000)(HF:Hid (∀w',Below B0 wg w'->Calls prog 190 #[.pointer (some ⟨sb,0,none⟩),.string hash] w' λe w''=>e=.returned (nodeT (fnd hash))/\Below w'.heap.size w' w''))(HR:Hid (∀w',Below B0 wg w'->(fnd hash).2=0->Calls prog 166 #[Value.string (fnd hash).1.1] w' λe w''=>e=.returned (.agg (rkL (fnd hash).1.1).toArray)/\Below w'.heap.size w' w'')) : Calls prog 149 #[.pointer (some ⟨b,0,none⟩),.int .i64 0,.pointer (some ⟨xl,0,none⟩),.pointer (some ⟨xa,0,none⟩)] w λe w'=>e=.returned (.bool (decide (codeF fnd hash over under pk (cnt+1)=0)))/\Ft c (λq=>q=b\/q=lb\/q=c) w w'/\LD lb sb (cnt+1) (codeF fnd hash over under pk (cnt+1)) w'/\(codeF fnd hash over under pk (cnt+1)=0->Kids b hash over under par (fnd hash).1.1 (fnd hash).1.2.1 (fnd hash).1.2.2.1 (fnd hash).1.2.2.2 w w'/\Bld c (L++70 :: (sized (fnd hash).1.1.data.toList++sized (fnd hash).1.2.1.data.toList)) w'):=by
 have x0:=ZC hE.bx 0;have HT:=take_any fnd wg B0 lb sb b hash over under pk par cnt w hc hL hB hP hcn hE.bel s.hl (Nat.le_trans s.h0 hE.hs) HF HR;have hcb:c ≠ b:=by have:=s.l4;omega
 have hcl:c ≠ lb:=λe=>s.n7 e.symm;have HN:Hid (∀w',Fr w.heap.size (λq=>q=b\/q=lb) w w'->w'.cell? ⟨xa,0,none⟩=some (at5 c)/\Bld c L w'):=λw' f=>by
  have hE':=hE.ft s (Ft.of_fr f) (λq hq=>by rcases hq with e|e;exact .inr (.inr (by omega));exact .inl e);exact⟨ZC hE'.ax 0,hS.fr f (λq hq=>by rcases hq with e|e;exact⟨_,_,by rw[e];exact hB,by decide,by decide⟩;exact⟨_,_,by rw[e];exact hL,by decide,by decide⟩)⟩
 have HY:Hid (∀w',Bld c L w'->codeF fnd hash over under pk (cnt+1)=0->LD lb sb (cnt+1) (codeF fnd hash over under pk (cnt+1)) w'->Kids b hash over under par (fnd hash).1.1 (fnd hash).1.2.1 (fnd hash).1.2.2.1 (fnd hash).1.2.2.2 w w'->Calls prog 112 #[.pointer (some ⟨b,0,none⟩),.int .i64 0,.pointer (some ⟨c,0,none⟩)] w' λe w''=>e=.returned (.tuple #[])/\Ft c (λq=>q=c) w' w''/\LD lb sb (cnt+1) (codeF fnd hash over under pk (cnt+1)) w''/\Kids b hash over under par (fnd hash).1.1 (fnd hash).1.2.1 (fnd hash).1.2.2.1 (fnd hash).1.2.2.2 w w''/\Bld c (L++70 :: (sized (fnd hash).1.1.data.toList++sized (fnd hash).1.2.1.data.toList)) w''):=λw' hS' hC hL' hK'=>by
  obtain⟨pl,pr,gl,gr,h1,h2,h3,h4,h5,h6,h7,h8⟩:=hK';obtain⟨o1,o2⟩:=hok (qcp hC).1;refine(at_yes b c hash over under par _ _ _ _ pl pr L w' h1 hS' hl o1 o2).mono ?_;rintro e w'' ⟨rfl,hp⟩;have f:Ft c (λq=>q=c) w' w'':=Ft.of_put hp rfl;have hcw:=(zG hE.gx).1;have l4:=s.l4;have hsz:=hE.hs;refine⟨rfl,f,f.keep hL' (λe=>hcl e.symm) (by decide),⟨pl,pr,gl,gr,f.keep h1 (λe=>hcb e.symm) (by decide),h2.ft f (λq hq e=>by have:=h6 q hq;omega),f.keep h3 (λe=>?_) (by decide),h4.ft f (λq hq e=>by have:=h7 q hq;omega),f.keep h5 (λe=>?_) (by decide),h6,h7,h8⟩,hp.1⟩
  all_goals
   rcases hS' with ⟨_,v',q2,_⟩|⟨_,v',q2,_⟩
   all_goals first
    | exact qai h3 q2 (by decide) e
    | exact qai h5 q2 (by decide) e
 obtain⟨C,hC⟩:=eX (codeF fnd hash over under pk (cnt+1));rw[hC] at HT HY⊢;clear hC hE s hL hB hP HF HR hc hok;generalize Kids b hash over under par (fnd hash).1.1 (fnd hash).1.2.1 (fnd hash).1.2.2.1 (fnd hash).1.2.2.2 w=KK at HT HY⊢;generalize L++70 :: (sized (fnd hash).1.1.data.toList++sized (fnd hash).1.2.1.data.toList)=L1 at HY⊢;cases hz:decide (C=0) with
 | true =>
  rw[hz] at HT;have hz0:=of_decide_eq_true hz;have HY2:Hid (∀w',Bld c L w'->LD lb sb (cnt+1) C w'->KK w'->Calls prog 112 #[.pointer (some ⟨b,0,none⟩),.int .i64 0,.pointer (some ⟨c,0,none⟩)] w' λe w''=>e=.returned (.tuple #[])/\Ft c (λq=>q=c) w' w''/\LD lb sb (cnt+1) C w''/\KK w''/\Bld c L1 w''):=λw' q1 q2 q3=>HY.out w' q1 hz0 q2 q3;have HT2:Calls prog 150 #[.pointer (some ⟨lb,0,none⟩),.pointer (some ⟨b,0,none⟩)] w λe w'=>e=.returned (.bool true)/\Fr w.heap.size (λq=>q=b\/q=lb) w w'/\LD lb sb (cnt+1) C w'/\KK w':=by
   refine HT.mono ?_;rintro e w' ⟨q1,q2,q3,q4⟩;exact⟨q1,q2,q3,q4 hz0⟩
  clear HY HT hz hz0;go_enter func149,ntmps149;go_wp2_with (first|(go_at_call 150;refine HT2.mono ?_;rintro e w2 ⟨rfl,f2,hL2,hk2⟩;obtain⟨a2,hS2⟩:=HN.out w2 f2)|(go_at_call 112;refine(HY2.out _ hS2 hL2 hk2).mono ?_;rintro e w3 ⟨rfl,f3,hL3,hk3,hS3⟩));go_ret;have f2':Ft c (λq=>q=b\/q=lb\/q=c) w w2:=Ft.of_fr ⟨f2.os,f2.tape,f2.output,f2.size,λk hk h1 h2=>f2.block k hk (λx=>h1 (by rcases x with x|x;exact .inl x;exact .inr (.inl x))) h2⟩;exact⟨rfl,f2'.trans f3 (λq _ e=>.inr (.inr e)),hL3,λ_=>⟨hk3,hS3⟩⟩
 | false =>
  rw[hz] at HT;have hz0:=of_decide_eq_false hz;clear HY;go_enter func149,ntmps149;go_wp2_with (first|(go_at_call 150;refine HT.mono ?_;rintro e w2 ⟨rfl,f2,hL2,hk2⟩));go_ret;exact⟨rfl,Ft.of_fr ⟨f2.os,f2.tape,f2.output,f2.size,λk hk h1 h2=>f2.block k hk (λx=>h1 (by rcases x with x|x;exact .inl x;exact .inr (.inl x))) h2⟩,hL2,λh=>absurd h hz0⟩
end Go.Proofs.YtibjhkpgaaapaaaGreatDoor
