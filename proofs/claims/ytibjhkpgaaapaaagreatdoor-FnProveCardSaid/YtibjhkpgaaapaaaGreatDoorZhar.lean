import Derived.Test.YtibjhkpgaaapaaaGreatDoorZhaq
import Derived.Test.YtibjhkpgaaapaaaGreatDoorZhan
import Derived.Test.YtibjhkpgaaapaaaGreatDoorZhap
set_option maxRecDepth 100000
set_option maxHeartbeats 2000000
namespace Go.Proofs.YtibjhkpgaaapaaaGreatDoor
open Go.RowKit Go.Proofs.Sha Tryz
theorem stockOf_any {K:World -> Prop} (HH:Hid (HashSaid K)) (keep:Hid (∀ w1 w2,K w1 -> Below w1.heap.size w1 w2 -> K w2)) (wd:Nat) (a:Option Addr) (ss:List ByteArray) (c:Nat) (w:World) (h:SArg a ss w) (hK:K w) (h1:wd <= 32) :
 Calls prog 54 #[.agg #[.int .i64 (wd:Int),.slice a ss.length c]] w fun e w'=>∃ sb r a' c',e=.returned (.pointer (some ⟨sb,0,none⟩)) /\ StockAt sb r (sb + 1) wd ss a' c' w' /\ Below w.heap.size w w':=by
 have hn:=h.le
 have hbA:Below w.heap.size w (w.alloc (.cells #[.int .i64 (wd:Int),.slice a ss.length c] 31)):=(Below.refl _ _).alloc (Nat.le_refl _) _
 have nA:=heap_alloc_new w (.cells #[.int .i64 (wd:Int),.slice a ss.length c] 31)
 obtain ⟨ga,hga⟩:∃ ga,w.heap.size=ga:=⟨_,rfl⟩
 rw [hga] at nA
 have hsA:(w.alloc (.cells #[.int .i64 (wd:Int),.slice a ss.length c] 31)).heap.size=ga + 1:=by simp;omega
 go_enter func54,ntmps54
 go_upto_region 1 with fail
 try rw [hga]
 generalize w.alloc (.cells #[.int .i64 (wd:Int),.slice a ss.length c] 31)=wa at hbA nA hsA ⊢
 have c0:=ZC nA 0
 go_upto_region 2 with (first | (go_at_call 115;refine (newStock_any wd _).mono ?_;rintro e w1 ⟨sb,r,rfl,hS,hb1,hr1,hr2⟩))
 have nA1:=(hb1.block ga (by omega)).trans nA
 have hbw:=hbA.trans (hb1.mono hbA.size)
 have c1:=ZC nA1 1
 clear c0 hb1 nA
 go_wp2_with fail
 go_loopw [12] (fun t12 wr=>∃ (k:Nat) (a':Option Addr) (c':Nat),k <= ss.length /\ t12=.int .i64 (k:Int) /\ StockAt sb r (sb + 1) wd (ss.take k) a' c' wr /\ Below w.heap.size w wr) (fun t12 _=>ss.length - (intOf t12).toNat)
 case atStart=>exact ⟨0,none,0,Nat.zero_le _,rfl,hS,hbw⟩
 case round =>
  clear c1 nA1 hS hbw
  obtain ⟨k,a',c',hk,rfl,hSk,hbk⟩:=hrel
  by_cases hlt:k < ss.length
  · have z1:decide ((k:Int) < (ss.length:Int))=true:=by simp;omega
    obtain ⟨b,off,rfl,hbl,hc⟩:=(h.below hbk).at_ (by omega)
    have hcx:=hc k hlt
    have htk:ss.take (k + 1)=ss.take k ++ [ss.getD k ⟨#[]⟩]:=by
     rw [List.take_add_one,List.getD_eq_getElem?_getD,List.getElem?_eq_getElem hlt];rfl
    obtain ⟨s,hs⟩:∃ s,ss.getD k ⟨#[]⟩=s:=⟨_,rfl⟩
    have hsz:s.size <= 1048576:=by rw [<- hs];exact h.sz k
    rw [hs] at hcx htk
    have HAdd:Hid (Calls prog 116 #[.pointer (some ⟨sb,0,none⟩),.string s] wr fun e w'=>∃ a'' c'',e=.returned (.tuple #[]) /\ StockAt sb r (sb + 1) wd (ss.take k ++ [s]) a'' c'' w' /\ ∀ n,n <= sb -> n <= r -> Below n wr w'):=stockAdd_any HH keep sb r (sb + 1) wd (ss.take k) a' c' s wr hSk (keep.out _ _ hK hbk) hsz h1 (by rw [List.length_take];omega)
    rw [<- htk] at HAdd
    clear hc hs htk hSk
    have hx0:(0:Int) <= (k:Int):=Int.natCast_nonneg _
    have hx1:(k:Int) < (ss.length:Int):=by omega
    go_wp2_with (first | (go_at_call 116;refine HAdd.out.mono ?_;rintro e w5 ⟨a5,c5,rfl,hS5,hb5⟩))
    have hb6:=hbk.trans (hb5 w.heap.size (by omega) (by omega))
    go_roundw
    case rel=>exact ⟨k + 1,a5,c5,hlt,by go_num,hS5,hb6⟩
    case measure=>simp [intOf];omega
  · obtain rfl:k=ss.length:=by omega
    have z1:decide ((ss.length:Int) < (ss.length:Int))=false:=by simp
    rw [List.take_length] at hSk
    go_wp2_with fail
    go_ret
    exact ⟨sb,r,a',c',rfl,hSk,hbk⟩
def encAt (es:List ByteArray):Option Nat -> ByteArray
 | none=>⟨#[]⟩
 | some i=>es.getD i ⟨#[]⟩
theorem stockFirst_any (sb r base wd:Nat) (es:List ByteArray) (a:Option Addr) (c:Nat) (hash:ByteArray) (w:World) (h:StockAt sb r base wd es a c w) (hs:∀ j,(es.getD j ⟨#[]⟩).size <= 1048576) (hl:es.length <= 1048576) (h1:wd <= 32) (h2:hash.size=wd) (fx:Option Nat) (hfx:firstI (hitB wd es hash) es.length=fx) :
 Calls prog 192 #[.pointer (some ⟨sb,0,none⟩),.string hash] w fun e w'=>e=.returned (.tuple #[.string (encAt es fx),.bool fx.isSome]) /\ Below w.heap.size w w':=by
 have hpl:placesF wd es es.length (cutW wd hash.data.toList)=fx.map fun i=>(i:Int):=by
  rw [placesF_first,<- hfx,show (fun i=>decide (keyW wd (es.getD i ⟨#[]⟩)=cutW wd hash.data.toList))=hitB wd es hash from funext fun i=>key_hit wd es hash h1 h2 i]
 have hlt:∀ i,fx=some i -> i < es.length:=fun i hi=>firstI_lt (hfx.trans hi)
 have hblk:=h.blk
 have hM:=h.map
 have hsa:=own_sarg h.own hl hs
 have hbl:=(Array.getElem?_eq_some_iff.1 hblk).1
 have HF:=find_any wd r _ hash w hM h1 h2
 rw [hpl] at HF
 have c1:=ZC hblk 1
 have c2:=ZC hblk 2
 cases fx with
 | none =>
  have HF':Hid (Calls prog 199 #[.agg #[.int .i64 (wd:Int),.map (some r)],.string hash] w fun e w'=>e=.returned (.tuple #[.int .i64 0,.bool false]) /\ Below w.heap.size w w'):=HF
  clear HF hpl hfx h hM hsa
  go_enter func192,ntmps192
  go_wp2_with (first | (go_at_call 199;refine HF'.out.mono ?_;rintro e w1 ⟨rfl,hb1⟩))
  go_ret2
  exact ⟨rfl,hb1⟩
 | some i =>
  have HF':Hid (Calls prog 199 #[.agg #[.int .i64 (wd:Int),.map (some r)],.string hash] w fun e w'=>e=.returned (.tuple #[.int .i64 (i:Int),.bool true]) /\ Below w.heap.size w w'):=HF
  have hil:=hlt i rfl
  obtain ⟨b,off,rfl,hbb,hcs⟩:=hsa.at_ (by omega)
  have hcx:=hcs i hil
  have HE:Hid (encAt es (some i)=es.getD i ⟨#[]⟩):=rfl
  obtain ⟨x,hx⟩:∃ x,es.getD i ⟨#[]⟩=x:=⟨_,rfl⟩
  rw [hx] at hcx HE
  obtain ⟨m,hm⟩:∃ m,es.length=m:=⟨_,rfl⟩
  rw [hm] at hblk
  have hx0:(0:Int) <= (i:Int):=Int.natCast_nonneg _
  have hx1:(i:Int) < (m:Int):=by omega
  obtain ⟨y,hy⟩:∃ y,encAt es (some i)=y:=⟨_,rfl⟩
  have hyx:Hid (y=x):=by show y=x;rw [<- hy];exact HE.out
  rw [hy]
  clear HF hpl hfx h hM hcs hx hy HE
  go_enter func192,ntmps192
  go_wp2_with (first | (go_at_call 199;refine HF'.out.mono ?_;rintro e w1 ⟨rfl,hb1⟩;have hbk1:=(hb1.block sb hbl).trans hblk;have d0:=ZC hbk1 0;have d1:=(hb1.cell (p:=⟨b,off + i,none⟩) hbb).trans hcx))
  go_ret2
  exact ⟨by rw [hyx.out];rfl,hb1⟩
theorem stockFind_any (D:Dec) (sb r base wd:Nat) (HD:Hid (DecSaid 198 wd D)) (es:List ByteArray) (a:Option Addr) (c:Nat) (hash:ByteArray) (w:World) (h:StockAt sb r base wd es a c w) (hs:∀ j,(es.getD j ⟨#[]⟩).size <= 1048576) (hl:es.length <= 1048576) (h1:wd <= 32) (h2:hash.size=wd) :
 Calls prog 190 #[.pointer (some ⟨sb,0,none⟩),.string hash] w fun e w'=>e=.returned (nodeT (foundR D es (firstI (hitB wd es hash) es.length))) /\ Below w.heap.size w w':=by
 obtain ⟨fx,hfx⟩:∃ fx,firstI (hitB wd es hash) es.length=fx:=⟨_,rfl⟩
 rw [hfx]
 have HF:Hid (∀ w',Below w.heap.size w w' -> Calls prog 192 #[.pointer (some ⟨sb,0,none⟩),.string hash] w' fun e w''=>e=.returned (.tuple #[.string (encAt es fx),.bool fx.isSome]) /\ Below w'.heap.size w' w''):=fun w' hb=>stockFirst_any sb r base wd es a c hash w' (h.below hb) hs hl h1 h2 fx hfx
 have hblk:=h.blk
 have hbl:=(Array.getElem?_eq_some_iff.1 hblk).1
 have hbA:Below w.heap.size w (w.alloc (.cells #[.string ⟨#[]⟩,.string ⟨#[]⟩,.string ⟨#[]⟩,.string ⟨#[]⟩] 73)):=(Below.refl _ _).alloc (Nat.le_refl _) _
 have nB:NBk w.heap.size ⟨#[]⟩ ⟨#[]⟩ ⟨#[]⟩ ⟨#[]⟩ (w.alloc (.cells #[.string ⟨#[]⟩,.string ⟨#[]⟩,.string ⟨#[]⟩,.string ⟨#[]⟩] 73)):=heap_alloc_new w _
 obtain ⟨gb,hgb⟩:∃ gb,w.heap.size=gb:=⟨_,rfl⟩
 rw [hgb] at nB
 have hfin:∀ (W:World) (x y z u:ByteArray),Below w.heap.size w W -> Below w.heap.size w ((((W.setCell ⟨gb,0,none⟩ (.string x)).setCell ⟨gb,1,none⟩ (.string y)).setCell ⟨gb,2,none⟩ (.string z)).setCell ⟨gb,3,none⟩ (.string u)):=fun W x y z u hW=>by
  have hge:w.heap.size <= gb:=by omega
  exact (((hW.setCell (p:=⟨gb,0,none⟩) hge _).setCell (p:=⟨gb,1,none⟩) hge _).setCell (p:=⟨gb,2,none⟩) hge _).setCell (p:=⟨gb,3,none⟩) hge _
 replace hfin:Hid _:=hfin
 cases fx with
 | none =>
  unfold foundR
  clear h hfx
  go_enter func190,ntmps190
  go_upto_region 1 with fail
  try rw [hgb]
  generalize w.alloc (.cells #[.string ⟨#[]⟩,.string ⟨#[]⟩,.string ⟨#[]⟩,.string ⟨#[]⟩] 73)=wa at hbA nB ⊢
  go_upto_region 3 with (first | (go_at_call 192;refine (HF.out _ hbA).mono ?_;rintro e w1 ⟨rfl,hb1⟩))
  have nB1:=nB.below hb1
  have hb2:=hbA.trans (hb1.mono hbA.size)
  obtain ⟨c0,c1,c2,c3,f0,f1,f2,f3⟩:=nB1.at
  go_wp2_with fail
  exact retN Tryz.results190 rfl rfl rfl (nB1.all _ _ _ _) ⟨rfl,hfin.out _ _ _ _ _ hb2⟩
 | some i =>
  have hsz:(es.getD i ⟨#[]⟩).size <= 1048576:=hs i
  have hfr:foundR D es (some i)=if D.ok (es.getD i ⟨#[]⟩) then ((D.k (es.getD i ⟨#[]⟩),D.v (es.getD i ⟨#[]⟩),D.l (es.getD i ⟨#[]⟩),D.r (es.getD i ⟨#[]⟩)),0) else ((⟨#[]⟩,⟨#[]⟩,⟨#[]⟩,⟨#[]⟩),3):=rfl
  rw [hfr]
  have HF2:Hid (∀ w',Below w.heap.size w w' -> Calls prog 192 #[.pointer (some ⟨sb,0,none⟩),.string hash] w' fun e w''=>e=.returned (.tuple #[.string (es.getD i ⟨#[]⟩),.bool true]) /\ Below w'.heap.size w' w''):=HF
  generalize es.getD i ⟨#[]⟩=s at hsz HF2 ⊢
  have HDx:Hid (∀ w',Calls prog 198 #[.string s,.int .i64 (wd:Int)] w' fun e w''=>e=.returned (.tuple #[.agg #[.string (D.k s),.string (D.v s),.string (D.l s),.string (D.r s)],.bool (D.ok s)]) /\ Below w'.heap.size w' w''):=fun w'=>HD.out s w' hsz
  clear hfr HF h hfx HD
  generalize D.k s=xk at HDx ⊢
  generalize D.v s=xv at HDx ⊢
  generalize D.l s=xl at HDx ⊢
  generalize D.r s=xr at HDx ⊢
  cases hok:D.ok s with
  | false =>
   rw [hok] at HDx
   rw [if_neg (by decide)]
   clear hok
   go_enter func190,ntmps190
   go_upto_region 1 with fail
   try rw [hgb]
   generalize w.alloc (.cells #[.string ⟨#[]⟩,.string ⟨#[]⟩,.string ⟨#[]⟩,.string ⟨#[]⟩] 73)=wa at hbA nB ⊢
   go_upto_region 4 with (first | (go_at_call 192;refine (HF2.out _ hbA).mono ?_;rintro e w1 ⟨rfl,hb1⟩))
   have nB1:=nB.below hb1
   have hb2:=hbA.trans (hb1.mono hbA.size)
   have d1:=ZC ((hb2.block sb hbl).trans hblk) 1
   go_upto_region 6 with (first | (go_at_call 198;refine (HDx.out _).mono ?_;rintro e w2 ⟨rfl,hb3⟩))
   have hb4:=hb2.trans (hb3.mono hb2.size)
   have al:Below w2.heap.size w2 (w2.alloc (.cells #[.string xk,.string xv,.string xl,.string xr] 73)):=(Below.refl _ _).alloc (Nat.le_refl _) _
   have nB2:=(nB1.below hb3).below al
   have hb5:=hb4.trans (al.mono hb4.size)
   generalize w2.alloc (.cells #[.string xk,.string xv,.string xl,.string xr] 73)=w3 at nB2 hb5 ⊢
   clear d1 al
   obtain ⟨c0,c1,c2,c3,f0,f1,f2,f3⟩:=nB2.at
   go_wp2_with fail
   exact retN Tryz.results190 rfl rfl rfl (nB2.all _ _ _ _) ⟨rfl,hfin.out _ _ _ _ _ hb5⟩
  | true =>
   rw [hok] at HDx
   rw [if_pos rfl]
   clear hok
   go_enter func190,ntmps190
   go_upto_region 1 with fail
   try rw [hgb]
   generalize w.alloc (.cells #[.string ⟨#[]⟩,.string ⟨#[]⟩,.string ⟨#[]⟩,.string ⟨#[]⟩] 73)=wa at hbA nB ⊢
   go_upto_region 4 with (first | (go_at_call 192;refine (HF2.out _ hbA).mono ?_;rintro e w1 ⟨rfl,hb1⟩))
   have nB1:=nB.below hb1
   have hb2:=hbA.trans (hb1.mono hbA.size)
   have d1:=ZC ((hb2.block sb hbl).trans hblk) 1
   go_upto_region 7 with (first | (go_at_call 198;refine (HDx.out _).mono ?_;rintro e w2 ⟨rfl,hb3⟩))
   have hb4:=hb2.trans (hb3.mono hb2.size)
   have al:Below w2.heap.size w2 (w2.alloc (.cells #[.string xk,.string xv,.string xl,.string xr] 73)):=(Below.refl _ _).alloc (Nat.le_refl _) _
   have nX:NBk w2.heap.size xk xv xl xr (w2.alloc (.cells #[.string xk,.string xv,.string xl,.string xr] 73)):=heap_alloc_new w2 _
   have nB2:=(nB1.below hb3).below al
   have hb5:=hb4.trans (al.mono hb4.size)
   obtain ⟨gx,hgx⟩:∃ gx,w2.heap.size=gx:=⟨_,rfl⟩
   rw [hgx] at nX
   try rw [hgx]
   generalize w2.alloc (.cells #[.string xk,.string xv,.string xl,.string xr] 73)=w3 at nB2 hb5 nX ⊢
   clear d1 al
   obtain ⟨e0,e1,e2,e3,_,_,_,_⟩:=nX.at
   obtain ⟨c0,c1,c2,c3,f0,f1,f2,f3⟩:=nB2.at
   go_wp2_with fail
   exact retN Tryz.results190 rfl rfl rfl (nB2.all _ _ _ _) ⟨rfl,hfin.out _ _ _ _ _ hb5⟩
theorem strNe {t s:ByteArray} (h:¬ t=s):(t.toList == s.toList)=false:=by
 rw [beq_eq_false_iff_ne]
 intro he
 rw [ByteArray.toList_eq,ByteArray.toList_eq] at he
 exact h (ByteArray.ext (Array.toList_inj.1 he))
theorem firstI_step_no {p:Nat -> Bool} {k:Nat} (h:firstI p k=none) (h1:p k=false):firstI p (k + 1)=none:=by
 rw [firstI,h,h1];rfl
theorem firstI_step_yes {p:Nat -> Bool} {k:Nat} (h:firstI p k=none) (h1:p k=true):firstI p (k + 1)=some k:=by
 rw [firstI,h,h1];rfl
theorem firstI_up {p:Nat -> Bool} {k i:Nat} (h:firstI p k=some i) (m:Nat):firstI p (k + m)=some i:=by
 induction m with
 | zero=>exact h
 | succ m ih=>rw [<- Nat.add_assoc,firstI,ih]
theorem firstI_congr {p q:Nat -> Bool} {k:Nat} (h:∀ j,j < k -> p j=q j):firstI p k=firstI q k:=by
 induction k with
 | zero=>rfl
 | succ k ih=>rw [firstI,firstI,ih (fun j hj=>h j (by omega)),h k (Nat.lt_succ_self k)]
theorem lfind_any (D:Dec) (wd:Nat) (HDd:Hid (DecSaid 146 wd D)) (a:Option Addr) (ss:List ByteArray) (c:Nat) (g c':Nat) (hs:List ByteArray) (hash:ByteArray) (w:World) (h:SArg a ss w) (_hl:hs.length=ss.length) (hg:g < w.heap.size) (hh:∀ j,j < ss.length -> w.cell? ⟨g,j,none⟩=some (.string (hs.getD j ⟨#[]⟩))) :
 Calls prog 107 #[.agg #[.int .i64 (wd:Int),.slice a ss.length c],.slice (some ⟨g,0,none⟩) ss.length c',.string hash] w fun e w'=>e=.returned (nodeT (foundR D ss (firstI (fun i=>decide (hs.getD i ⟨#[]⟩=hash)) ss.length))) /\ Below w.heap.size w w':=by
 have hn:=h.le
 obtain ⟨p,hp⟩:∃ p:Nat -> Bool,(fun i=>decide (hs.getD i ⟨#[]⟩=hash))=p:=⟨_,rfl⟩
 obtain ⟨fx,hfx⟩:∃ fx,firstI p ss.length=fx:=⟨_,rfl⟩
 obtain ⟨N,hN⟩:∃ N,ss.length=N:=⟨_,rfl⟩
 rw [hp,hfx]
 rw [hN] at hn hfx hh
 rw [hN]
 obtain ⟨R,hR⟩:∃ R,foundR D ss fx=R:=⟨_,rfl⟩
 rw [hR]
 have hS0:=P2.mk0 w (wd:Int) a N c
 go_enter func107,ntmps107
 go_wp2_with fail
 obtain ⟨ga,hga⟩:∃ ga,w.heap.size=ga:=⟨_,rfl⟩
 obtain ⟨gb,hgb⟩:∃ gb,w.heap.size + 1=gb:=⟨_,rfl⟩
 generalize (w.alloc (.cells #[.int .i64 (wd:Int),.slice a N c] 31)).alloc (.cells #[.string ⟨#[]⟩,.string ⟨#[]⟩,.string ⟨#[]⟩,.string ⟨#[]⟩] 73)=W0 at hS0 ⊢
 rw [hgb,hga] at hS0 ⊢
 clear hgb
 replace hga:Hid _:=hga
 go_loopw [8] (fun t8 wr=>∃ k:Nat,k <= N /\ t8=.int .i64 (k:Int) /\ firstI p k=none /\ P2 w ga gb (wd:Int) a N c wr) (fun t8 _=>N - (intOf t8).toNat)
 case atStart=>exact ⟨0,Nat.zero_le _,rfl,rfl,hS0⟩
 case round =>
  clear hS0
  obtain ⟨k,hk,rfl,hf,hS⟩:=hrel
  by_cases hlt:k < N
  · have z1:decide ((k:Int) < (N:Int))=true:=by simp;omega
    have hx0:(0:Int) <= (k:Int):=Int.natCast_nonneg _
    have hx1:(k:Int) < (N:Int):=by omega
    obtain ⟨x,hx⟩:∃ x,hs.getD k ⟨#[]⟩=x:=⟨_,rfl⟩
    have hcy:=(hS.bw.cell hg).trans (hh k hlt)
    rw [hx] at hcy
    have hpk:p k=decide (x=hash):=by rw [<- hp,<- hx]
    by_cases he:x=hash
    · have z2:(x.toList == hash.toList)=true:=by rw [he];simp
      have hfk:fx=some k:=by
       have h1:=firstI_up (firstI_step_yes hf (hpk.trans (decide_eq_true he))) (N - (k + 1))
       rw [show k + 1 + (N - (k + 1))=N by omega,hfx] at h1
       exact h1
      obtain ⟨b,off,rfl,hbl,hcs⟩:=h.at_ (by omega)
      obtain ⟨s,hs'⟩:∃ s,ss.getD k ⟨#[]⟩=s:=⟨_,rfl⟩
      have hsz:s.size <= 1048576:=by rw [<- hs'];exact h.sz k
      have hR1:R=if D.ok s then ((D.k s,D.v s,D.l s,D.r s),0) else ((⟨#[]⟩,⟨#[]⟩,⟨#[]⟩,⟨#[]⟩),3):=by rw [<- hR,hfk,foundR,hs']
      have hc0:=hcs k (by omega)
      rw [hs'] at hc0
      have hC:Hid (∀ W,P2 w ga gb (wd:Int) (some ⟨b,off,none⟩) N c W -> W.cell? ⟨ga,1,none⟩=some (.slice (some ⟨b,off,none⟩) N c) /\ W.cell? ⟨b,off + k,none⟩=some (.string s) /\ W.cell? ⟨ga,0,none⟩=some (.int .i64 (wd:Int))):=fun W hW=>⟨ZC hW.na 1,(hW.bw.cell hbl).trans hc0,ZC hW.na 0⟩
      have hcx:=(hS.bw.cell hbl).trans hc0
      have hg3:Hid (gb < wr.heap.size):=(Array.getElem?_eq_some_iff.1 hS.nb).1
      clear hcs hs' hc0 hpk hf hh hR hfk hfx hp hx _hl hN
      go_upto_region 5 with fail
      clear hcy z1 z2 he
      have d0:=ZC hS.na 0
      have d1:=ZC hS.na 1
      obtain ⟨xk,hxk⟩:∃ x,D.k s=x:=⟨_,rfl⟩
      obtain ⟨xv,hxv⟩:∃ x,D.v s=x:=⟨_,rfl⟩
      obtain ⟨xl,hxl⟩:∃ x,D.l s=x:=⟨_,rfl⟩
      obtain ⟨xr,hxr⟩:∃ x,D.r s=x:=⟨_,rfl⟩
      cases hok:D.ok s with
      | true =>
       have HD1:Hid (∀ w',Calls prog 146 #[.string s,.int .i64 (wd:Int)] w' fun e w''=>e=.returned (.tuple #[.agg #[.string xk,.string xv,.string xl,.string xr],.bool true]) /\ Below w'.heap.size w' w''):=fun w'=>by
        have:=HDd.out s w' hsz
        rw [hok,hxk,hxv,hxl,hxr] at this
        exact this
       have HR:Hid (R=((xk,xv,xl,xr),0)):=by
        show R=_
        rw [hR1,hok,hxk,hxv,hxl,hxr]
        rfl
       clear hxk hxv hxl hxr hok hR1
       go_region_held3 (fun w'=>w'.cell? ⟨ga,1,none⟩=some (.slice (some ⟨b,off,none⟩) N c) /\ w'.cell? ⟨b,off + k,none⟩=some (.string s) /\ w'.cell? ⟨ga,0,none⟩=some (.int .i64 (wd:Int))) (first | exact ⟨d1,hcx,d0⟩ | exact hC.out _ (hS.below ((Below.refl _ wr).drew.alloc (Nat.le_refl _) _)) | exact hC.out _ hS4 | exact hC.out _ (hS4.set4 hg3.out _ _ _ _) | exact hC.out _ (hS4.below ((Below.refl _ _).alloc (Nat.le_refl _) _))) (first | (go_at_call 146;refine (HD1.out _).mono ?_;rintro e w4 ⟨rfl,hb4⟩;have n4:NBk wr.heap.size ⟨#[]⟩ ⟨#[]⟩ ⟨#[]⟩ ⟨#[]⟩ w4:=NBk.below (show NBk wr.heap.size ⟨#[]⟩ ⟨#[]⟩ ⟨#[]⟩ ⟨#[]⟩ (wr.drew.alloc (.cells #[.string ⟨#[]⟩,.string ⟨#[]⟩,.string ⟨#[]⟩,.string ⟨#[]⟩] 73)) from heap_alloc_new wr.drew _) hb4;have hS4:=(hS.below ((Below.refl _ wr).drew.alloc (Nat.le_refl _) (.cells #[.string ⟨#[]⟩,.string ⟨#[]⟩,.string ⟨#[]⟩,.string ⟨#[]⟩] 73))).below hb4;clear hb4;obtain ⟨k0,k1,k2,k3,l0,l1,l2,l3⟩:=n4.at) | (go_at_call 146;refine (HD1.out _).mono ?_;rintro e w4 ⟨rfl,hb4⟩;have hS4:=hS.below ((Below.refl wr.heap.size wr).drew.trans hb4);clear hb4))
       all_goals (clear d0 d1 hcx)
       · have n5:NBk w4.heap.size xk xv xl xr (w4.alloc (.cells #[.string xk,.string xv,.string xl,.string xr] 73)):=heap_alloc_new _ _
         have hS5:=hS4.below ((Below.refl _ w4).alloc (Nat.le_refl _) (.cells #[.string xk,.string xv,.string xl,.string xr] 73))
         generalize w4.alloc (.cells #[.string xk,.string xv,.string xl,.string xr] 73)=W5 at n5 hS5 ⊢
         generalize w4.heap.size=g5 at n5 ⊢
         clear hS4
         obtain ⟨k0,k1,k2,k3,l0,l1,l2,l3⟩:=n5.at
         obtain ⟨c0,c1,c2,c3,f0,f1,f2,f3⟩:=hS5.nb.at
         go_wp2_with fail
         exact retN Tryz.results107 rfl rfl rfl (hS5.nb.all _ _ _ _) ⟨by rw [HR.out],hS5.fin _ _ _ _⟩
       · have n5:=n4.all xk xv xl xr
         have hS5:=hS4.set4 hg3.out (.string xk) (.string xv) (.string xl) (.string xr)
         generalize (((w4.setCell ⟨wr.heap.size,0,none⟩ (.string xk)).setCell ⟨wr.heap.size,1,none⟩ (.string xv)).setCell ⟨wr.heap.size,2,none⟩ (.string xl)).setCell ⟨wr.heap.size,3,none⟩ (.string xr)=W5 at n5 hS5 ⊢
         generalize wr.heap.size=g5 at n5 ⊢
         clear k0 k1 k2 k3 l0 l1 l2 l3 n4 hS4
         obtain ⟨k0,k1,k2,k3,l0,l1,l2,l3⟩:=n5.at
         obtain ⟨c0,c1,c2,c3,f0,f1,f2,f3⟩:=hS5.nb.at
         go_wp2_with fail
         exact retN Tryz.results107 rfl rfl rfl (hS5.nb.all _ _ _ _) ⟨by rw [HR.out],hS5.fin _ _ _ _⟩
      | false =>
       have HD1:Hid (∀ w',Calls prog 146 #[.string s,.int .i64 (wd:Int)] w' fun e w''=>e=.returned (.tuple #[.agg #[.string xk,.string xv,.string xl,.string xr],.bool false]) /\ Below w'.heap.size w' w''):=fun w'=>by
        have:=HDd.out s w' hsz
        rw [hok,hxk,hxv,hxl,hxr] at this
        exact this
       have HR:Hid (R=((⟨#[]⟩,⟨#[]⟩,⟨#[]⟩,⟨#[]⟩),3)):=by
        show R=_
        rw [hR1,hok,hxk,hxv,hxl,hxr]
        rfl
       clear hxk hxv hxl hxr hok hR1
       go_region_held3 (fun w'=>w'.cell? ⟨ga,1,none⟩=some (.slice (some ⟨b,off,none⟩) N c) /\ w'.cell? ⟨b,off + k,none⟩=some (.string s) /\ w'.cell? ⟨ga,0,none⟩=some (.int .i64 (wd:Int))) (first | exact ⟨d1,hcx,d0⟩ | exact hC.out _ (hS.below ((Below.refl _ wr).drew.alloc (Nat.le_refl _) _)) | exact hC.out _ hS4 | exact hC.out _ (hS4.set4 hg3.out _ _ _ _) | exact hC.out _ (hS4.below ((Below.refl _ _).alloc (Nat.le_refl _) _))) (first | (go_at_call 146;refine (HD1.out _).mono ?_;rintro e w4 ⟨rfl,hb4⟩;have n4:NBk wr.heap.size ⟨#[]⟩ ⟨#[]⟩ ⟨#[]⟩ ⟨#[]⟩ w4:=NBk.below (show NBk wr.heap.size ⟨#[]⟩ ⟨#[]⟩ ⟨#[]⟩ ⟨#[]⟩ (wr.drew.alloc (.cells #[.string ⟨#[]⟩,.string ⟨#[]⟩,.string ⟨#[]⟩,.string ⟨#[]⟩] 73)) from heap_alloc_new wr.drew _) hb4;have hS4:=(hS.below ((Below.refl _ wr).drew.alloc (Nat.le_refl _) (.cells #[.string ⟨#[]⟩,.string ⟨#[]⟩,.string ⟨#[]⟩,.string ⟨#[]⟩] 73))).below hb4;clear hb4;obtain ⟨k0,k1,k2,k3,l0,l1,l2,l3⟩:=n4.at) | (go_at_call 146;refine (HD1.out _).mono ?_;rintro e w4 ⟨rfl,hb4⟩;have hS4:=hS.below ((Below.refl wr.heap.size wr).drew.trans hb4);clear hb4))
       all_goals (clear d0 d1 hcx)
       · have n5:NBk w4.heap.size xk xv xl xr (w4.alloc (.cells #[.string xk,.string xv,.string xl,.string xr] 73)):=heap_alloc_new _ _
         have hS5:=hS4.below ((Below.refl _ w4).alloc (Nat.le_refl _) (.cells #[.string xk,.string xv,.string xl,.string xr] 73))
         generalize w4.alloc (.cells #[.string xk,.string xv,.string xl,.string xr] 73)=W5 at n5 hS5 ⊢
         generalize w4.heap.size=g5 at n5 ⊢
         clear hS4
         obtain ⟨k0,k1,k2,k3,l0,l1,l2,l3⟩:=n5.at
         obtain ⟨c0,c1,c2,c3,f0,f1,f2,f3⟩:=hS5.nb.at
         go_wp2_with fail
         exact retN Tryz.results107 rfl rfl rfl (hS5.nb.all _ _ _ _) ⟨by rw [HR.out],hS5.fin _ _ _ _⟩
       · have n5:=n4.all xk xv xl xr
         have hS5:=hS4.set4 hg3.out (.string xk) (.string xv) (.string xl) (.string xr)
         generalize (((w4.setCell ⟨wr.heap.size,0,none⟩ (.string xk)).setCell ⟨wr.heap.size,1,none⟩ (.string xv)).setCell ⟨wr.heap.size,2,none⟩ (.string xl)).setCell ⟨wr.heap.size,3,none⟩ (.string xr)=W5 at n5 hS5 ⊢
         generalize wr.heap.size=g5 at n5 ⊢
         clear k0 k1 k2 k3 l0 l1 l2 l3 n4 hS4
         obtain ⟨k0,k1,k2,k3,l0,l1,l2,l3⟩:=n5.at
         obtain ⟨c0,c1,c2,c3,f0,f1,f2,f3⟩:=hS5.nb.at
         go_wp2_with fail
         exact retN Tryz.results107 rfl rfl rfl (hS5.nb.all _ _ _ _) ⟨by rw [HR.out],hS5.fin _ _ _ _⟩
    · have z2:(x.toList == hash.toList)=false:=strNe he
      have hf':=firstI_step_no hf (hpk.trans (decide_eq_false he))
      clear hpk hx
      go_wp2_with fail
      go_roundw
      case rel=>exact ⟨k + 1,hlt,by go_num,hf',hS⟩
      case measure=>simp [intOf];omega
  · obtain rfl:k=N:=by omega
    have z1:decide ((k:Int) < (k:Int))=false:=by simp
    have HR:Hid (R=((⟨#[]⟩,⟨#[]⟩,⟨#[]⟩,⟨#[]⟩),2)):=by
     show R=_
     rw [<- hR,<- hfx,hf]
     rfl
    clear hh hR hfx hf hp
    obtain ⟨c0,c1,c2,c3,f0,f1,f2,f3⟩:=hS.nb.at
    go_wp2_with fail
    exact retN Tryz.results107 rfl rfl rfl (hS.nb.all _ _ _ _) ⟨by rw [HR.out],hS.fin _ _ _ _⟩
theorem hashT_hit (wd:Nat) (s hash:ByteArray):decide (hashT wd s=hash)=decide ((sha (78 :: s.data.toList)).take wd=hash.data.toList):=by
 unfold hashT
 by_cases h:(sha (78 :: s.data.toList)).take wd=hash.data.toList
 · rw [decide_eq_true h,decide_eq_true]
   rw [h]
 · rw [decide_eq_false h,decide_eq_false]
   intro he
   apply h
   rw [<- he]
theorem first_hash (wd:Nat) (ss:List ByteArray) (hash:ByteArray):firstI (fun i=>decide ((ss.map (hashT wd)).getD i ⟨#[]⟩=hash)) ss.length=firstI (hitB wd ss hash) ss.length:=by
 refine firstI_congr fun j hj=>?_
 have h1:(ss.map (hashT wd)).getD j ⟨#[]⟩=hashT wd (ss.getD j ⟨#[]⟩):=by
  rw [List.getD_eq_getElem?_getD,List.getElem?_map,List.getD_eq_getElem?_getD,List.getElem?_eq_getElem hj]
  rfl
 rw [h1,hitB,hashT_hit]
theorem wr_in (n:Int) (h:-9223372036854775808 <= n /\ n <= 9223372036854775807):wrap64 n=n:=by unfold wrap64;omega
end Go.Proofs.YtibjhkpgaaapaaaGreatDoor
