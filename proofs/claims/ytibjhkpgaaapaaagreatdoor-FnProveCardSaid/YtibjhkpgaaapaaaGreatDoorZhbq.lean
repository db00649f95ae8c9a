import Derived.Test.YtibjhkpgaaapaaaGreatDoorZhbp
import Derived.Test.YtibjhkpgaaapaaaGreatDoorZhaj
import Derived.Test.YtibjhkpgaaapaaaGreatDoorZhbc
set_option maxRecDepth 100000
set_option maxHeartbeats 4000000
namespace Go.Proofs.YtibjhkpgaaapaaaGreatDoor
open Go.RowKit Go.Proofs.Sha Tryz
def okC (wd:Nat):PT -> Prop
 | .e=>True
 | .s h=>h.size=wd
 | .f k v l r=>k.size < 65536 /\ v.size < 65536 /\ okC wd l /\ okC wd r
def txL:List PT -> List UInt8
 | []=>[]
 | t :: r=>txtP t ++ txL r
def cL:List PT -> Nat
 | []=>0
 | t :: r=>cP t + cL r
def sL:List PT -> Nat
 | []=>0
 | t :: r=>sP t + sL r
theorem txtP_pos:∀ t:PT,0 < (txtP t).length
 | .e=>by simp [txtP]
 | .s h=>by simp [txtP]
 | .f k v l r=>by simp [txtP]
theorem txL_len:∀ st:List PT,st.length <= (txL st).length
 | []=>Nat.le_refl _
 | t :: r=>by
  have h1:=txtP_pos t
  have h2:=txL_len r
  rw [txL,List.length_append,List.length_cons]
  omega
theorem cP_len:∀ t:PT,cP t <= (txtP t).length /\ sP t <= (txtP t).length
 | .e=>⟨Nat.zero_le _,Nat.zero_le _⟩
 | .s h=>⟨Nat.zero_le _,by show 1 <= (83 :: h.data.toList).length;rw [List.length_cons];omega⟩
 | .f k v l r=>by
  have h1:=cP_len l
  have h2:=cP_len r
  rw [cP,sP,txtP,List.length_append,List.length_append,List.length_cons]
  omega
theorem byte_at {s:ByteArray} {a:Nat} {c:UInt8} {X:List UInt8} (h:s.data.toList.drop a=c :: X):a < s.size /\ s.data.toList.getD a 0=c /\ s.data.toList.drop (a + 1)=X:=by
 have hl:s.data.toList.length=s.size:=rfl
 have h1:(s.data.toList.drop a).length=s.size - a:=by rw [List.length_drop,hl]
 rw [h,List.length_cons] at h1
 refine ⟨by omega,?_,?_⟩
 · rw [List.getD_eq_getElem?_getD,<- Nat.add_zero a,<- List.getElem?_drop,h];rfl
 · rw [<- List.drop_drop,h];rfl
theorem sized_at {s:ByteArray} {a:Nat} {k:ByteArray} {X:List UInt8} (hk:k.size < 65536) (h:s.data.toList.drop a=sized k.data.toList ++ X):a + 2 <= s.size /\ szAt s a=k.size /\ s.data.toList.drop (a + 2 + k.size)=X:=by
 have e:sized k.data.toList ++ X=UInt8.ofNat (k.data.toList.length / 256) :: UInt8.ofNat (k.data.toList.length % 256) :: (k.data.toList ++ X):=rfl
 have hkl:k.data.toList.length=k.size:=rfl
 rw [e] at h
 obtain ⟨h1,h2,h3⟩:=byte_at h
 obtain ⟨h4,h5,h6⟩:=byte_at h3
 refine ⟨by omega,?_,?_⟩
 · unfold szAt
   rw [h2,h5,UInt8.toNat_ofNat_of_lt' (by show _ < 256;omega),UInt8.toNat_ofNat_of_lt' (by show _ < 256;omega)]
   omega
 · rw [<- List.drop_drop,show a + 2=a + 1 + 1 from rfl,h6,<- hkl,List.drop_left]
theorem wr_eq (x:Int) (c:Nat) (h:x=(c:Int)) (hc:c <= 9000000):wrap64 x=(c:Int):=by
 rw [h]
 exact wr_in _ (by omega)
theorem at_w (p b0 b1 p':Nat) (h0:b0 < 256) (h1:b1 < 256) (hp:p <= 2000000) (h:p'=p + 2 + (b0 * 256 + b1)):wrap64 (wrap64 ((p:Int) + 2 + wrap64 (wrap64 (b0:Int) * 256)) + wrap64 (b1:Int))=(p':Int):=by
 rw [wr_in (b0:Int) (by omega),wr_in ((b0:Int) * 256) (by omega),wr_in ((p:Int) + 2 + (b0:Int) * 256) (by omega),wr_in (b1:Int) (by omega),wr_in _ (by omega)]
 omega
theorem counts_any (wd:Nat) (hwd:wd <= 32) (t:PT) (ht:okC wd t) (s:ByteArray) (hs:s.data.toList=txtP t) (hz:s.size <= 1300000) (w:World) :
 Calls prog 27 #[.string s,.int .i64 (wd:Int)] w fun e w'=>e=.returned (.tuple #[.int .i64 (cP t:Int),.int .i64 (sP t:Int),.bool true]) /\ Below w.heap.size w w':=by
 have hsl:s.data.toList.length=s.size:=rfl
 have hcs:=cP_len t
 rw [<- hs,hsl] at hcs
 obtain ⟨CF,hCF⟩:∃ C,cP t=C:=⟨_,rfl⟩
 obtain ⟨CS,hCS⟩:∃ C,sP t=C:=⟨_,rfl⟩
 rw [hCF,hCS] at hcs
 have HC:Hid (cP t=CF /\ sP t=CS):=⟨hCF,hCS⟩
 rw [hCF,hCS]
 have hat:s.data.toList.drop 0=txL [t]:=by rw [List.drop_zero,hs];simp [txL]
 go_enter func27,ntmps27
 go_upto_region 5 with fail
 go_loopw [7,8,9,10] (fun t7 t8 t9 t10 wr=>∃ (st:List PT) (a F S:Nat),t7=.int .i64 (st.length:Int) /\ t8=.int .i64 (F:Int) /\ t9=.int .i64 (S:Int) /\ t10=.int .i64 (a:Int) /\ a <= s.size /\ Hid (s.data.toList.drop a=txL st) /\ Hid (F + cL st=CF) /\ Hid (S + sL st=CS) /\ (∀ q ∈ st,okC wd q) /\ Below w.heap.size w wr) (fun _ _ _ t10 _=>s.size + 1 - (intOf t10).toNat)
 case atStart=>exact ⟨[t],0,0,0,rfl,rfl,rfl,rfl,Nat.zero_le _,hat,by show 0 + (cP t + 0)=CF;rw [HC.out.1];omega,by show 0 + (sP t + 0)=CS;rw [HC.out.2];omega,fun q hq=>by rw [List.mem_singleton.1 hq];exact ht,Below.refl _ _⟩
 case round =>
  clear hat
  obtain ⟨st,a,F,S,rfl,rfl,rfl,rfl,ha,hd,hF,hS,hok,hbw⟩:=hrel
  cases st with
  | nil =>
   have hd':=hd.out
   have hae:a=s.size:=by
    have h1:(s.data.toList.drop a).length=s.size - a:=by rw [List.length_drop,hsl]
    rw [hd'] at h1
    have:(0:Nat)=s.size - a:=h1
    omega
   obtain rfl:F=CF:=by have:=hF.out;simpa [cL] using this
   obtain rfl:S=CS:=by have:=hS.out;simpa [sL] using this
   subst hae
   have y1:(((s.size:Nat):Int) == ((s.size:Nat):Int))=true:=by simp
   clear hd hF hS hd' hok hs hsl
   go_wp2_with fail
   exact bodyPost_ret (v:=.tuple #[.int .i64 (F:Int),.int .i64 (S:Int),.bool true]) (by simp [results,Tryz.results27,go_sem]) rfl ⟨rfl,hbw⟩
  | cons q st =>
   have hF':=hF.out
   have hS':=hS.out
   have hd':=hd.out
   have hlen:=txL_len st
   rw [cL] at hF'
   rw [sL] at hS'
   rw [txL] at hd'
   have hq:=hok q (List.mem_cons_self ..)
   have hok':∀ x ∈ st,okC wd x:=fun x hx=>hok x (List.mem_cons_of_mem _ hx)
   have hdl:s.size - a=(txtP q).length + (txL st).length:=by
    have h1:(s.data.toList.drop a).length=s.size - a:=by rw [List.length_drop,hsl]
    rw [hd',List.length_append] at h1
    exact h1.symm
   obtain ⟨n,hn⟩:∃ n,st.length=n:=⟨_,rfl⟩
   obtain ⟨m,hm⟩:∃ m,(q :: st).length=m:=⟨_,rfl⟩
   rw [hm]
   have hm2:m=n + 1:=by rw [<- hm,List.length_cons,hn]
   rw [hn] at hlen
   obtain ⟨a1,ha1⟩:∃ a1,a + 1=a1:=⟨_,rfl⟩
   have hpos:=txtP_pos q
   have o1:decide ((0:Int) < (m:Int))=true:=decide_eq_true (by omega)
   have o2:decide (0 < m)=true:=decide_eq_true (by omega)
   have o3:decide ((s.size:Int) <= (a:Int))=false:=decide_eq_false (by omega)
   have o4:decide (s.size <= a)=false:=decide_eq_false (by omega)
   have i0:(0:Int) <= (a:Int):=Int.natCast_nonneg _
   have i1:(a:Int) < (s.size:Int):=by omega
   have i2:a < s.size:=by omega
   have e1:(a:Int) + 1=(a1:Int):=by omega
   have e2:(m:Int) - 1=(n:Int):=by omega
   have b1:a1 <= 9000000:=by omega
   have b2:n <= 9000000:=by omega
   have hFle:F <= 1300000:=by omega
   have hSle:S <= 1300000:=by omega
   have hx:∀ (c:UInt8) (X:List UInt8),txtP q ++ txL st=c :: X -> ((s[a]'i2).toNat:Int)=(c.toNat:Int) /\ s.data.toList.drop a1=X:=fun c X e=>by
    rw [e] at hd'
    obtain ⟨_,h2,h3⟩:=byte_at hd'
    rw [bget s a i2,h2,<- ha1]
    exact ⟨rfl,h3⟩
   replace hs:Hid _:=hs
   clear hd hF hS hok hd'
   cases q with
   | e =>
    obtain ⟨hb,hr⟩:=hx 69 (txL st) rfl
    replace hb:((s[a]'i2).toNat:Int)=69:=hb
    have hR:Hid (s.data.toList.drop a1=txL st):=hr
    have hF2:Hid (F + cL st=CF):=by show _=_;simpa [cP] using hF'
    have hS2:Hid (S + sL st=CS):=by show _=_;simpa [sP] using hS'
    have hle:a1 <= s.size:=by omega
    have hms:s.size + 1 - ((a:Int) + 1).toNat < s.size + 1 - (a:Int).toNat:=by omega
    have hnl:Hid (st.length=n):=hn
    have hE1:Hid _:=e1
    have w2:wrap64 ((m:Int) - 1)=(n:Int):=wr_eq _ n e2 b2
    clear hx hr hF' hS' hdl hm hm2 ha1 hpos hlen hn e1 e2
    go_wp2_with fail
    exact ⟨⟨st,a1,F,S,by rw [w2,hnl.out],rfl,rfl,by rw [hE1.out],hle,hR,hF2,hS2,hok',hbw⟩,hms⟩
   | s h =>
    replace hq:h.size=wd:=hq
    obtain ⟨hb,hr⟩:=hx 83 (h.data.toList ++ txL st) rfl
    replace hb:((s[a]'i2).toNat:Int)=83:=hb
    obtain ⟨a2,ha2⟩:∃ a2,a1 + wd=a2:=⟨_,rfl⟩
    have hR:Hid (s.data.toList.drop a2=txL st):=by
     show _=_
     have hhl:h.data.toList.length=wd:=hq
     rw [<- ha2,<- List.drop_drop,hr,<- hhl,List.drop_left]
    have htl:(txtP (.s h)).length=wd + 1:=by
     show (83 :: h.data.toList).length=_
     rw [List.length_cons]
     show h.size + 1=_
     omega
    rw [htl] at hdl
    have hF2:Hid (F + cL st=CF):=by show _=_;simpa [cP] using hF'
    obtain ⟨S1,hS1⟩:∃ S1,S + 1=S1:=⟨_,rfl⟩
    have hS2:Hid (S1 + sL st=CS):=by show _=_;rw [sP] at hS';omega
    have hle:a2 <= s.size:=by omega
    have e3:(a1:Int) + (wd:Int)=(a2:Int):=by omega
    have e3b:(a:Int) + 1 + (wd:Int)=(a2:Int):=by omega
    have e4:(S:Int) + 1=(S1:Int):=by omega
    have b3:a2 <= 9000000:=by omega
    have b4:S1 <= 9000000:=by omega
    have hms:s.size + 1 - ((a:Int) + 1 + (wd:Int)).toNat < s.size + 1 - (a:Int).toNat:=by omega
    have hnl:Hid (st.length=n):=hn
    have w1:wrap64 ((a:Int) + 1)=(a1:Int):=wr_eq _ a1 e1 b1
    have w2:wrap64 ((m:Int) - 1)=(n:Int):=wr_eq _ n e2 b2
    have w3:wrap64 ((a1:Int) + (wd:Int))=(a2:Int):=wr_eq _ a2 e3 b3
    have w3b:wrap64 ((a:Int) + 1 + (wd:Int))=(a2:Int):=wr_eq _ a2 e3b b3
    have w4:wrap64 ((S:Int) + 1)=(S1:Int):=wr_eq _ S1 e4 b4
    have hE4:Hid _:=e4
    have hE3:Hid _:=e3b
    clear hx hr hF' hS' hdl hm hm2 ha1 hpos hlen hn e1 e2 e3 e3b e4 hq htl ha2 hS1 b1 b2 b3 b4
    go_wp2_with fail
    exact ⟨⟨st,a2,F,S1,by rw [w2,hnl.out],rfl,by rw [hE4.out],by rw [hE3.out],hle,hR,hF2,hS2,hok',hbw⟩,hms⟩
   | f k v l r =>
    obtain ⟨hk,hv,hl,hr'⟩:=hq
    obtain ⟨hb,hr⟩:=hx 70 (sized k.data.toList ++ (sized v.data.toList ++ (txtP l ++ (txtP r ++ txL st)))) (by rw [txtP];simp)
    replace hb:((s[a]'i2).toNat:Int)=70:=hb
    obtain ⟨c1,c2,c3⟩:=sized_at hk hr
    obtain ⟨d1,d2,d3⟩:=sized_at hv c3
    obtain ⟨P,hP0,hP1,hP2⟩:∃ P:Nat -> Nat,P 0=a1 /\ P 1=a1 + 2 + k.size /\ P 2=a1 + 2 + k.size + 2 + v.size:=⟨fun i=>if i=0 then a1 else if i=1 then a1 + 2 + k.size else a1 + 2 + k.size + 2 + v.size,rfl,rfl,rfl⟩
    have HP:Hid (∀ i,i < 2 -> P i + 2 <= s.size /\ P (i + 1)=P i + 2 + szAt s (P i)):=fun i hi=>by
     rcases Nat.lt_or_ge i 1 with h | h
     · obtain rfl:i=0:=by omega
       rw [hP0,hP1,c2]
       exact ⟨c1,rfl⟩
     · obtain rfl:i=1:=by omega
       rw [hP1,hP2,d2]
       exact ⟨d1,rfl⟩
    have hR:Hid (s.data.toList.drop (P 2)=txL (l :: r :: st)):=by
     show _=_
     rw [hP2,d3]
     rfl
    have htl:(txtP (.f k v l r)).length=1 + (2 + k.size) + (2 + v.size) + (txtP l).length + (txtP r).length:=by
     rw [txtP,List.length_append,List.length_cons,List.length_append,List.length_append,sized_length,sized_length]
     show k.size + 2 + (v.size + 2) + 1 + _=_
     omega
    rw [htl] at hdl
    have hl0:=txtP_pos l
    obtain ⟨F1,hF1⟩:∃ F1,F + 1=F1:=⟨_,rfl⟩
    have hF2:Hid (F1 + cL (l :: r :: st)=CF):=by show _=_;rw [cP] at hF';simp only [cL];omega
    have hS2:Hid (S + sL (l :: r :: st)=CS):=by show _=_;rw [sP] at hS';simp only [sL];omega
    have hok2:Hid (∀ x ∈ l :: r :: st,okC wd x):=fun x hx=>by
     rcases List.mem_cons.1 hx with rfl | hx
     · exact hl
     · rcases List.mem_cons.1 hx with rfl | hx
       · exact hr'
       · exact hok' x hx
    obtain ⟨n2,hn2⟩:∃ n2,n + 2=n2:=⟨_,rfl⟩
    have hnl:Hid ((l :: r :: st).length=n2):=by show _=_;rw [List.length_cons,List.length_cons,hn];omega
    have e3:(n:Int) + 2=(n2:Int):=by omega
    have e4:(F:Int) + 1=(F1:Int):=by omega
    have b3:n2 <= 9000000:=by omega
    have hle:P 2 <= s.size:=by omega
    have hms:a < P 2:=by omega
    have hE4:Hid _:=e4
    have hE1:Hid (P 0=a1):=hP0
    have hE0:Hid _:=e1
    have w2:wrap64 ((m:Int) - 1)=(n:Int):=wr_eq _ n e2 b2
    have w7:wrap64 ((n:Int) + 2)=(n2:Int):=wr_eq _ n2 e3 b3
    have w7h:Hid _:=w7
    clear hx hr hF' hS' hdl hm hm2 ha1 hpos hlen hn e1 e2 e3 e4 htl hF1 b1 b2 b3 c1 c2 c3 d1 d2 d3 hP0 hP1 hP2 hl0 hn2 hk hv hl hr' hok'
    go_upto_region 18 with fail
    go_loopw [10,12] (fun t10 t12 wq=>∃ i:Nat,i <= 2 /\ t12=.int .i64 (i:Int) /\ t10=.int .i64 (P i:Int) /\ Below w.heap.size w wq) (fun _ t12 _=>2 - (intOf t12).toNat)
    case atStart=>exact ⟨0,Nat.zero_le _,rfl,by rw [hE0.out,hE1.out],hbw⟩
    case round =>
     obtain ⟨i,hi,rfl,rfl,hbq⟩:=hrel
     by_cases hi2:i < 2
     · obtain ⟨hp,hp1⟩:=HP.out i hi2
       have y1:decide ((i:Int) < 2)=true:=decide_eq_true (by omega)
       have y2:decide (i < 2)=true:=decide_eq_true hi2
       obtain ⟨p',hpp⟩:∃ p',P (i + 1)=p':=⟨_,rfl⟩
       rw [hpp] at hp1
       have hpp:Hid (P (i + 1)=p'):=hpp
       have hP':Hid (p'=P i + 2 + szAt s (P i)):=hp1
       clear hp1
       generalize P i=p at hp hP'
       have q1:decide ((s.size:Int) < (p:Int) + 2)=false:=decide_eq_false (by omega)
       have q2:decide (s.size < p + 2)=false:=decide_eq_false (by omega)
       have j0:(0:Int) <= (p:Int):=Int.natCast_nonneg _
       have j1:(p:Int) < (s.size:Int):=by omega
       have j2:(0:Int) <= (p:Int) + 1:=by omega
       have j3:(p:Int) + 1 < (s.size:Int):=by omega
       have k1:p < s.size:=by omega
       have k2:p + 1 < s.size:=by omega
       have hp2:p <= 2000000:=by omega
       have u1:=(s[p]'k1).toNat_lt
       have u2:=(s[p + 1]'k2).toNat_lt
       have hsum:p'=p + 2 + ((s[p]'k1).toNat * 256 + (s[p + 1]'k2).toNat):=by
        rw [hP'.out]
        unfold szAt
        rw [bget s p k1,bget s (p + 1) k2]
       have wq:=at_w p (s[p]'k1).toNat (s[p + 1]'k2).toNat p' u1 u2 hp2 hsum
       have wqh:Hid _:=wq
       clear wq hsum u1 u2 hP'
       go_upto_region 22 with fail
       go_region
       rw [wqh.out]
       have hbd:Below w.heap.size w wr.drew:=hbq.trans ((Below.refl wr.heap.size wr).drew.mono hbq.size)
       go_wp2_with fail
       exact ⟨⟨i + 1,hi2,rfl,by rw [hpp.out],hbd⟩,by show 2 - ((i:Int) + 1).toNat < 2 - ((i:Int)).toNat;omega⟩
     · obtain rfl:i=2:=by omega
       have y1:decide (((2:Nat):Int) < 2)=false:=by decide
       have y2:decide (2 < 2)=false:=by decide
       clear w2 w7
       go_wp2_with fail
       exact ⟨⟨l :: r :: st,P 2,F1,S,by rw [w7h.out,hnl.out],by rw [hE4.out],rfl,rfl,hle,hR,hF2,hS2,hok2.out,hbq⟩,by show s.size + 1 - ((P 2:Nat):Int).toNat < s.size + 1 - ((a:Nat):Int).toNat;rw [Int.toNat_natCast,Int.toNat_natCast];omega⟩
theorem hT_le:∀ t:Tr PairT,hT t <= t.size
 | .nil=>Nat.le_refl _
 | .node l x r=>by
  have h1:=hT_le l
  have h2:=hT_le r
  rw [hT]
  simp only [Tr.size]
  split <;> omega
theorem height_nil (a:Option Addr) (c:Nat) (w:World):Calls prog 28 #[.slice a 0 c] w fun e w'=>e=.returned (.int .i64 0) /\ Below w.heap.size w w':=by
 go_enter func28,ntmps28
 go_wp2_with fail
 go_ret
 exact ⟨rfl,Below.refl _ _⟩
theorem height_step (b off:Nat) (ps:List PairT) (c:Nat) (w:World) (h:PArg (some ⟨b,off,none⟩) ps w) (hc:ps.length <= c) (h0:0 < ps.length)
 (ih:∀ (a:Option Addr) (qs:List PairT) (c':Nat) (w':World),qs.length < ps.length -> qs.length <= c' -> PArg a qs w' -> Calls prog 28 #[.slice a qs.length c'] w' fun e w''=>e=.returned (.int .i64 (hT (cutTree qs):Int)) /\ Below w'.heap.size w' w'') :
 Calls prog 28 #[.slice (some ⟨b,off,none⟩) ps.length c] w fun e w'=>e=.returned (.int .i64 (hT (cutTree ps):Int)) /\ Below w.heap.size w w':=by
 have hn:=h.le
 obtain ⟨b',off',he,hbl,hcs⟩:=h.at_ h0
 obtain ⟨rfl,rfl⟩:b=b' /\ off=off':=by simpa using he
 have HC:∀ w',Below w.heap.size w w' -> ∀ j,j < ps.length -> w'.cell? ⟨b,off + j * 2,none⟩=some (.string (keyAt ps j)):=fun w' hb j hj=>(hb.cell (p:=⟨b,off + j * 2,none⟩) hbl).trans (hcs j hj).1
 have HS:Hid (∀ j,(keyAt ps j).size <= 1048576):=fun j=>(h.sz j).1
 have HL:Hid (∀ T,T < ps.length -> ∀ w',Below w.heap.size w w' -> Calls prog 28 #[.slice (some ⟨b,off,none⟩) T c] w' fun e w''=>e=.returned (.int .i64 (hT (cutTree (ps.take T)):Int)) /\ Below w'.heap.size w' w''):=fun T hTl w' hb=>by
  have l1:(ps.take T).length=T:=by rw [List.length_take];omega
  have:=ih (some ⟨b,off,none⟩) (ps.take T) c w' (by omega) (by omega) ((h.below hb).take T)
  rw [l1] at this
  exact this
 have HR:Hid (∀ T,T < ps.length -> ∀ w',Below w.heap.size w w' -> Calls prog 28 #[.slice (if c=T + 1 then some ⟨b,off,none⟩ else some ⟨b,off + (T + 1) * 2,none⟩) (ps.length - (T + 1)) (c - (T + 1))] w' fun e w''=>e=.returned (.int .i64 (hT (cutTree (ps.drop (T + 1))):Int)) /\ Below w'.heap.size w' w''):=fun T hTl w' hb=>by
  have l2:(ps.drop (T + 1)).length=ps.length - (T + 1):=List.length_drop
  have:=ih (if c=T + 1 then some ⟨b,off,none⟩ else some ⟨b,off + (T + 1) * 2,none⟩) (ps.drop (T + 1)) (c - (T + 1)) w' (by omega) (by omega) (by
   by_cases e:c=T + 1
   · rw [if_pos e,List.drop_of_length_le (by omega)];exact PArg.empty _ _
   · rw [if_neg e];exact (h.below hb).drop (T + 1))
  rw [l2] at this
  exact this
 have hcut:Hid (∀ T,topTo ps (ps.length - 1)=T -> cutTree ps=.node (cutTree (ps.take T)) (ps.getD T noPair) (cutTree (ps.drop (T + 1)))):=fun T hTl=>by rw [cutTree,dif_pos h0,hTl]
 have hsz:Hid (∀ T,T < ps.length -> hT (cutTree (ps.take T)) <= 1048576 /\ hT (cutTree (ps.drop (T + 1))) <= 1048576):=fun T hTl=>by
  have h1:=hT_le (cutTree (ps.take T))
  have h2:=hT_le (cutTree (ps.drop (T + 1)))
  rw [cutTree_size,List.length_take] at h1
  rw [cutTree_size,List.length_drop] at h2
  omega
 obtain ⟨n,hnn⟩:∃ n,ps.length=n:=⟨_,rfl⟩
 rw [hnn] at hn h0 HC HL HR hcut hsz hc ⊢
 replace HC:Hid _:=HC
 clear ih hcs h hnn
 have z0:((n:Int) == 0)=false:=by simp;omega
 go_enter func28,ntmps28
 go_upto_region 5 with fail
 go_loopw [3,4] (fun t3 t4 wr=>∃ k T j:Nat,Hid (topTo ps k=T) /\ Hid (j=k + 1) /\ T <= k /\ k < n /\ t3=.int .i64 (T:Int) /\ t4=.int .i64 (j:Int) /\ Below w.heap.size w wr) (fun _ t4 _=>n - (intOf t4).toNat)
 case atStart=>exact ⟨0,0,1,rfl,rfl,Nat.le_refl _,h0,rfl,rfl,Below.refl _ _⟩
 case round =>
  obtain ⟨k,T,j,hTo,hj,hTk,hk,rfl,rfl,hbw⟩:=hrel
  by_cases hlt:j < n
  · have z3:decide ((j:Int) < (n:Int))=true:=by simp;omega
    have z4:decide (j < n)=true:=by rw [decide_eq_true_eq];exact hlt
    have z5:(0:Int) <= (j:Int):=Int.natCast_nonneg _
    have z6:(j:Int) < (n:Int):=by omega
    have q0:(0:Int) <= (T:Int):=Int.natCast_nonneg _
    have q1:(T:Int) < (n:Int):=by omega
    have HD:Hid (∀ w',Below w.heap.size w w' -> w'.cell? ⟨b,off + j * 2,none⟩=some (.string (keyAt ps j)) /\ w'.cell? ⟨b,off + T * 2,none⟩=some (.string (keyAt ps T))):=fun w' hb=>⟨HC.out w' hb j hlt,HC.out w' hb T (by omega)⟩
    have HH:Hid (∀ w',Calls prog 67 #[.string (keyAt ps j),.string (keyAt ps T)] w' fun e w''=>e=.returned (.bool (hgW (keyAt ps j) (keyAt ps T))) /\ Below w'.heap.size w' w''):=fun w'=>shigher_any _ _ w' (HS.out j) (HS.out T)
    have hst:Hid (topTo ps j=if hgW (keyAt ps j) (keyAt ps T)=true then j else T):=by
     show _=_
     rw [hj.out,topTo,hTo.out,beats_rk]
     rfl
    have hTj:T <= j:=by have:=hj.out;omega
    generalize keyAt ps j=kj at HD HH hst
    generalize keyAt ps T=kt at HD HH hst
    generalize hgW kj kt=gg at HH hst
    have hdr:Below wr.heap.size wr wr.drew:=(Below.refl _ _).drew
    have hbd:=hbw.trans (hdr.mono hbw.size)
    go_upto_region 7 with fail
    go_region_held3 (fun W=>W.cell? ⟨b,off + j * 2,none⟩=some (.string kj) /\ W.cell? ⟨b,off + T * 2,none⟩=some (.string kt)) (first | exact HD.out _ hbw | exact HD.out _ hbd | exact HD.out _ hb2) (first | (go_at_call 67;refine (HH.out _).mono ?_;rintro e w2 ⟨rfl,hb2'⟩;have hb2:=hbd.trans (hb2'.mono hbd.size)))
    cases gg with
    | true =>
     rw [if_pos rfl] at hst
     go_wp2_with fail
     go_roundw
     case rel=>exact ⟨j,j,j + 1,hst,rfl,Nat.le_refl _,hlt,rfl,by go_num,hb2⟩
     case measure=>simp [intOf];omega
    | false =>
     rw [if_neg (by decide)] at hst
     go_wp2_with fail
     go_roundw
     case rel=>exact ⟨j,T,j + 1,hst,rfl,hTj,hlt,rfl,by go_num,hb2⟩
     case measure=>simp [intOf];omega
  · have hjn:j=n:=by have:=hj.out;omega
    subst hjn
    have z3:decide ((j:Int) < (j:Int))=false:=by simp
    have hTn:T < j:=by have:=hj.out;omega
    have hTk2:topTo ps (j - 1)=T:=by
     have:=hj.out
     rw [show j - 1=k by omega]
     exact hTo.out
    have hct:=hcut.out T hTk2
    have HL1:Hid _:=HL.out T hTn
    have HR1:Hid _:=HR.out T hTn
    obtain ⟨hz1,hz2⟩:=hsz.out T hTn
    have hRES:hT (cutTree ps)=(if hT (cutTree (ps.take T)) < hT (cutTree (ps.drop (T + 1))) then hT (cutTree (ps.drop (T + 1))) else hT (cutTree (ps.take T))) + 1:=by rw [hct];rfl
    have hRES':Hid _:=hRES
    clear hRES hcut hsz HL HR hct hTk2 HC HS
    obtain ⟨A,hA⟩:∃ A,hT (cutTree (ps.take T))=A:=⟨_,rfl⟩
    obtain ⟨B,hB⟩:∃ B,hT (cutTree (ps.drop (T + 1)))=B:=⟨_,rfl⟩
    rw [hA] at HL1 hRES' hz1
    rw [hB] at HR1 hRES' hz2
    obtain ⟨X,hX⟩:∃ X,hT (cutTree ps)=X:=⟨_,rfl⟩
    rw [hX] at hRES'
    have hXh:Hid _:=hX
    obtain ⟨A2,hA2⟩:∃ A2:Option Addr,(if c=T + 1 then some (⟨b,off,none⟩:Addr) else some ⟨b,off + (T + 1) * 2,none⟩)=A2:=⟨_,rfl⟩
    obtain ⟨n2,hn2⟩:∃ n2,j - (T + 1)=n2:=⟨_,rfl⟩
    rw [hA2,hn2] at HR1
    clear hA hB hX
    have z1:(0:Int) <= (T:Int):=Int.natCast_nonneg _
    have z2:(T:Int) < (j:Int):=by omega
    have z5:(j:Int) <= (c:Int):=by omega
    have z6:(T:Int) <= (c:Int):=by omega
    go_upto_region 10 with (first | (go_at_call 28;refine (HL1.out _ hbw).mono ?_;rintro e w2 ⟨rfl,hb2'⟩))
    have hb2:=hbw.trans (hb2'.mono hbw.size)
    go_upto_region 11 with (first | (go_at_call 28;refine (HR1.out _ hb2).mono ?_;rintro e w3 ⟨rfl,hb3'⟩))
    have hb3:=hb2.trans (hb3'.mono hb2.size)
    clear HL1 HR1 hb3' hb2' hb2 hbw
    by_cases hAB:A < B
    · have y1:decide ((A:Int) < (B:Int))=true:=by simp;omega
      have y2:decide (A < B)=true:=decide_eq_true hAB
      have e3:(B:Int) + 1=(X:Int):=by rw [hRES'.out,if_pos hAB];omega
      have y3:wrap64 ((B:Int) + 1)=((X:Nat):Int):=by
       rw [e3]
       exact wr_in _ (by omega)
      clear e3
      clear hRES' hz1 hz2
      go_wp2_with fail
      go_ret
      exact ⟨by rw [hXh.out,<- y3];rfl,hb3⟩
    · have y1:decide ((A:Int) < (B:Int))=false:=by simp;omega
      have y2:decide (A < B)=false:=decide_eq_false hAB
      have e3:(A:Int) + 1=(X:Int):=by rw [hRES'.out,if_neg hAB];omega
      have y3:wrap64 ((A:Int) + 1)=((X:Nat):Int):=by
       rw [e3]
       exact wr_in _ (by omega)
      clear e3
      clear hRES' hz1 hz2
      go_wp2_with fail
      go_ret
      exact ⟨by rw [hXh.out,<- y3];rfl,hb3⟩
theorem height_any (n:Nat):∀ (a:Option Addr) (ps:List PairT) (c:Nat) (w:World),ps.length <= n -> ps.length <= c -> PArg a ps w -> Calls prog 28 #[.slice a ps.length c] w fun e w'=>e=.returned (.int .i64 (hT (cutTree ps):Int)) /\ Below w.heap.size w w':=by
 induction n with
 | zero =>
  intro a ps c w hn _ _
  obtain rfl:ps=[]:=List.length_eq_zero_iff.1 (by omega)
  have e:cutTree []=.nil:=by rw [cutTree,dif_neg (by decide)]
  rw [e]
  exact height_nil a c w
 | succ n ih =>
  intro a ps c w hn hc h
  by_cases h0:0 < ps.length
  · obtain ⟨b,off,rfl,_,_⟩:=h.at_ h0
    exact height_step b off ps c w h hc h0 (fun a qs c' w' hl hc' hP=>ih a qs c' w' (by omega) hc' hP)
  · obtain rfl:ps=[]:=List.length_eq_zero_iff.1 (by omega)
    have e:cutTree []=.nil:=by rw [cutTree,dif_neg (by decide)]
    rw [e]
    exact height_nil a c w
theorem wless_p (p q:ByteArray) (w:World) (hp:p.size <= 1048576) (hq:q.size <= 1048576) :
 Calls prog 66 #[.string p,.string q] w fun e w'=>e=.returned (.bool (Op.bytesLess p.data.toList q.data.toList)) /\ (∃ m,w'=w.drewN m):=by
 have hpl:p.data.toList.length=p.size:=rfl
 have hql:q.data.toList.length=q.size:=rfl
 go_enter func66,ntmps66
 go_wp2_with fail
 go_loopw [5] (fun t wr=>∃ k:Nat,k <= p.size /\ k <= q.size /\ t=.int .i64 (k:Int) /\ Hid (Op.bytesLess p.data.toList q.data.toList=Op.bytesLess (p.data.toList.drop k) (q.data.toList.drop k)) /\ ∃ m,wr=w.drewN m) (fun t _=>p.size - (intOf t).toNat)
 case atStart=>exact ⟨0,by omega,by omega,rfl,rfl,0,rfl⟩
 case round =>
  obtain ⟨k,hk1,hk2,rfl,HL,hb⟩:=hrel
  by_cases h1:k < p.size
  · by_cases h2:k < q.size
    · have z1:(0:Int) <= (k:Int):=by omega
      have z2:(k:Int) < (p.size:Int):=by omega
      have z3:(k:Int) < (q.size:Int):=by omega
      go_wp2_with fail
      go_region
      rw [bget p k h1,bget q k h2]
      have HE:=less_eq p.data.toList q.data.toList k h1 h2
      have HN:=less_ne p.data.toList q.data.toList k h1 h2
      obtain ⟨x,hx⟩:∃ x,p.data.toList.getD k 0=x:=⟨_,rfl⟩
      obtain ⟨y,hy⟩:∃ y,q.data.toList.getD k 0=y:=⟨_,rfl⟩
      rw [hx,hy] at HE HN
      rw [hx,hy]
      have HXY:Hid (p.data.toList.getD k 0=x /\ q.data.toList.getD k 0=y):=⟨hx,hy⟩
      clear hx hy
      by_cases hxy:x=y
      · have c0:((x.toNat:Int) != (y.toNat:Int))=false:=by rw [hxy];simp
        have HE':Hid (Op.bytesLess p.data.toList q.data.toList=Op.bytesLess (p.data.toList.drop (k + 1)) (q.data.toList.drop (k + 1))):=HL.out.trans (HE hxy)
        clear HE HN hxy
        go_wp2_with fail
        go_roundw
        case rel=>exact ⟨k + 1,by omega,by omega,by go_num,HE',drew1 hb⟩
        case measure=>simp [intOf];omega
      · have c0:((x.toNat:Int) != (y.toNat:Int))=true:=by
         rw [bne_iff_ne];exact fun h=>hxy (UInt8.toNat_inj.1 (by omega))
        have HN':Hid (Op.bytesLess p.data.toList q.data.toList=decide (x.toNat < y.toNat)):=(HL.out.trans (HN hxy)).trans (by simp)
        clear HE HN hxy
        go_wp2_with fail
        go_region
        rw [bget p k h1,bget q k h2,HXY.out.1,HXY.out.2]
        go_wp2
        go_ret
        exact ⟨by rw [HN'.out];rfl,drew1 (drew1 hb)⟩
    · have HN':Hid (Op.bytesLess p.data.toList q.data.toList=decide (p.size < q.size)):=(HL.out.trans (less_end p.data.toList q.data.toList k (.inr (by omega)) (by omega) (by omega))).trans (by simp)
      go_wp2
      go_ret
      exact ⟨by rw [HN'.out];rfl,hb⟩
  · have HN':Hid (Op.bytesLess p.data.toList q.data.toList=decide (p.size < q.size)):=(HL.out.trans (less_end p.data.toList q.data.toList k (.inl (by omega)) (by omega) (by omega))).trans (by simp)
    go_wp2
    go_ret
    exact ⟨by rw [HN'.out];rfl,hb⟩
theorem wsame_any (a b:Option Addr) (ps qs:List PairT) (c d:Nat) (w:World) (h:PArg a ps w) (h':PArg b qs w) :
 Calls prog 22 #[.slice a ps.length c,.slice b qs.length d] w fun e w'=>e=.returned (.bool (decide (ps=qs))) /\ Below w.heap.size w w':=by
 have hn:=h.le
 have hm:=h'.le
 obtain ⟨R,hR⟩:∃ R,decide (ps=qs)=R:=⟨_,rfl⟩
 rw [hR]
 have HR:Hid (decide (ps=qs)=R):=hR
 clear hR
 obtain ⟨N,hN⟩:∃ N,ps.length=N:=⟨_,rfl⟩
 obtain ⟨M,hM⟩:∃ M,qs.length=M:=⟨_,rfl⟩
 rw [hN] at hn ⊢
 rw [hM] at hm ⊢
 by_cases hNM:N=M
 · subst hNM
   have hNl:Hid (ps.length=N):=hN
   have hMl:Hid (qs.length=N):=hM
   clear hN hM
   go_enter func22,ntmps22
   go_wp2_with fail
   go_loopw [5] (fun t wr=>∃ k:Nat,k <= N /\ t=.int .i64 (k:Int) /\ Hid (ps.take k=qs.take k) /\ Below w.heap.size w wr) (fun t _=>N - (intOf t).toNat)
   case atStart=>exact ⟨0,Nat.zero_le _,rfl,rfl,Below.refl _ _⟩
   case round =>
    obtain ⟨k,hk,rfl,hsame,hbw⟩:=hrel
    by_cases hlt:k < N
    · have z1:decide ((k:Int) < (N:Int))=true:=by simp;omega
      have hx0:(0:Int) <= (k:Int):=Int.natCast_nonneg _
      have hx1:(k:Int) < (N:Int):=by omega
      obtain ⟨b1,off1,rfl,hbl1,hc⟩:=(h.below hbw).at_ (by rw [hNl.out];omega)
      obtain ⟨b2,off2,rfl,hbl2,hd⟩:=(h'.below hbw).at_ (by rw [hMl.out];omega)
      obtain ⟨hc1,hc2⟩:=hc k (by rw [hNl.out];exact hlt)
      obtain ⟨hd1,hd2⟩:=hd k (by rw [hMl.out];exact hlt)
      have hkl:k < ps.length:=by rw [hNl.out];exact hlt
      have hkm:k < qs.length:=by rw [hMl.out];exact hlt
      have g1:=getD_lt ps k hkl
      have g2:=getD_lt qs k hkm
      have hstep:ps.getD k noPair=qs.getD k noPair -> ps.take (k + 1)=qs.take (k + 1):=fun e=>by
       rw [List.take_succ_eq_append_getElem hkl,List.take_succ_eq_append_getElem hkm,hsame.out,<- g1,<- g2,e]
      have hneq:ps.getD k noPair ≠ qs.getD k noPair -> R=false:=fun e=>by
       rw [<- HR.out]
       exact decide_eq_false fun q=>e (by rw [q])
      clear g1 g2 hkl hkm hc hd
      obtain ⟨x,hx⟩:∃ x,ps.getD k noPair=x:=⟨_,rfl⟩
      obtain ⟨y,hy⟩:∃ y,qs.getD k noPair=y:=⟨_,rfl⟩
      rw [hx] at hc1 hc2
      rw [hy] at hd1 hd2
      rw [hx,hy] at hstep hneq
      clear hx hy
      obtain ⟨xk,xv⟩:=x
      obtain ⟨yk,yv⟩:=y
      dsimp only at hc1 hc2 hd1 hd2
      replace hstep:Hid _:=hstep
      replace hneq:Hid _:=hneq
      cases v1:(xk.toList == yk.toList) with
      | false =>
       have hRf:Hid (R=false):=hneq.out (fun e=>by
        have:xk=yk:=congrArg Prod.fst e
        subst this
        rw [beq_self_eq_true] at v1
        cases v1)
       clear hstep hneq HR hsame
       go_wp2_with fail
       go_quiet (fail)
       go_wp2_with fail
       go_ret
       exact ⟨by rw [hRf.out];rfl,below_draws nq hbw⟩
      | true =>
       cases v2:(xv.toList == yv.toList) with
       | false =>
        have hRf:Hid (R=false):=hneq.out (fun e=>by
         have:xv=yv:=congrArg Prod.snd e
         subst this
         rw [beq_self_eq_true] at v2
         cases v2)
        clear hstep hneq HR hsame
        go_wp2_with fail
        go_quiet (fail)
        go_wp2_with fail
        go_ret
        exact ⟨by rw [hRf.out];rfl,below_draws nq hbw⟩
       | true =>
        have e1:xk=yk:=ByteArray.ext (Array.toList_inj.1 (by rw [beq_iff_eq,ByteArray.toList_eq,ByteArray.toList_eq] at v1;exact v1))
        have e2:xv=yv:=ByteArray.ext (Array.toList_inj.1 (by rw [beq_iff_eq,ByteArray.toList_eq,ByteArray.toList_eq] at v2;exact v2))
        have hs':Hid (ps.take (k + 1)=qs.take (k + 1)):=hstep.out (by rw [e1,e2])
        clear hstep hneq HR hsame e1 e2
        go_wp2_with fail
        go_quiet (fail)
        go_wp2_with fail
        go_roundw
        case rel=>exact ⟨k + 1,hlt,by go_num,hs',below_draws nq hbw⟩
        case measure=>simp [intOf];omega
    · obtain rfl:k=N:=by omega
      have z1:decide ((k:Int) < (k:Int))=false:=by simp
      have hRt:Hid (R=true):=by
       show R=true
       rw [<- HR.out,decide_eq_true_eq]
       have e:=hsame.out
       rw [List.take_of_length_le (by rw [hNl.out];exact Nat.le_refl _),List.take_of_length_le (by rw [hMl.out];exact Nat.le_refl _)] at e
       exact e
      clear hsame HR
      go_wp2_with fail
      go_ret
      exact ⟨by rw [hRt.out];rfl,hbw⟩
 · have z0:((N:Int) != (M:Int))=true:=by rw [bne_iff_ne];omega
   have hRf:Hid (R=false):=by
    show R=false
    rw [<- HR.out]
    exact decide_eq_false fun e=>hNM (by rw [<- hN,<- hM,e])
   clear HR hN hM
   go_enter func22,ntmps22
   go_wp2_with fail
   go_ret
   exact ⟨by rw [hRf.out];rfl,Below.refl _ _⟩
theorem wless_q (p q:ByteArray) (w:World) (hp:p.size <= 1048576) (hq:q.size <= 1048576):Calls prog 66 #[.string p,.string q] w fun e w'=>e=.returned (.bool (lessB p q)) /\ (∃ m,w'=w.drewN m):=by
 have:=wless_p p q w hp hq
 rw [lessL] at this
 exact this
end Go.Proofs.YtibjhkpgaaapaaaGreatDoor
