import Derived.Test.YtibjhkpgaaapaaaGreatDoorZhal
import Derived.Deep.AppendLies
import Derived.Test.YtibjhkpgaaapaaaGreatDoorZhak
set_option maxRecDepth 100000
set_option maxHeartbeats 1000000
namespace Go.Proofs.YtibjhkpgaaapaaaGreatDoor
open Go.RowKit Go.Proofs.Sha Tryz
theorem ne_of_type {w:World} {g b:Nat} {cs ds:Array Value} {t u:TypeId} (h:w.heap[g]?=some (.cells cs t)) (k:w.heap[b]?=some (.cells ds u)) (ht:t ≠ u):g ≠ b:=by
 intro e
 subst e
 rw [h] at k
 simp only [Option.some.injEq,Obj.cells.injEq] at k
 exact ht k.2.1
def Kids (b:Nat) (hash over under:ByteArray) (par:Option Addr) (k v l r:ByteArray) (w w':World):Prop :=
 ∃ pl pr gl gr,BF b hash over under par k v l r pl pr w' /\ LinkAt l over k (some ⟨gl,0,none⟩) pl w' /\ RKb gl k w' /\ LinkAt r k under (some ⟨gr,0,none⟩) pr w' /\ RKb gr k w' /\ (∀ q,pl=some q -> w.heap.size <= q.block) /\ (∀ q,pr=some q -> w.heap.size <= q.block) /\ (∀ q q',pl=some q -> pr=some q' -> q.block < q'.block)
theorem Kids.from {b:Nat} {hash over under:ByteArray} {par:Option Addr} {k v l r:ByteArray} {w w0 w':World} (h:Kids b hash over under par k v l r w w') (hb:w0.heap.size <= w.heap.size):Kids b hash over under par k v l r w0 w':=by
 obtain ⟨pl,pr,gl,gr,h1,h2,h3,h4,h5,h6,h7,h8⟩:=h
 exact ⟨pl,pr,gl,gr,h1,h2,h3,h4,h5,fun q hq=>Nat.le_trans hb (h6 q hq),fun q hq=>Nat.le_trans hb (h7 q hq),h8⟩
theorem LinkAt.fr {l over under:ByteArray} {par p:Option Addr} {base:Nat} {N:Nat -> Prop} {w w':World} (h:LinkAt l over under par p w) (f:Fr base N w w') (hN:∀ q,p=some q -> ¬ N q.block):LinkAt l over under par p w':=by
 rcases h with h | ⟨h1,q,h2,h3⟩
 · exact .inl h
 · exact .inr ⟨h1,q,h2,f.keep h3 (hN _ h2) (.inl (by decide))⟩
def LD (lb sb:Nat) (cnt:Nat) (code:Int) (w:World):Prop:=w.heap[lb]?=some (.cells #[.pointer (some ⟨sb,0,none⟩),.int .i64 (cnt:Int),.int .i64 code] 228)
theorem LD.below {lb sb cnt:Nat} {code:Int} {w w':World} (h:LD lb sb cnt code w) (hb:Below w.heap.size w w'):LD lb sb cnt code w':=(hb.block lb (Array.getElem?_eq_some_iff.1 h).1).trans h
def codeF (fnd:ByteArray -> FN) (hash over under pk:ByteArray) (cnt:Nat):Int :=
 if (fnd hash).2=2 then 2 else if (fnd hash).2 ≠ 0 then 3 else if (insW over under (fnd hash).1.1 && parW hgW pk (fnd hash).1.1)=false then 3 else if 500 < cnt then 6 else 0
theorem filled_any (fnd:ByteArray -> FN) (lb sb b:Nat) (hash over under pk:ByteArray) (par:Option Addr) (cnt:Nat) (code0:Int) (w:World) (hc:(fnd hash).2=0 \/ (fnd hash).2=2 \/ (fnd hash).2=3) (hL:LD lb sb cnt code0 w) (hB:BR b hash over under par w) (hP:ParAt par pk w) (hcn:cnt <= 1000)
 (HF:Hid (∀ w',Below w.heap.size w w' -> Calls prog 190 #[.pointer (some ⟨sb,0,none⟩),.string hash] w' fun e w''=>e=.returned (nodeT (fnd hash)) /\ Below w'.heap.size w' w''))
 (HR:Hid (∀ w',Below w.heap.size w w' -> (fnd hash).2=0 -> Calls prog 166 #[Value.string (fnd hash).1.1] w' fun e w''=>e=.returned (.agg (rkL (fnd hash).1.1).toArray) /\ Below w'.heap.size w' w'')) :
 Calls prog 176 #[.pointer (some ⟨lb,0,none⟩),.pointer (some ⟨b,0,none⟩)] w fun e w'=>e=.returned (.int .i64 (codeF fnd hash over under pk cnt)) /\ Fr w.heap.size (fun q=>q=b) w w' /\ (codeF fnd hash over under pk cnt=0 -> Kids b hash over under par (fnd hash).1.1 (fnd hash).1.2.1 (fnd hash).1.2.2.1 (fnd hash).1.2.2.2 w w'):=by
 unfold codeF
 obtain ⟨F,hFF⟩:∃ F,fnd hash=F:=⟨_,rfl⟩
 rw [hFF] at hc HF HR ⊢
 clear hFF
 obtain ⟨⟨k,v,l,r⟩,cd⟩:=F
 unfold nodeT at HF
 simp only at hc HF HR ⊢
 have l0:=ZC hL 0
 have b0:=ZC hB 0
 have HS:Hid (∀ W',Below w.heap.size w W' -> W'.cell? ⟨lb,0,none⟩=some (.pointer (some ⟨sb,0,none⟩)) /\ W'.cell? ⟨b,0,none⟩=some (.string hash)):=fun W' hW'=>⟨ZC (hL.below hW') 0,ZC ((hW'.block b (Array.getElem?_eq_some_iff.1 hB).1).trans hB) 0⟩
 have hd:Below w.heap.size w w.drew:=(Below.refl _ _).drew
 have hbA:Below w.heap.size w (w.drew.alloc (.cells #[.string ⟨#[]⟩,.string ⟨#[]⟩,.string ⟨#[]⟩,.string ⟨#[]⟩] 73)):=hd.alloc (Nat.le_refl _) _
 have nA:NBk w.heap.size ⟨#[]⟩ ⟨#[]⟩ ⟨#[]⟩ ⟨#[]⟩ (w.drew.alloc (.cells #[.string ⟨#[]⟩,.string ⟨#[]⟩,.string ⟨#[]⟩,.string ⟨#[]⟩] 73)):=heap_alloc_new w.drew _
 have hfin:Hid (∀ (g:Nat) (W:World) (x y z u:ByteArray),w.heap.size <= g -> Below w.heap.size w W -> Below w.heap.size w ((((W.setCell ⟨g,0,none⟩ (.string x)).setCell ⟨g,1,none⟩ (.string y)).setCell ⟨g,2,none⟩ (.string z)).setCell ⟨g,3,none⟩ (.string u))):=fun g W x y z u hge hW=>(((hW.setCell (p:=⟨g,0,none⟩) hge _).setCell (p:=⟨g,1,none⟩) hge _).setCell (p:=⟨g,2,none⟩) hge _).setCell (p:=⟨g,3,none⟩) hge _
 rcases hc with rfl | rfl | rfl
 · rw [if_neg (by decide:¬ (0:Int)=2),if_neg (by decide:¬ ((0:Int) ≠ 0))]
   cases hfit:(insW over under k && parW hgW pk k) with
   | false =>
    rw [if_pos rfl]
    go_enter func176,ntmps176
    go_upto_region 1 with fail
    go_region_held3 (fun W'=>W'.cell? ⟨lb,0,none⟩=some (.pointer (some ⟨sb,0,none⟩)) /\ W'.cell? ⟨b,0,none⟩=some (.string hash)) (first | exact HS.out _ hd | exact HS.out _ hbA | exact HS.out _ hbB | exact HS.out _ (hbB.alloc hbB.size _) | exact HS.out _ (hfin.out _ _ _ _ _ _ (Nat.le_refl _) hbB) | exact HS.out _ (hfin.out _ _ _ _ _ _ hbB.size (hbB.alloc hbB.size _))) (first | (go_at_call 190;refine (HF.out _ hbA).mono ?_;rintro e w2 ⟨rfl,hb2⟩;have hbB:=hbA.trans (hb2.mono hbA.size);have n2:=nA.below hb2;obtain ⟨c0,c1,c2,c3,f0,f1,f2,f3⟩:=n2.at) | (go_at_call 190;refine (HF.out _ hd).mono ?_;rintro e w2 ⟨rfl,hb2⟩;have hbB:=hd.trans (hb2.mono hd.size);have n2:NBk w2.heap.size ⟨#[]⟩ ⟨#[]⟩ ⟨#[]⟩ ⟨#[]⟩ (w2.alloc (.cells #[.string ⟨#[]⟩,.string ⟨#[]⟩,.string ⟨#[]⟩,.string ⟨#[]⟩] 73)):=heap_alloc_new w2 (.cells #[.string ⟨#[]⟩,.string ⟨#[]⟩,.string ⟨#[]⟩,.string ⟨#[]⟩] 73);obtain ⟨c0,c1,c2,c3,f0,f1,f2,f3⟩:=n2.at))
    case' refine_2.refine_3.refine_3.refine_3.refine_3.refine_3.refine_3.refine_3.refine_3.refine_1.refine_2.refine_3.refine_3.refine_3.refine_1.refine_2.refine_1.refine_2.refine_3 =>
     have nW:NBk w2.heap.size k v l r (w2.alloc (.cells #[.string k,.string v,.string l,.string r] 73)):=heap_alloc_new w2 _
     have hbW:=hbB.alloc hbB.size (.cells #[.string k,.string v,.string l,.string r] 73)
     have hgW:w.heap.size <= w2.heap.size:=hbB.size
     generalize w2.alloc (.cells #[.string k,.string v,.string l,.string r] 73)=W at nW hbW ⊢
     generalize w2.heap.size=gn at nW hgW ⊢
    case' refine_2.refine_3.refine_3.refine_3.refine_3.refine_3.refine_3.refine_3.refine_3.refine_2.refine_1.refine_2.refine_1.refine_2.refine_3.refine_3.refine_3.refine_1.refine_2.refine_3 =>
     obtain ⟨gn,hgn⟩:∃ gn,gn=w.heap.size:=⟨_,rfl⟩
     have hgW:w.heap.size <= gn:=Nat.le_of_eq hgn.symm
     have hbW:=hfin.out gn w2 k v l r hgW hbB
     rw [<- hgn] at n2
     have nW:=n2.all k v l r
     rw [<- hgn]
     clear hgn
     generalize (((w2.setCell ⟨gn,0,none⟩ (.string k)).setCell ⟨gn,1,none⟩ (.string v)).setCell ⟨gn,2,none⟩ (.string l)).setCell ⟨gn,3,none⟩ (.string r)=W at nW hbW ⊢
    all_goals
     have hLW:=hL.below hbW
     have hBW:BR b hash over under par W:=(hbW.block b (Array.getElem?_eq_some_iff.1 hB).1).trans hB
     have hPW:ParAt par pk W:=hP.fr (Fr.of_below (base:=0) (N:=fun _=>False) hbW) (fun _ _ h=>h)
     have HFI:=fillB_any b hash over under pk par k v l r W hBW hPW (fun w' hb'=>HR.out w' (hbW.trans (hb'.mono hbW.size)) (by trivial))
     have hne:lb ≠ b:=ne_of_type hLW hBW (by decide)
     have m0:=ZC nW 0
     have m1:=ZC nW 1
     have m2:=ZC nW 2
     have m3:=ZC nW 3
     rw [hfit] at HFI
     go_wp2_with (first | (go_at_call 191;refine HFI.mono ?_;rintro e w4 ⟨rfl,hf4,hk4⟩))
     go_ret
     exact ⟨rfl,(Fr.of_below hbW).step hf4,fun h=>absurd h (by decide)⟩
   | true =>
    rw [if_neg (by decide:¬ true=false)]
    by_cases h5:500 < cnt
    · rw [if_pos h5]
      go_enter func176,ntmps176
      go_upto_region 1 with fail
      go_region_held3 (fun W'=>W'.cell? ⟨lb,0,none⟩=some (.pointer (some ⟨sb,0,none⟩)) /\ W'.cell? ⟨b,0,none⟩=some (.string hash)) (first | exact HS.out _ hd | exact HS.out _ hbA | exact HS.out _ hbB | exact HS.out _ (hbB.alloc hbB.size _) | exact HS.out _ (hfin.out _ _ _ _ _ _ (Nat.le_refl _) hbB) | exact HS.out _ (hfin.out _ _ _ _ _ _ hbB.size (hbB.alloc hbB.size _))) (first | (go_at_call 190;refine (HF.out _ hbA).mono ?_;rintro e w2 ⟨rfl,hb2⟩;have hbB:=hbA.trans (hb2.mono hbA.size);have n2:=nA.below hb2;obtain ⟨c0,c1,c2,c3,f0,f1,f2,f3⟩:=n2.at) | (go_at_call 190;refine (HF.out _ hd).mono ?_;rintro e w2 ⟨rfl,hb2⟩;have hbB:=hd.trans (hb2.mono hd.size);have n2:NBk w2.heap.size ⟨#[]⟩ ⟨#[]⟩ ⟨#[]⟩ ⟨#[]⟩ (w2.alloc (.cells #[.string ⟨#[]⟩,.string ⟨#[]⟩,.string ⟨#[]⟩,.string ⟨#[]⟩] 73)):=heap_alloc_new w2 (.cells #[.string ⟨#[]⟩,.string ⟨#[]⟩,.string ⟨#[]⟩,.string ⟨#[]⟩] 73);obtain ⟨c0,c1,c2,c3,f0,f1,f2,f3⟩:=n2.at))
      case' refine_2.refine_3.refine_3.refine_3.refine_3.refine_3.refine_3.refine_3.refine_3.refine_1.refine_2.refine_3.refine_3.refine_3.refine_1.refine_2.refine_1.refine_2.refine_3 =>
       have nW:NBk w2.heap.size k v l r (w2.alloc (.cells #[.string k,.string v,.string l,.string r] 73)):=heap_alloc_new w2 _
       have hbW:=hbB.alloc hbB.size (.cells #[.string k,.string v,.string l,.string r] 73)
       have hgW:w.heap.size <= w2.heap.size:=hbB.size
       generalize w2.alloc (.cells #[.string k,.string v,.string l,.string r] 73)=W at nW hbW ⊢
       generalize w2.heap.size=gn at nW hgW ⊢
      case' refine_2.refine_3.refine_3.refine_3.refine_3.refine_3.refine_3.refine_3.refine_3.refine_2.refine_1.refine_2.refine_1.refine_2.refine_3.refine_3.refine_3.refine_1.refine_2.refine_3 =>
       obtain ⟨gn,hgn⟩:∃ gn,gn=w.heap.size:=⟨_,rfl⟩
       have hgW:w.heap.size <= gn:=Nat.le_of_eq hgn.symm
       have hbW:=hfin.out gn w2 k v l r hgW hbB
       rw [<- hgn] at n2
       have nW:=n2.all k v l r
       rw [<- hgn]
       clear hgn
       generalize (((w2.setCell ⟨gn,0,none⟩ (.string k)).setCell ⟨gn,1,none⟩ (.string v)).setCell ⟨gn,2,none⟩ (.string l)).setCell ⟨gn,3,none⟩ (.string r)=W at nW hbW ⊢
      all_goals
       have hLW:=hL.below hbW
       have hBW:BR b hash over under par W:=(hbW.block b (Array.getElem?_eq_some_iff.1 hB).1).trans hB
       have hPW:ParAt par pk W:=hP.fr (Fr.of_below (base:=0) (N:=fun _=>False) hbW) (fun _ _ h=>h)
       have HFI:=fillB_any b hash over under pk par k v l r W hBW hPW (fun w' hb'=>HR.out w' (hbW.trans (hb'.mono hbW.size)) (by trivial))
       have hne:lb ≠ b:=ne_of_type hLW hBW (by decide)
       have m0:=ZC nW 0
       have m1:=ZC nW 1
       have m2:=ZC nW 2
       have m3:=ZC nW 3
       rw [hfit] at HFI
       have h5':(500:Int) < (cnt:Int):=by omega
       go_wp2_with (first | (go_at_call 191;refine HFI.mono ?_;rintro e w4 ⟨rfl,hf4,hk4⟩;have l4:=ZC (hf4.keep hLW hne (.inl (by decide))) 1))
       go_ret
       exact ⟨rfl,(Fr.of_below hbW).step hf4,fun h=>absurd h (by decide)⟩
    · rw [if_neg h5]
      go_enter func176,ntmps176
      go_upto_region 1 with fail
      go_region_held3 (fun W'=>W'.cell? ⟨lb,0,none⟩=some (.pointer (some ⟨sb,0,none⟩)) /\ W'.cell? ⟨b,0,none⟩=some (.string hash)) (first | exact HS.out _ hd | exact HS.out _ hbA | exact HS.out _ hbB | exact HS.out _ (hbB.alloc hbB.size _) | exact HS.out _ (hfin.out _ _ _ _ _ _ (Nat.le_refl _) hbB) | exact HS.out _ (hfin.out _ _ _ _ _ _ hbB.size (hbB.alloc hbB.size _))) (first | (go_at_call 190;refine (HF.out _ hbA).mono ?_;rintro e w2 ⟨rfl,hb2⟩;have hbB:=hbA.trans (hb2.mono hbA.size);have n2:=nA.below hb2;obtain ⟨c0,c1,c2,c3,f0,f1,f2,f3⟩:=n2.at) | (go_at_call 190;refine (HF.out _ hd).mono ?_;rintro e w2 ⟨rfl,hb2⟩;have hbB:=hd.trans (hb2.mono hd.size);have n2:NBk w2.heap.size ⟨#[]⟩ ⟨#[]⟩ ⟨#[]⟩ ⟨#[]⟩ (w2.alloc (.cells #[.string ⟨#[]⟩,.string ⟨#[]⟩,.string ⟨#[]⟩,.string ⟨#[]⟩] 73)):=heap_alloc_new w2 (.cells #[.string ⟨#[]⟩,.string ⟨#[]⟩,.string ⟨#[]⟩,.string ⟨#[]⟩] 73);obtain ⟨c0,c1,c2,c3,f0,f1,f2,f3⟩:=n2.at))
      case' refine_2.refine_3.refine_3.refine_3.refine_3.refine_3.refine_3.refine_3.refine_3.refine_1.refine_2.refine_3.refine_3.refine_3.refine_1.refine_2.refine_1.refine_2.refine_3 =>
       have nW:NBk w2.heap.size k v l r (w2.alloc (.cells #[.string k,.string v,.string l,.string r] 73)):=heap_alloc_new w2 _
       have hbW:=hbB.alloc hbB.size (.cells #[.string k,.string v,.string l,.string r] 73)
       have hgW:w.heap.size <= w2.heap.size:=hbB.size
       generalize w2.alloc (.cells #[.string k,.string v,.string l,.string r] 73)=W at nW hbW ⊢
       generalize w2.heap.size=gn at nW hgW ⊢
      case' refine_2.refine_3.refine_3.refine_3.refine_3.refine_3.refine_3.refine_3.refine_3.refine_2.refine_1.refine_2.refine_1.refine_2.refine_3.refine_3.refine_3.refine_1.refine_2.refine_3 =>
       obtain ⟨gn,hgn⟩:∃ gn,gn=w.heap.size:=⟨_,rfl⟩
       have hgW:w.heap.size <= gn:=Nat.le_of_eq hgn.symm
       have hbW:=hfin.out gn w2 k v l r hgW hbB
       rw [<- hgn] at n2
       have nW:=n2.all k v l r
       rw [<- hgn]
       clear hgn
       generalize (((w2.setCell ⟨gn,0,none⟩ (.string k)).setCell ⟨gn,1,none⟩ (.string v)).setCell ⟨gn,2,none⟩ (.string l)).setCell ⟨gn,3,none⟩ (.string r)=W at nW hbW ⊢
      all_goals
       have hLW:=hL.below hbW
       have hBW:BR b hash over under par W:=(hbW.block b (Array.getElem?_eq_some_iff.1 hB).1).trans hB
       have hPW:ParAt par pk W:=hP.fr (Fr.of_below (base:=0) (N:=fun _=>False) hbW) (fun _ _ h=>h)
       have HFI:=fillB_any b hash over under pk par k v l r W hBW hPW (fun w' hb'=>HR.out w' (hbW.trans (hb'.mono hbW.size)) (by trivial))
       have hne:lb ≠ b:=ne_of_type hLW hBW (by decide)
       have m0:=ZC nW 0
       have m1:=ZC nW 1
       have m2:=ZC nW 2
       have m3:=ZC nW 3
       rw [hfit] at HFI
       have h5':¬ (500:Int) < (cnt:Int):=by omega
       go_wp2_with (first | (go_at_call 191;refine HFI.mono ?_;rintro e w4 ⟨rfl,hf4,hk4⟩;have l4:=ZC (hf4.keep hLW hne (.inl (by decide))) 1))
       go_ret
       exact ⟨rfl,(Fr.of_below hbW).step hf4,fun _=>Kids.from hk4 hbW.size⟩
 · rw [if_pos (rfl:(2:Int)=2)]
   go_enter func176,ntmps176
   go_upto_region 1 with fail
   go_region_held3 (fun W'=>W'.cell? ⟨lb,0,none⟩=some (.pointer (some ⟨sb,0,none⟩)) /\ W'.cell? ⟨b,0,none⟩=some (.string hash)) (first | exact HS.out _ hd | exact HS.out _ hbA | exact HS.out _ hbB | exact HS.out _ (hbB.alloc hbB.size _) | exact HS.out _ (hfin.out _ _ _ _ _ _ (Nat.le_refl _) hbB) | exact HS.out _ (hfin.out _ _ _ _ _ _ hbB.size (hbB.alloc hbB.size _))) (first | (go_at_call 190;refine (HF.out _ hbA).mono ?_;rintro e w2 ⟨rfl,hb2⟩;have hbB:=hbA.trans (hb2.mono hbA.size);have n2:=nA.below hb2;obtain ⟨c0,c1,c2,c3,f0,f1,f2,f3⟩:=n2.at) | (go_at_call 190;refine (HF.out _ hd).mono ?_;rintro e w2 ⟨rfl,hb2⟩;have hbB:=hd.trans (hb2.mono hd.size);have n2:NBk w2.heap.size ⟨#[]⟩ ⟨#[]⟩ ⟨#[]⟩ ⟨#[]⟩ (w2.alloc (.cells #[.string ⟨#[]⟩,.string ⟨#[]⟩,.string ⟨#[]⟩,.string ⟨#[]⟩] 73)):=heap_alloc_new w2 (.cells #[.string ⟨#[]⟩,.string ⟨#[]⟩,.string ⟨#[]⟩,.string ⟨#[]⟩] 73);obtain ⟨c0,c1,c2,c3,f0,f1,f2,f3⟩:=n2.at))
   case' refine_2.refine_3.refine_3.refine_3.refine_3.refine_3.refine_3.refine_3.refine_3.refine_1.refine_2.refine_3.refine_3.refine_3.refine_1.refine_2.refine_1.refine_2.refine_3 =>
    have nW:NBk w2.heap.size k v l r (w2.alloc (.cells #[.string k,.string v,.string l,.string r] 73)):=heap_alloc_new w2 _
    have hbW:=hbB.alloc hbB.size (.cells #[.string k,.string v,.string l,.string r] 73)
    have hgW:w.heap.size <= w2.heap.size:=hbB.size
    generalize w2.alloc (.cells #[.string k,.string v,.string l,.string r] 73)=W at nW hbW ⊢
    generalize w2.heap.size=gn at nW hgW ⊢
   case' refine_2.refine_3.refine_3.refine_3.refine_3.refine_3.refine_3.refine_3.refine_3.refine_2.refine_1.refine_2.refine_1.refine_2.refine_3.refine_3.refine_3.refine_1.refine_2.refine_3 =>
    obtain ⟨gn,hgn⟩:∃ gn,gn=w.heap.size:=⟨_,rfl⟩
    have hgW:w.heap.size <= gn:=Nat.le_of_eq hgn.symm
    have hbW:=hfin.out gn w2 k v l r hgW hbB
    rw [<- hgn] at n2
    have nW:=n2.all k v l r
    rw [<- hgn]
    clear hgn
    generalize (((w2.setCell ⟨gn,0,none⟩ (.string k)).setCell ⟨gn,1,none⟩ (.string v)).setCell ⟨gn,2,none⟩ (.string l)).setCell ⟨gn,3,none⟩ (.string r)=W at nW hbW ⊢
   all_goals
    go_wp2_with fail
    go_ret
    exact ⟨rfl,Fr.of_below hbW,fun h=>absurd h (by decide)⟩
 · rw [if_neg (by decide:¬ (3:Int)=2),if_pos (by decide:(3:Int) ≠ 0)]
   go_enter func176,ntmps176
   go_upto_region 1 with fail
   go_region_held3 (fun W'=>W'.cell? ⟨lb,0,none⟩=some (.pointer (some ⟨sb,0,none⟩)) /\ W'.cell? ⟨b,0,none⟩=some (.string hash)) (first | exact HS.out _ hd | exact HS.out _ hbA | exact HS.out _ hbB | exact HS.out _ (hbB.alloc hbB.size _) | exact HS.out _ (hfin.out _ _ _ _ _ _ (Nat.le_refl _) hbB) | exact HS.out _ (hfin.out _ _ _ _ _ _ hbB.size (hbB.alloc hbB.size _))) (first | (go_at_call 190;refine (HF.out _ hbA).mono ?_;rintro e w2 ⟨rfl,hb2⟩;have hbB:=hbA.trans (hb2.mono hbA.size);have n2:=nA.below hb2;obtain ⟨c0,c1,c2,c3,f0,f1,f2,f3⟩:=n2.at) | (go_at_call 190;refine (HF.out _ hd).mono ?_;rintro e w2 ⟨rfl,hb2⟩;have hbB:=hd.trans (hb2.mono hd.size);have n2:NBk w2.heap.size ⟨#[]⟩ ⟨#[]⟩ ⟨#[]⟩ ⟨#[]⟩ (w2.alloc (.cells #[.string ⟨#[]⟩,.string ⟨#[]⟩,.string ⟨#[]⟩,.string ⟨#[]⟩] 73)):=heap_alloc_new w2 (.cells #[.string ⟨#[]⟩,.string ⟨#[]⟩,.string ⟨#[]⟩,.string ⟨#[]⟩] 73);obtain ⟨c0,c1,c2,c3,f0,f1,f2,f3⟩:=n2.at))
   case' refine_2.refine_3.refine_3.refine_3.refine_3.refine_3.refine_3.refine_3.refine_3.refine_1.refine_2.refine_3.refine_3.refine_3.refine_1.refine_2.refine_1.refine_2.refine_3 =>
    have nW:NBk w2.heap.size k v l r (w2.alloc (.cells #[.string k,.string v,.string l,.string r] 73)):=heap_alloc_new w2 _
    have hbW:=hbB.alloc hbB.size (.cells #[.string k,.string v,.string l,.string r] 73)
    have hgW:w.heap.size <= w2.heap.size:=hbB.size
    generalize w2.alloc (.cells #[.string k,.string v,.string l,.string r] 73)=W at nW hbW ⊢
    generalize w2.heap.size=gn at nW hgW ⊢
   case' refine_2.refine_3.refine_3.refine_3.refine_3.refine_3.refine_3.refine_3.refine_3.refine_2.refine_1.refine_2.refine_1.refine_2.refine_3.refine_3.refine_3.refine_1.refine_2.refine_3 =>
    obtain ⟨gn,hgn⟩:∃ gn,gn=w.heap.size:=⟨_,rfl⟩
    have hgW:w.heap.size <= gn:=Nat.le_of_eq hgn.symm
    have hbW:=hfin.out gn w2 k v l r hgW hbB
    rw [<- hgn] at n2
    have nW:=n2.all k v l r
    rw [<- hgn]
    clear hgn
    generalize (((w2.setCell ⟨gn,0,none⟩ (.string k)).setCell ⟨gn,1,none⟩ (.string v)).setCell ⟨gn,2,none⟩ (.string l)).setCell ⟨gn,3,none⟩ (.string r)=W at nW hbW ⊢
   all_goals
    go_wp2_with fail
    go_ret
    exact ⟨rfl,Fr.of_below hbW,fun h=>absurd h (by decide)⟩
theorem take_any (fnd:ByteArray -> FN) (wg:World) (B0 lb sb b:Nat) (hash over under pk:ByteArray) (par:Option Addr) (cnt:Nat) (w:World) (hc:(fnd hash).2=0 \/ (fnd hash).2=2 \/ (fnd hash).2=3) (hL:LD lb sb cnt 0 w) (hB:BR b hash over under par w) (hP:ParAt par pk w) (hcn:cnt <= 500) (hbw:Below B0 wg w) (hlb:B0 <= lb) (hBs:B0 <= w.heap.size)
 (HF:Hid (∀ w',Below B0 wg w' -> Calls prog 190 #[.pointer (some ⟨sb,0,none⟩),.string hash] w' fun e w''=>e=.returned (nodeT (fnd hash)) /\ Below w'.heap.size w' w''))
 (HR:Hid (∀ w',Below B0 wg w' -> (fnd hash).2=0 -> Calls prog 166 #[Value.string (fnd hash).1.1] w' fun e w''=>e=.returned (.agg (rkL (fnd hash).1.1).toArray) /\ Below w'.heap.size w' w'')) :
 Calls prog 150 #[.pointer (some ⟨lb,0,none⟩),.pointer (some ⟨b,0,none⟩)] w fun e w'=>e=.returned (.bool (decide (codeF fnd hash over under pk (cnt + 1)=0))) /\ Fr w.heap.size (fun q=>q=b \/ q=lb) w w' /\ LD lb sb (cnt + 1) (codeF fnd hash over under pk (cnt + 1)) w' /\ (codeF fnd hash over under pk (cnt + 1)=0 -> Kids b hash over under par (fnd hash).1.1 (fnd hash).1.2.1 (fnd hash).1.2.2.1 (fnd hash).1.2.2.2 w w'):=by
 have hlw:lb < w.heap.size:=(Array.getElem?_eq_some_iff.1 hL).1
 have l1:=ZC hL 1
 have fl:∀ j,w.frozen? ⟨lb,j,none⟩=false:=fun j=>by rw [World.frozen?,show w.heap[lb]?=_ from hL];rfl
 have hwr:wrap64 ((cnt:Int) + 1)=((cnt:Int) + 1):=by exact wr_in64 _ (by omega)
 have hL1:=heap_setCell_same w lb 1 _ 228 (.int .i64 ((cnt:Int) + 1)) hL
 have hne:lb ≠ b:=ne_of_type hL hB (by decide)
 have f1:Fr w.heap.size (fun q=>q=lb) w (w.setCell ⟨lb,1,none⟩ (.int .i64 ((cnt:Int) + 1))):=Fr.set1 _ _ _
 have hb1:Below B0 wg (w.setCell ⟨lb,1,none⟩ (.int .i64 ((cnt:Int) + 1))):=hbw.setCell hlb _
 have hL1:LD lb sb (cnt + 1) 0 (w.setCell ⟨lb,1,none⟩ (.int .i64 ((cnt:Int) + 1))):=by
  have e:((cnt + 1:Nat):Int)=(cnt:Int) + 1:=by omega
  unfold LD
  rw [e]
  exact hL1
 go_enter func150,ntmps150
 go_upto_region 2 with fail
 have hB1:BR b hash over under par (w.setCell ⟨lb,1,none⟩ (.int .i64 ((cnt:Int) + 1))):=f1.keep hB (fun e=>hne e.symm) (.inl (by decide))
 have hP1:ParAt par pk (w.setCell ⟨lb,1,none⟩ (.int .i64 ((cnt:Int) + 1))):=hP.fr f1 (fun g hg e=>ne_of_type hg hL (by decide) e)
 generalize w.setCell ⟨lb,1,none⟩ (.int .i64 ((cnt:Int) + 1))=W1 at hL1 f1 hb1 hB1 hP1 ⊢
 have hs1:=f1.size
 have HC:=filled_any fnd lb sb b hash over under pk par (cnt + 1) 0 W1 hc hL1 hB1 hP1 (by omega) (fun w' hb'=>HF.out w' (hb1.trans (hb'.mono (Nat.le_trans hBs hs1)))) (fun w' hb'=>HR.out w' (hb1.trans (hb'.mono (Nat.le_trans hBs hs1))))
 obtain ⟨C,hC⟩:∃ C,codeF fnd hash over under pk (cnt + 1)=C:=⟨_,rfl⟩
 rw [hC] at HC
 have hCf:Hid (codeF fnd hash over under pk (cnt + 1)=C):=hC
 clear hC hwr l1 fl hL HF HR hB hP hB1 hP1
 go_upto_region 3 with (first | (go_at_call 176;refine HC.mono ?_;rintro e w2 ⟨rfl,hf2,hk2⟩;have hL2:LD lb sb (cnt + 1) 0 w2:=hf2.keep hL1 hne (.inl (by decide));have c2:=ZC hL2 2;have fz2:w2.frozen? ⟨lb,2,none⟩=false:=(by rw [World.frozen?,show w2.heap[lb]?=_ from hL2];rfl)))
 have hL3:LD lb sb (cnt + 1) C (w2.setCell ⟨lb,2,none⟩ (.int .i64 C)):=heap_setCell_same w2 lb 2 _ 228 (.int .i64 C) hL2
 have f3:Fr w2.heap.size (fun q=>q=lb) w2 (w2.setCell ⟨lb,2,none⟩ (.int .i64 C)):=Fr.set1 _ _ _
 generalize w2.setCell ⟨lb,2,none⟩ (.int .i64 C)=W3 at hL3 f3 ⊢
 have d2:=ZC hL3 2
 have hfr:Fr w.heap.size (fun q=>q=b \/ q=lb) w W3:=((f1.mono (fun q _ e=>Or.inr e)).trans ((hf2.base hs1).mono (fun q _ e=>Or.inl e)) (fun q _ e=>e)).trans ((f3.base (Nat.le_trans hs1 hf2.size)).mono (fun q _ e=>Or.inr e)) (fun q _ e=>e)
 have hkid:Hid (C=0 -> Kids b hash over under par (fnd hash).1.1 (fnd hash).1.2.1 (fnd hash).1.2.2.1 (fnd hash).1.2.2.2 w W3):=fun hz=>by
  obtain ⟨pl,pr,gl,gr,h1,h2,h3,h4,h5,h6,h7,h8⟩:=Kids.from (hk2 hz) hs1
  have hlt:lb < w.heap.size:=hlw
  exact ⟨pl,pr,gl,gr,f3.keep h1 (fun e=>hne e.symm) (.inl (by decide)),h2.fr f3 (fun q hq e=>by have:=h6 q hq;omega),f3.keep h3 (ne_of_type h3 hL2 (by decide)) (.inl (by decide)),h4.fr f3 (fun q hq e=>by have:=h7 q hq;omega),f3.keep h5 (ne_of_type h5 hL2 (by decide)) (.inl (by decide)),h6,h7,h8⟩
 clear hk2 hc hL2 hL1 c2 fz2 f1 f3 hf2 hb1 HC
 cases hz:decide (C=0) with
 | true =>
  have hz0:C=0:=of_decide_eq_true hz
  subst hz0
  go_wp2_with fail
  go_ret
  rw [hCf.out]
  exact ⟨rfl,hfr,hL3,fun _=>hkid.out trivial⟩
 | false =>
  have hz0:¬ C=0:=of_decide_eq_false hz
  have hz1:(C == 0)=false:=by simpa using hz0
  go_wp2_with fail
  go_ret
  rw [hCf.out]
  exact ⟨by simp [hz0],hfr,hL3,fun h=>absurd h hz0⟩
theorem Fr.below {B0 base:Nat} {N:Nat -> Prop} {w w':World} (h:Fr base N w w') (hb:B0 <= base) (hN:∀ q,N q -> B0 <= q) (hs:B0 <= w.heap.size):Below B0 w w' :=
 ⟨h.os,h.tape,h.output,h.size,fun q hq=>h.block q (by omega) (fun x=>by have:=hN q x;omega) (fun x=>by omega)⟩
structure Stc (B0 base lb c gb xl xa:Nat):Prop where
 hl:B0 <= lb
 hc:B0 <= c
 h0:B0 <= base
 l1:xl < base
 l2:xa < base
 l3:gb < base
 l4:c < base
 l5:lb < base
 n1:xl ≠ lb
 n2:xl ≠ c
 n3:xa ≠ lb
 n4:xa ≠ c
 n5:gb ≠ lb
 n6:gb ≠ c
 n7:lb ≠ c
section
variable {wg:World} {B0 base lb c gb xl xa:Nat} {lo hi:ByteArray} {w w':World} {N:Nat -> Prop}
end
section
variable {fnd:ByteArray -> FN} {hg:ByteArray -> ByteArray -> Bool} {lo hi:ByteArray}
theorem goF_len:∀ (f:Nat) (hash over under par:ByteArray) (cnt:Nat),(goF fnd hg lo hi f hash over under par cnt).1=0 -> cnt + (goF fnd hg lo hi f hash over under par cnt).2.2.length <= (goF fnd hg lo hi f hash over under par cnt).2.1
 | 0,_,_,_,_,_,h=>by rw [goF] at h;exact absurd h (by decide)
 | f + 1,hash,over,under,par,cnt,h=>by
  cases h1:(emp hash || !canW over under lo hi) with
  | true=>rw [goF_skip h1];exact Nat.le_refl _
  | false =>
   by_cases h2:(fnd hash).2=2
   · rw [goF_missing h1 h2] at h;exact absurd h (by decide)
   · by_cases h20:(fnd hash).2=0
     · cases h3:(insW over under (fnd hash).1.1 && parW hg par (fnd hash).1.1) with
       | false=>rw [goF_place h1 h20 h3] at h;exact absurd h (by decide)
       | true =>
        by_cases h4:500 < cnt + 1
        · rw [goF_many h1 h20 h3 h4] at h;exact absurd h (by decide)
        · have e:fnd hash=(((fnd hash).1.1,(fnd hash).1.2.1,(fnd hash).1.2.2.1,(fnd hash).1.2.2.2),0):=by rw [<- h20]
          rw [goF_node h1 e h3 (by omega) rfl rfl] at h ⊢
          have il:=goF_len f (fnd hash).1.2.2.1 over (fnd hash).1.1 (fnd hash).1.1 (cnt + 1)
          split at h
          · rename_i q;exact absurd h q
          · rename_i q
            have il:=il (by simpa using q)
            split at h
            · rename_i q2;exact absurd h q2
            · rename_i q2
              have ir:=goF_len f (fnd hash).1.2.2.2 (fnd hash).1.1 under (fnd hash).1.1 _ (by simpa using q2)
              rw [if_neg q,if_neg q2]
              simp only [List.length_append]
              have:(if hasW lo hi (fnd hash).1.1=true then [((fnd hash).1.1,(fnd hash).1.2.1)] else []).length <= 1:=by split <;> simp
              omega
     · rw [goF,if_neg (by rw [h1];decide),if_neg h2,if_pos h20] at h;exact absurd h (by decide)
end
structure OS (w:World) (g8 g12 g16 gz g17:Nat) (wd:Nat) (a:Option Addr) (n c:Nat) (over under:ByteArray) (cnt:Nat) (gn gr:Nat) (k v l r:ByteArray) (a2:Option Addr) (rn d2 Qn:Nat) (Qp:List PairT) (W:World):Prop where
 gs:GS w g8 g12 g16 gz g17 wd a n c over under cnt W
 nn:W.heap[gn]?=some (.cells #[.string k,.string v,.string l,.string r] 73)
 rr:W.heap[gr]?=some (.cells #[.slice a2 rn d2,.int .i64 (Qn:Int),.int .i64 0] 158)
 ln:g17 < gn
 lr:g17 < gr
 row:W.ownsRow w.heap.size 81 2 (.slice a2 rn d2) rn (flatP Qp)
section
variable {w:World} {g8 g12 g16 gz g17:Nat} {wd:Nat} {a:Option Addr} {n c:Nat} {over under:ByteArray} {cnt:Nat} {gn gr:Nat} {k v l r:ByteArray} {a2:Option Addr} {rn d2 Qn:Nat} {Qp:List PairT} {W W':World}
theorem OS.below (h:OS w g8 g12 g16 gz g17 wd a n c over under cnt gn gr k v l r a2 rn d2 Qn Qp W) (hb:Below W.heap.size W W'):OS w g8 g12 g16 gz g17 wd a n c over under cnt gn gr k v l r a2 rn d2 Qn Qp W' :=
 ⟨h.gs.below hb,(hb.block _ (Array.getElem?_eq_some_iff.1 h.nn).1).trans h.nn,(hb.block _ (Array.getElem?_eq_some_iff.1 h.rr).1).trans h.rr,h.ln,h.lr,own2_kept h.row (fun q _ hq=>hb.block q hq)⟩
def Far (g17 gn gr:Nat) (a2:Option Addr) (rn d2:Nat) (x:Value):Prop:=∀ q,x.ownBlock=some q -> g17 < q /\ q ≠ gn /\ q ≠ gr /\ (Value.slice a2 rn d2).ownBlock ≠ some q
theorem OS.grown {x:Value} (h:OS w g8 g12 g16 gz g17 wd a n c over under cnt gn gr k v l r a2 rn d2 Qn Qp W) (hg:W.grownBy W' x.ownBlock) (hf:Far g17 gn gr a2 rn d2 x):OS w g8 g12 g16 gz g17 wd a n c over under cnt gn gr k v l r a2 rn d2 Qn Qp W':=by
 have l:=h.gs.lt
 have h1:=h.gs.o1
 have h2:=h.gs.o2
 have h3:=h.gs.o3
 have h4:=h.gs.o4
 have h5:=h.gs.sz
 have far:∀ q,q <= g17 -> q < W.heap.size -> W'.heap[q]?=W.heap[q]?:=fun q hq hl=>hg.block q hl (fun e=>by have:=(hf q e.symm).1;omega)
 refine ⟨⟨h.gs.sz,h1,h2,h3,h4,?_,(far _ (by omega) (by omega)).trans h.gs.n8,(far _ (by omega) (by omega)).trans h.gs.n12,(far _ (by omega) (by omega)).trans h.gs.n16,(far _ (by omega) (by omega)).trans h.gs.nz,(far _ (by omega) (by omega)).trans h.gs.n17⟩,?_,?_,h.ln,h.lr,?_⟩
 · exact ⟨hg.os.trans h.gs.bl.os,hg.tape.trans h.gs.bl.tape,hg.output.trans h.gs.bl.output,Nat.le_trans h.gs.bl.size hg.size,fun q hq=>(far q (by omega) (Nat.lt_of_lt_of_le hq h.gs.bl.size)).trans (h.gs.bl.block q hq)⟩
 · exact (hg.block gn (Array.getElem?_eq_some_iff.1 h.nn).1 (fun e=>(hf gn e.symm).2.1 rfl)).trans h.nn
 · exact (hg.block gr (Array.getElem?_eq_some_iff.1 h.rr).1 (fun e=>(hf gr e.symm).2.2.1 rfl)).trans h.rr
 · exact own2_kept h.row (fun q hv hq=>hg.block q hq (fun e=>(hf q e.symm).2.2.2 hv))
theorem OS.pair (h:OS w g8 g12 g16 gz g17 wd a n c over under cnt gn gr k v l r a2 rn d2 Qn Qp W) (hl:Qp.length=rn) (j:Nat) (hj:j < rn):∃ b,a2=some ⟨b,0,none⟩ /\ W.cell? ⟨b,j * 2,none⟩=some (.string (Qp.getD j noPair).1) /\ W.cell? ⟨b,j * 2 + 1,none⟩=some (.string (Qp.getD j noPair).2):=by
 rcases h.row.2 with ⟨e,h0⟩ | ⟨b,cap',cur,e,hb,hg,q1,q2,q3,q4⟩
 · omega
 · simp only [Value.slice.injEq] at e
   obtain ⟨rfl,_,_⟩:=e
   obtain ⟨e0,e1⟩:=flatP_get Qp j (by omega)
   rw [<- q4] at e0 e1
   rw [List.getElem?_take,if_pos (by omega)] at e0 e1
   exact ⟨b,rfl,(ZC hg _).trans (by simpa using e0),(ZC hg _).trans (by simpa using e1)⟩
structure OutAt (w:World) (g8 g12 g16 gz g17:Nat) (wd:Nat) (a:Option Addr) (n c:Nat) (over under:ByteArray) (cnt:Nat) (gn gr:Nat) (k v l r:ByteArray) (a2:Option Addr) (rn d2 Qn:Nat) (Qp:List PairT) (x:Value) (m:Nat) (xs:List PairT) (W:World):Prop where
 os:OS w g8 g12 g16 gz g17 wd a n c over under cnt gn gr k v l r a2 rn d2 Qn Qp W
 own:W.ownsRow w.heap.size 81 2 x m (flatP xs)
 far:Far g17 gn gr a2 rn d2 x
 len:xs.length=m
theorem OutAt.below {x:Value} {m:Nat} {xs:List PairT} (h:OutAt w g8 g12 g16 gz g17 wd a n c over under cnt gn gr k v l r a2 rn d2 Qn Qp x m xs W) (hb:Below W.heap.size W W'):OutAt w g8 g12 g16 gz g17 wd a n c over under cnt gn gr k v l r a2 rn d2 Qn Qp x m xs W' :=
 ⟨h.os.below hb,own2_kept h.own (fun q _ hq=>hb.block q hq),h.far,h.len⟩
theorem OutAt.more {x:Value} {m m' g cap:Nat} {xs:List PairT} {y:PairT} {o:Obj} (h:OutAt w g8 g12 g16 gz g17 wd a n c over under cnt gn gr k v l r a2 rn d2 Qn Qp x m xs W)
 (hown:W'.ownsRow w.heap.size 81 2 (.slice (some ⟨g,0,none⟩) m' cap) m' (flatP xs ++ [.string y.1,.string y.2])) (hgrow:(W.alloc o).grownBy W' x.ownBlock) (hat:x.ownBlock=some g \/ g=W.heap.size + 1) (hm:m'=m + 1):OutAt w g8 g12 g16 gz g17 wd a n c over under cnt gn gr k v l r a2 rn d2 Qn Qp (.slice (some ⟨g,0,none⟩) m' cap) m' (xs ++ [y]) W':=by
 have ha:=h.below ((Below.refl W.heap.size W).alloc (Nat.le_refl _) o)
 refine ⟨ha.os.grown hgrow h.far,by rw [flatP_app];exact hown,fun q hq=>?_,by rw [List.length_append,h.len,hm];rfl⟩
 obtain rfl:g=q:=Option.some.inj hq
 rcases hat with e | e
 · exact h.far g e
 · have l1:=h.os.gs.lt
   have l2:=(Array.getElem?_eq_some_iff.1 h.os.nn).1
   have l3:=(Array.getElem?_eq_some_iff.1 h.os.rr).1
   refine ⟨by omega,by omega,by omega,fun e2=>?_⟩
   have:=(own2_cells h.os.row e2).2.1
   omega
theorem OutAt.fin {a':Option Addr} {m d':Nat} {xs:List PairT} {R:Int × Nat × List PairT} {A:Act} (h:OutAt w g8 g12 g16 gz g17 wd a n c over under cnt gn gr k v l r a2 rn d2 Qn Qp (.slice a' m d') m xs W) (hR:R=(0,Qn,xs)) (hp:A.tmps.getD 16 undef=.pointer (some ⟨g16,0,none⟩)) (hd:A.defers=[]) :
 bodyPost prog Tryz.f105 (GoPost R w) .ret A (((W.setCell ⟨g16,0,none⟩ (.slice a' m d')).setCell ⟨g16,1,none⟩ (.int .i64 (Qn:Int))).setCell ⟨g16,2,none⟩ (.int .i64 0)):=by
 obtain ⟨h1,h2,h3⟩:=h.os.gs.fin (.slice a' m d') (.int .i64 (Qn:Int)) (.int .i64 0)
 subst hR
 have q4:=h.os.gs.o3
 have q5:=h.os.gs.o4
 refine retG hp hd h1 ⟨fun _=>⟨a',d',by rw [h.len],?_⟩,fun hne=>absurd rfl hne,h2⟩
 rw [h.len]
 exact own2_kept h.own (fun q hv _=>h3 q (by have:=(h.far q hv).1;omega))
end
end Go.Proofs.YtibjhkpgaaapaaaGreatDoor
