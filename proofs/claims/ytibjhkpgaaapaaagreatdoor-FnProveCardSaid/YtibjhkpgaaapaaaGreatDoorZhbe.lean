import Derived.Test.YtibjhkpgaaapaaaGreatDoorZhbc
import Derived.Test.YtibjhkpgaaapaaaGreatDoorZhbd
import Derived.Test.YtibjhkpgaaapaaaGreatDoorZhar
import Derived.Test.YtibjhkpgaaapaaaGreatDoorZhav
import Derived.Deep.RegionLaw
set_option maxRecDepth 100000
set_option maxHeartbeats 2000000
namespace Go.Proofs.YtibjhkpgaaapaaaGreatDoor
open Go.RowKit Go.Proofs.Sha Tryz
def SvM (gs sa ra:Nat) (q:Nat):Prop:=q=gs \/ q=sa \/ q=ra
def SmallE (ad:List ByteArray):Prop:=ad.length <= 20000 /\ ∀ j,(ad.getD j ⟨#[]⟩).size <= 1048576
def SvAt (gs so sa ra base wd:Nat):SvR -> World -> Prop
 | .go ad,w=>SVb gs so sa 0 ⟨#[]⟩ ⟨#[]⟩ w /\ (∃ a c,StockAt sa ra base wd ad a c w) /\ SmallE ad
 | .full,w=>SVb gs so sa 1 ⟨#[]⟩ ⟨#[]⟩ w
 | .clash u e,w=>SVb gs so sa 4 (txt u) (txt e) w
def SvR.isGo:SvR -> Bool
 | .go _=>true
 | _=>false
theorem svStep_some {wd:Nat} {ss ad:List ByteArray} {e u:ByteArray} (h:fst2 wd ss ad (hashT wd e)=some u):svStep wd ss (.go ad) e=if u=e then .go ad else .clash u e:=by
 unfold fst2 at h
 unfold svStep
 cases hf:firstI (hitB wd (ss ++ ad) (hashT wd e)) (ss.length + ad.length) with
 | none=>rw [hf] at h;cases h
 | some i =>
  rw [hf] at h
  simp only [Option.map_some,Option.some.injEq] at h
  simp only [hf,h]
theorem svStep_none {wd:Nat} {ss ad:List ByteArray} {e:ByteArray} (h:fst2 wd ss ad (hashT wd e)=none):svStep wd ss (.go ad) e=if 20000 <= ss.length + ad.length then .full else .go (ad ++ [e]):=by
 unfold fst2 at h
 unfold svStep
 cases hf:firstI (hitB wd (ss ++ ad) (hashT wd e)) (ss.length + ad.length) with
 | none=>simp only [hf]
 | some i=>rw [hf] at h;cases h
theorem fst2_small {wd:Nat} {ss ad:List ByteArray} {hash u:ByteArray} (h:fst2 wd ss ad hash=some u) (h1:∀ j,(ss.getD j ⟨#[]⟩).size <= 1048576) (h2:∀ j,(ad.getD j ⟨#[]⟩).size <= 1048576):u.size <= 1048576:=by
 cases hf:firstI (hitB wd ss hash) ss.length with
 | some i=>rw [fst2_old hf] at h;rw [<- Option.some.inj h];exact h1 i
 | none =>
  rw [fst2_new hf] at h
  cases hg:firstI (hitB wd ad hash) ad.length with
  | none=>rw [hg] at h;cases h
  | some i=>rw [hg] at h;rw [<- Option.some.inj h];exact h2 i
theorem SmallE.snoc {ad:List ByteArray} {e:ByteArray} (h:SmallE ad) (h1:ad.length < 20000) (he:e.size <= 1048576):SmallE (ad ++ [e]):=by
 refine ⟨by rw [List.length_append];show ad.length + 1 <= _;omega,fun j=>?_⟩
 rw [List.getD_eq_getElem?_getD,List.getElem?_append]
 split
 · have:=h.2 j
   rw [List.getD_eq_getElem?_getD] at this
   exact this
 · cases hx:([e]:List ByteArray)[j - ad.length]? with
   | none=>exact Nat.zero_le _
   | some y =>
    have:y ∈ [e]:=List.mem_of_getElem? hx
    rw [List.mem_singleton] at this
    subst this
    exact he
theorem Fr.upd {N:Nat -> Prop} {w w':World} (h:Fr w.heap.size N w w'):Upd N w w' :=
 ⟨h.os,h.tape,h.output,h.size,fun q hq hn=>h.block q hq hn (fun x=>by have:=x.1;omega)⟩
theorem svTake_any (HH:Hid (HashSaid KTab)) (gs so sa ra base wd:Nat) (ss:List ByteArray) (ro bo:Nat) (ao:Option Addr) (co:Nat) (w4:World) (hb4:base=w4.heap.size)
 (hOld:Hid (∀ W,Upd (SvM gs sa ra) w4 W -> StockAt so ro bo wd ss ao co W)) (hKT:Hid (∀ W,Upd (SvM gs sa ra) w4 W -> KTab W)) (hs1:ss.length <= 20000) (hs2:∀ j,(ss.getD j ⟨#[]⟩).size <= 1048576) (_hw1:1 <= wd) (hw2:wd <= 32)
 (hn1:gs < base) (hn2:gs ≠ sa) (hn3:gs ≠ ra) (tb:Nat) (x:PairT) (pl pr:Option Addr) (enc:ByteArray) (he:enc.size <= 10000) (hT:TB tb x pl pr (enc,hashT wd enc) w4) (hnt:¬ SvM gs sa ra tb)
 (ad:List ByteArray) (W:World) (hU:Upd (SvM gs sa ra) w4 W) (hA:SvAt gs so sa ra base wd (.go ad) W) :
 Calls prog 162 #[.pointer (some ⟨gs,0,none⟩),.pointer (some ⟨tb,0,none⟩)] W fun e W'=>e=.returned (.bool (svStep wd ss (.go ad) enc).isGo) /\ SvAt gs so sa ra base wd (svStep wd ss (.go ad) enc) W' /\ Upd (SvM gs sa ra) w4 W':=by
 obtain ⟨hg,⟨a,c,hS⟩,hsm⟩:=hA
 have hTW:TB tb x pl pr (enc,hashT wd enc) W:=hT.upd hU hnt
 have c37:=hTW.c37
 have c38:=hTW.c38
 have hO:=hOld.out W hU
 have htb:tb < W.heap.size:=hTW.lt
 have hhs:(hashT wd enc).size=wd:=by
  show ((sha (78 :: enc.data.toList)).take wd).toArray.size=wd
  rw [List.size_toArray,List.length_take,sha_len32];omega
 have H1:Hid (∀ w',Below W.heap.size W w' -> ∀ fx,firstI (hitB wd ss (hashT wd enc)) ss.length=fx -> Calls prog 192 #[.pointer (some ⟨so,0,none⟩),.string (hashT wd enc)] w' fun e w''=>e=.returned (.tuple #[.string (encAt ss fx),.bool fx.isSome]) /\ Below w'.heap.size w' w''):=fun w' hb fx hfx=>stockFirst_any so ro bo wd ss ao co (hashT wd enc) w' (hO.below hb) hs2 (by omega) hw2 hhs fx hfx
 have H2:Hid (∀ w',Below W.heap.size W w' -> ∀ fx,firstI (hitB wd ad (hashT wd enc)) ad.length=fx -> Calls prog 192 #[.pointer (some ⟨sa,0,none⟩),.string (hashT wd enc)] w' fun e w''=>e=.returned (.tuple #[.string (encAt ad fx),.bool fx.isSome]) /\ Below w'.heap.size w' w''):=fun w' hb fx hfx=>stockFirst_any sa ra base wd ad a c (hashT wd enc) w' (hS.below hb) hsm.2 (by have:=hsm.1;omega) hw2 hhs fx hfx
 have HF:Hid (∀ w',Below W.heap.size W w' -> Calls prog 180 #[.pointer (some ⟨gs,0,none⟩),.string (hashT wd enc)] w' fun e w''=>e=.returned (.tuple #[.string (encO (fst2 wd ss ad (hashT wd enc))),.bool (fst2 wd ss ad (hashT wd enc)).isSome]) /\ Below w'.heap.size w' w''):=fun w' hb=>savFirst_any gs so sa 0 ⟨#[]⟩ ⟨#[]⟩ wd ss ad (hashT wd enc) w' (hg.below hb) (fun w2 hb2=>H1.out w2 (hb.trans (hb2.mono hb.size))) (fun w2 hb2=>H2.out w2 (hb.trans (hb2.mono hb.size)))
 cases hf:fst2 wd ss ad (hashT wd enc) with
 | some u =>
  rw [hf] at HF
  rw [svStep_some hf]
  have hu:=fst2_small hf hs2 hsm.2
  by_cases e:u=enc
  · subst e
    rw [if_pos rfl]
    refine (savTake_same gs tb u (hashT wd u) W htb c37 c38 HF).mono ?_
    rintro e w' ⟨he,hb⟩
    exact ⟨he,⟨hg.below hb,⟨a,c,hS.below hb⟩,hsm⟩,hU.trans (Upd.of_below hb)⟩
  · rw [if_neg e]
    have HT1:Hid (∀ w',Calls prog 104 #[.string u] w' fun e w''=>e=.returned (.string (txt u)) /\ Below w'.heap.size w' w''):=fun w'=>(textOf_any u w' hu).mono (by rintro e w'' ⟨h1,rfl⟩;exact ⟨h1,Below.refl _ _⟩)
    have HT2:Hid (∀ w',Calls prog 104 #[.string enc] w' fun e w''=>e=.returned (.string (txt enc)) /\ Below w'.heap.size w' w''):=fun w'=>(textOf_any enc w' (by omega)).mono (by rintro e w'' ⟨h1,rfl⟩;exact ⟨h1,Below.refl _ _⟩)
    refine (savTake_clash gs so sa tb _ _ enc (hashT wd enc) u W hg htb c37 c38 e (fun q=>hnt (.inl q)) _ _ HT1 HT2 HF).mono ?_
    rintro e w' ⟨he,hb,hfr⟩
    exact ⟨he,hb,hU.trans (hfr.upd.mono fun k hk=>.inl hk)⟩
 | none =>
  rw [hf] at HF
  rw [svStep_none hf]
  by_cases hr:20000 <= ss.length + ad.length
  · rw [if_pos hr]
    refine (savTake_full gs so sa tb _ _ enc (hashT wd enc) ao a _ _ co c _ _ _ _ W hg htb c37 c38 hO.blk hS.blk (by omega) (by have:=hsm.1;omega) hr HF).mono ?_
    rintro e w' ⟨he,hb,hfr⟩
    exact ⟨he,hb,hU.trans (hfr.upd.mono fun k hk=>.inl hk)⟩
  · rw [if_neg hr]
    have HA:Hid (∀ w',Below W.heap.size W w' -> Calls prog 116 #[.pointer (some ⟨sa,0,none⟩),.string enc] w' fun e w''=>e=.returned (.tuple #[]) /\ SVb gs so sa 0 ⟨#[]⟩ ⟨#[]⟩ w'' /\ w''.cell? ⟨tb,37,none⟩=some (.string enc) /\ ((∃ a c,StockAt sa ra base wd (ad ++ [enc]) a c w'') /\ Upd (SvM gs sa ra) w4 w'')):=fun w' hb=>by
     have hU':Upd (SvM gs sa ra) w4 w':=hU.trans (Upd.of_below hb)
     refine (stockAdd_all HH (fun w1 w2 h1 h2=>KTab.below h1 h2) sa ra base wd ad a c enc w' (hS.below hb) (hKT.out _ hU') (by omega) hw2 (by have:=hsm.1;omega)).mono ?_
     rintro e w'' ⟨a',c',he',hS',hbn,hbk⟩
     have hB0:=hbn 0 (Nat.zero_le _) (Nat.zero_le _)
     have hU2:Upd (SvM gs sa ra) w4 w'':=⟨hB0.os.trans hU'.os,hB0.tape.trans hU'.tape,hB0.output.trans hU'.output,Nat.le_trans hU'.size hB0.size,fun q hq hn=>(hbk q (by omega) (fun e=>hn (.inr (.inl e))) (fun e=>hn (.inr (.inr e)))).trans (hU'.block q hq hn)⟩
     exact ⟨he',(hbk gs hn1 hn2 hn3).trans (hg.below hb),(hT.upd hU2 hnt).c37,⟨a',c',hS'⟩,hU2⟩
    refine (savTake_add gs so sa tb _ _ enc (hashT wd enc) ao a _ _ co c _ _ _ _ W hg htb c37 c38 hO.blk hS.blk (by omega) (by have:=hsm.1;omega) (by omega) (fun w''=>(∃ a c,StockAt sa ra base wd (ad ++ [enc]) a c w'') /\ Upd (SvM gs sa ra) w4 w'') HF HA).mono ?_
    rintro e w' ⟨he2,hb,hR,hU3⟩
    exact ⟨he2,⟨hb,hR,hsm.snoc (by omega) (by omega)⟩,hU3⟩
theorem SvAt.below {gs so sa ra base wd:Nat} {r:SvR} {w w':World} (h:SvAt gs so sa ra base wd r w) (hb:Below w.heap.size w w'):SvAt gs so sa ra base wd r w':=by
 cases r with
 | go ad =>
  obtain ⟨h1,⟨a,c,h2⟩,h3⟩:=h
  exact ⟨h1.below hb,⟨a,c,h2.below hb⟩,h3⟩
 | full=>exact SVb.below h hb
 | clash u e=>exact SVb.below h hb
theorem sv_stuck (wd:Nat) (ss:List ByteArray):∀ (es:List ByteArray) (r:SvR),r.isGo=false -> es.foldl (svStep wd ss) r=r
 | [],_,_=>rfl
 | e :: es,r,h=>by
  rw [List.foldl_cons]
  have:svStep wd ss r e=r:=by
   cases r with
   | go ad=>cases h
   | full=>rfl
   | clash u x=>rfl
  rw [this]
  exact sv_stuck wd ss es r h
theorem csv_no (c:Nat) (p:Option Addr) (i:Int) (hi:i=0 \/ i=1) (w:World):Calls prog 161 #[.pointer p,.int .i64 i,.pointer (some ⟨c,0,none⟩)] w fun e w'=>e=.returned (.bool true) /\ w'=w:=by
 have hz:(i != 2)=true:=by rcases hi with rfl | rfl <;> rfl
 go_enter func161,ntmps161
 go_wp2_with fail
 go_ret
 exact ⟨rfl,rfl⟩
theorem csv_yes (c gs b:Nat) (w:World) (hc:w.cell? ⟨c,0,none⟩=some (.pointer (some ⟨gs,0,none⟩))) (v:Bool) (R:World -> Prop)
 (H:Hid (Calls prog 162 #[.pointer (some ⟨gs,0,none⟩),.pointer (some ⟨b,0,none⟩)] w fun e w'=>e=.returned (.bool v) /\ R w')) :
 Calls prog 161 #[.pointer (some ⟨b,0,none⟩),.int .i64 2,.pointer (some ⟨c,0,none⟩)] w fun e w'=>e=.returned (.bool v) /\ R w':=by
 go_enter func161,ntmps161
 go_wp2_with (go_at_call 162;refine H.out.mono ?_;rintro e w1 ⟨rfl,hR⟩)
 go_ret
 exact ⟨rfl,hR⟩
theorem walk_save (HH:Hid (HashSaid KTab)) (gs so sa ra base wd:Nat) (ss:List ByteArray) (ro bo:Nat) (ao:Option Addr) (co:Nat) (w4:World) (hb4:base=w4.heap.size)
 (hOld:Hid (∀ W,Upd (SvM gs sa ra) w4 W -> StockAt so ro bo wd ss ao co W)) (hKT:Hid (∀ W,Upd (SvM gs sa ra) w4 W -> KTab W)) (hs1:ss.length <= 20000) (hs2:∀ j,(ss.getD j ⟨#[]⟩).size <= 1048576) (hw1:1 <= wd) (hw2:wd <= 32)
 (hn1:gs < base) (hn2:gs ≠ sa) (hn3:gs ≠ ra) (cs:Nat) (hcs:w4.cell? ⟨cs,0,none⟩=some (.pointer (some ⟨gs,0,none⟩))) (hnc:¬ SvM gs sa ra cs) :
 ∀ (t:Tr PairT) (p:Option Addr) (bs:List Nat) (ad:List ByteArray) (W:World),TAL 0 (hf wd) t p bs w4 -> (∀ b ∈ bs,¬ SvM gs sa ra b) -> Upd (SvM gs sa ra) w4 W -> SvAt gs so sa ra base wd (.go ad) W →
  Calls prog 159 #[.pointer p,.func (.func 160) #[] #[],.func (.func 161) #[] #[.pointer (some ⟨cs,0,none⟩)]] W fun e W'=>e=.returned (.bool ((encsT wd t).foldl (svStep wd ss) (.go ad)).isGo) /\ SvAt gs so sa ra base wd ((encsT wd t).foldl (svStep wd ss) (.go ad)) W' /\ Upd (SvM gs sa ra) w4 W':=by
 intro t
 induction t with
 | nil =>
  intro p bs ad W ht hbs hU hA
  have HU:=isThere_any .nil (hf wd) p W (n0:=0) ht.1
  have hs:someT .nil=false:=rfl
  rw [hs] at HU
  have hr:(encsT wd .nil).foldl (svStep wd ss) (.go ad)=.go ad:=rfl
  rw [hr]
  have hg:(SvR.go ad).isGo=true:=rfl
  rw [hg]
  have HA:Hid (SvAt gs so sa ra base wd (.go ad) W):=hA
  clear hs hr hg hA ht hOld hKT hcs
  go_enter func159,ntmps159
  go_wp2_with (go_at_call 160;refine HU.mono ?_;rintro e w1 ⟨rfl,rfl⟩)
  go_ret
  exact ⟨rfl,HA.out,hU⟩
 | node l x r ihl ihr =>
  intro p bs ad W ht hbs hU hA
  have HU:=fun w' h=>isThere_any (.node l x r) (hf wd) p w' (n0:=0) h
  have hs:someT (.node l x r)=true:=rfl
  rw [hs] at HU
  clear hs
  have htW:=(ht.upd hU hbs).ta
  have HU:=HU W htW
  obtain ⟨b,pl,pr,bl,br,rfl,rfl,hge,hb,hl,hr⟩:=ht
  have hm : ∀ w' : World, (method 427 115 (.pointer (some ⟨b, 0, none⟩)) "loop.example/s03048/impl.subtrees").run prog w' = .ok (227, .pointer (some ⟨b, 0, none⟩)) w' := fun _ => by kernel_rfl
  have H0:=fun w'=>csv_no cs (some ⟨b,0,none⟩) 0 (.inl rfl) w'
  have H1:=fun w'=>csv_no cs (some ⟨b,0,none⟩) 1 (.inr rfl) w'
  have hnb:¬ SvM gs sa ra b:=hbs b (by simp)
  have HS:=subs_any b x pl pr _ W (hb.upd hU hnb)
  have he:(encT wd (.node l x r)).size <= 10000:=(encS_size x.1 x.2 (rootT wd l) (rootT wd r) wd).1
  have hbT:TB b x pl pr (encT wd (.node l x r),hashT wd (encT wd (.node l x r))) w4:=hb
  obtain ⟨E,hE⟩:∃ E,encT wd (.node l x r)=E:=⟨_,rfl⟩
  have henc:encsT wd (.node l x r)=encsT wd l ++ encsT wd r ++ [E]:=by rw [<- hE];rfl
  rw [henc]
  rw [hE] at he hbT
  clear henc hE
  rw [List.foldl_append,List.foldl_append]
  have HL:Hid (∀ w0,Below W.heap.size W w0 -> Calls prog 159 #[.pointer pl,.func (.func 160) #[] #[],.func (.func 161) #[] #[.pointer (some ⟨cs,0,none⟩)]] w0 fun e W'=>e=.returned (.bool ((encsT wd l).foldl (svStep wd ss) (.go ad)).isGo) /\ SvAt gs so sa ra base wd ((encsT wd l).foldl (svStep wd ss) (.go ad)) W' /\ Upd (SvM gs sa ra) w4 W'):=fun w0 hb0=>ihl pl bl ad w0 hl (fun k hk=>hbs k (by simp [hk])) (hU.trans (Upd.of_below hb0)) (hA.below hb0)
  have HRr:Hid (∀ ad1 W1,Upd (SvM gs sa ra) w4 W1 -> SvAt gs so sa ra base wd (.go ad1) W1 -> Calls prog 159 #[.pointer pr,.func (.func 160) #[] #[],.func (.func 161) #[] #[.pointer (some ⟨cs,0,none⟩)]] W1 fun e W'=>e=.returned (.bool ((encsT wd r).foldl (svStep wd ss) (.go ad1)).isGo) /\ SvAt gs so sa ra base wd ((encsT wd r).foldl (svStep wd ss) (.go ad1)) W' /\ Upd (SvM gs sa ra) w4 W'):=fun ad1 W1 hU1 hA1=>ihr pr br ad1 W1 hr (fun k hk=>hbs k (by simp [hk])) hU1 hA1
  have HY:Hid (∀ ad2 W2,Upd (SvM gs sa ra) w4 W2 -> SvAt gs so sa ra base wd (.go ad2) W2 -> Calls prog 161 #[.pointer (some ⟨b,0,none⟩),.int .i64 2,.pointer (some ⟨cs,0,none⟩)] W2 fun e W'=>e=.returned (.bool (svStep wd ss (.go ad2) E).isGo) /\ SvAt gs so sa ra base wd (svStep wd ss (.go ad2) E) W' /\ Upd (SvM gs sa ra) w4 W'):=fun ad2 W2 hU2 hA2=>csv_yes cs gs b W2 (hU2.cell hcs hnc) _ (fun W'=>SvAt gs so sa ra base wd (svStep wd ss (.go ad2) E) W' /\ Upd (SvM gs sa ra) w4 W') (svTake_any HH gs so sa ra base wd ss ro bo ao co w4 hb4 hOld hKT hs1 hs2 hw1 hw2 hn1 hn2 hn3 b x pl pr E he hbT hnb ad2 W2 hU2 hA2)
  clear ihl ihr hl hr hb hbT he hA hcs hnc hOld hKT htW hbs hU hnb hge
  obtain ⟨R1,hR1⟩:∃ R1,(encsT wd l).foldl (svStep wd ss) (.go ad)=R1:=⟨_,rfl⟩
  rw [hR1] at HL ⊢
  clear hR1
  by_cases g1:R1.isGo=true
  · obtain ⟨ad1,rfl⟩:∃ ad1,R1=.go ad1:=by cases R1 with
     | go ad1=>exact ⟨_,rfl⟩
     | full=>cases g1
     | clash u e=>cases g1
    have HR:=fun W1=>HRr.out ad1 W1
    obtain ⟨R2,hR2⟩:∃ R2,(encsT wd r).foldl (svStep wd ss) (.go ad1)=R2:=⟨_,rfl⟩
    rw [hR2] at HR ⊢
    have HR:Hid _:=HR
    rw [g1] at HL
    clear hR2 HRr g1
    by_cases g2:R2.isGo=true
    · obtain ⟨ad2,rfl⟩:∃ ad2,R2=.go ad2:=by cases R2 with
       | go ad2=>exact ⟨_,rfl⟩
       | full=>cases g2
       | clash u e=>cases g2
      rw [g2] at HR
      have HY2:Hid _:=fun W2=>HY.out ad2 W2
      have hfo:[E].foldl (svStep wd ss) (.go ad2)=svStep wd ss (.go ad2) E:=rfl
      rw [hfo]
      generalize svStep wd ss (.go ad2) E=R3 at HY2 ⊢
      clear HY hfo g2
      generalize R3.isGo=v at HY2 ⊢
      go_enter func159,ntmps159
      go_wp2_with (first | (go_at_call 160;refine HU.mono ?_;rintro e w1 ⟨rfl,rfl⟩) | (go_at_call_of 161 (Value.int .i64 0);refine (H0 _).mono ?_;rintro e w1 ⟨rfl,rfl⟩) | (go_at_call_of 161 (Value.int .i64 1);refine (H1 _).mono ?_;rintro e w1 ⟨rfl,rfl⟩) | (go_at_call 227;refine HS.mono ?_;rintro e w0 ⟨rfl,hb0⟩) | (go_at_call_of 159 (Value.pointer pl);refine (HL.out _ hb0).mono ?_;rintro e w1 ⟨rfl,ht1,hu1⟩) | (go_at_call_of 159 (Value.pointer pr);refine (HR.out _ hu1 ht1).mono ?_;rintro e w2 ⟨rfl,ht2,hu2⟩) | (go_at_call_of 161 (Value.int .i64 2);refine (HY2.out _ hu2 ht2).mono ?_;rintro e w3 ⟨rfl,ht3,hu3⟩))
      go_ret
      exact ⟨rfl,ht3,hu3⟩
    · rw [Bool.not_eq_true] at g2
      rw [sv_stuck wd ss _ R2 g2]
      rw [g2] at HR ⊢
      clear HY g2
      go_enter func159,ntmps159
      go_wp2_with (first | (go_at_call 160;refine HU.mono ?_;rintro e w1 ⟨rfl,rfl⟩) | (go_at_call_of 161 (Value.int .i64 0);refine (H0 _).mono ?_;rintro e w1 ⟨rfl,rfl⟩) | (go_at_call_of 161 (Value.int .i64 1);refine (H1 _).mono ?_;rintro e w1 ⟨rfl,rfl⟩) | (go_at_call 227;refine HS.mono ?_;rintro e w0 ⟨rfl,hb0⟩) | (go_at_call_of 159 (Value.pointer pl);refine (HL.out _ hb0).mono ?_;rintro e w1 ⟨rfl,ht1,hu1⟩) | (go_at_call_of 159 (Value.pointer pr);refine (HR.out _ hu1 ht1).mono ?_;rintro e w2 ⟨rfl,ht2,hu2⟩))
      go_ret
      exact ⟨rfl,ht2,hu2⟩
  · rw [Bool.not_eq_true] at g1
    rw [sv_stuck wd ss _ R1 g1,sv_stuck wd ss _ R1 g1]
    rw [g1] at HL ⊢
    clear HY HRr g1
    go_enter func159,ntmps159
    go_wp2_with (first | (go_at_call 160;refine HU.mono ?_;rintro e w1 ⟨rfl,rfl⟩) | (go_at_call_of 161 (Value.int .i64 0);refine (H0 _).mono ?_;rintro e w1 ⟨rfl,rfl⟩) | (go_at_call_of 161 (Value.int .i64 1);refine (H1 _).mono ?_;rintro e w1 ⟨rfl,rfl⟩) | (go_at_call 227;refine HS.mono ?_;rintro e w0 ⟨rfl,hb0⟩) | (go_at_call_of 159 (Value.pointer pl);refine (HL.out _ hb0).mono ?_;rintro e w1 ⟨rfl,ht1,hu1⟩))
    go_ret
    exact ⟨rfl,ht1,hu1⟩
theorem app_zero (n c:Nat) (a a2:Option Addr) (c2:Nat) (hnc:n <= c) (w:World) (ty:TypeId):(Builtin.append_ #[25,25] ty #[.slice a n c,.slice a2 0 c2]).run prog w=.ok (.slice a n c) w:=by
 obtain ⟨i0,hi0,hz0,hz1,hz2⟩:=info_parts info9
 cases a with
 | none=>cases a2 <;> simp [Builtin.append_,run_underlying Tryz.underlying25,sizeOf,typeInfo,hi0,Builtin.lenOf,Builtin.firstCells,hnc,loadCells,loadCellsFrom]
 | some b=>cases a2 <;> simp [Builtin.append_,run_underlying Tryz.underlying25,sizeOf,typeInfo,hi0,Builtin.lenOf,Builtin.firstCells,hnc,storeCells,loadCells,loadCellsFrom]
theorem ownG_le {w:World} {base n t z m c:Nat} {a:Option Addr} {xs:List Value} (h:w.ownsRow base t z (.slice a m c) n xs):m <= c:=by
 rcases h.2 with ⟨e,h0⟩ | ⟨g,cap,cur,e,hb,hg,q1,q2,q3,q4⟩
 · simp only [Value.slice.injEq] at e;omega
 · simp only [Value.slice.injEq] at e
   omega
theorem OwnT.set {w W:World} {xs:List ByteArray} {a:Option Addr} {m c g o:Nat} {cs:Array Value} (h:OwnT w xs a m c W) (hg:W.heap[g]?=some (.cells cs 31)) (hge:w.heap.size <= g) (u:Value):OwnT w xs a m c (W.setCell ⟨g,o,none⟩ u) :=
 ⟨ownG_kept h.own (fun q hv _=>Below.heap_setCell _ _ _ _ (by show q ≠ g;intro e;subst e;obtain ⟨_,_,cur,h9⟩:=ownG_cells h.own hv;rw [hg] at h9;simp at h9)),h.bel.setCell (p:=⟨g,o,none⟩) hge _,h.len⟩
theorem wpList_append_zero {P:Program} {ops:Array Oper} {rest:List Oper} {o:Oper} {a:Act} {w:World} {Q:Exit -> Act -> World -> Prop} (hg:o.guard=none) (s x:Operand) (t:TypeId)
 (hop:o.op=Op.call { callee:=Callee.builtin Builtin.append,args:=#[s,x],argTypes:=#[t,t] }) (v u:Value) (hs:a.eval s=v) (hx:a.eval x=u)
 (hrun:∀ ty,(Builtin.append_ #[t,t] ty #[v,u]).run P w=.ok v w) (h:wpList P ops Q rest (a.put o.dst v) w):wpList P ops Q (o :: rest) a w :=
 wpList_plain hg fun _ hK=>by
  unfold Oper.wp
  simp [execOp,hop,resolve,invoke,builtin,hs,hx,hrun,Result.andThen]
  exact hK _ _ h
theorem poolOf_any (so ro bo wd:Nat) (ss:List ByteArray) (ao:Option Addr) (co:Nat) (ad:List ByteArray) (a2:Option Addr) (c2:Nat) (w:World) (hO:StockAt so ro bo wd ss ao co w) (hs1:ss.length <= 20000) (hs2:∀ j,(ss.getD j ⟨#[]⟩).size <= 1048576) (h2:SArg a2 ad w) (hl2:ad.length <= 20000) :
 Calls prog 130 #[.pointer (some ⟨so,0,none⟩),.slice a2 ad.length c2] w fun e w'=>∃ a' c',e=.returned (.agg #[.int .i64 (wd:Int),.slice a' (ss ++ ad).length c']) /\ OwnT w (ss ++ ad) a' (ss ++ ad).length c' w':=by
 obtain ⟨i0,hi0,hz0,hz1,hz2⟩:=info_parts2 info9
 have hsa:=own_sarg hO.own (by omega) hs2
 have hblk:=hO.blk
 obtain ⟨N,hN⟩:∃ N,ss.length=N:=⟨_,rfl⟩
 obtain ⟨M,hM⟩:∃ M,ad.length=M:=⟨_,rfl⟩
 rw [hN] at hblk hs1
 rw [hM] at hl2 ⊢
 have hNl:Hid (ss.length=N):=hN
 have hMl:Hid (ad.length=M):=hM
 have hL:Hid ((ss ++ ad).length=N + M):=by show _=_;rw [List.length_append,hN,hM]
 rw [hL.out]
 clear hN hM
 have hA:Below w.heap.size w (w.alloc (.cells #[.int .i64 0,.slice none 0 0] 31)):=(Below.refl _ _).alloc (Nat.le_refl _) _
 have nA:=heap_alloc_new w (.cells #[.int .i64 0,.slice none 0 0] 31)
 have hblkA:=(hA.block so (Array.getElem?_eq_some_iff.1 hblk).1).trans hblk
 have c0:=ZC hblkA 0
 have c1:=ZC hblkA 1
 obtain ⟨gp,hgp⟩:∃ g,w.heap.size=g:=⟨_,rfl⟩
 have hgl:w.heap.size <= gp:=Nat.le_of_eq hgp
 rw [hgp] at nA
 have hsz:(w.alloc (.cells #[.int .i64 0,.slice none 0 0] 31)).heap.size=gp + 1:=by rw [World.size_alloc,hgp]
 go_enter func130,ntmps130
 go_upto_region 1 with fail
 try rw [hgp]
 generalize w.alloc (.cells #[.int .i64 0,.slice none 0 0] 31)=W0 at hA nA hblkA c0 c1 hsz ⊢
 have q0:=ZC nA 0
 have q1:=ZC nA 1
 have fz:∀ j,W0.frozen? ⟨gp,j,none⟩=false:=fun j=>by rw [World.frozen?,nA];rfl
 go_upto_region 2 with fail
 have hA1:Below w.heap.size w (W0.alloc (.cells #[.int .i64 (wd:Int),.slice none 0 0] 31)):=hA.alloc (by omega) _
 have n1:=heap_alloc_new W0 (.cells #[.int .i64 (wd:Int),.slice none 0 0] 31)
 rw [hsz] at n1
 have hblk1:=(Below.heap_alloc W0 (.cells #[.int .i64 (wd:Int),.slice none 0 0] 31) so (Array.getElem?_eq_some_iff.1 hblkA).1).trans hblkA
 have n0:=(Below.heap_alloc W0 (.cells #[.int .i64 (wd:Int),.slice none 0 0] 31) gp (by omega)).trans nA
 clear hblkA c0 c1 q0 q1 fz nA hA hsz
 generalize W0.alloc (.cells #[.int .i64 (wd:Int),.slice none 0 0] 31)=W1 at hA1 n1 n0 hblk1 ⊢
 have c0:=ZC hblk1 0
 have hg1:w.heap.size <= gp + 1:=by omega
 have hgn:gp ≠ gp + 1:=by omega
 generalize gp + 1=g1 at n1 hg1 hgn ⊢
 go_wp2_with fail
 go_loopw [19] (fun t19 wr=>∃ k:Nat,k <= N /\ t19=.int .i64 (k:Int) /\ ∃ (a':Option Addr) (c':Nat),OwnT w (ss.take k) a' k c' wr /\ wr.heap[g1]?=some (.cells #[.int .i64 (wd:Int),.slice a' k c'] 31) /\ wr.heap[gp]?=some (.cells #[.int .i64 0,.slice none 0 0] 31)) (fun t19 _=>N - (intOf t19).toNat)
 case atStart=>exact ⟨0,Nat.zero_le _,rfl,none,0,⟨World.ownsRow_nil _ _ _ _,hA1,rfl⟩,n1,n0⟩
 case round =>
  obtain ⟨k,hk,rfl,a',c',hT,m1,m0⟩:=hrel
  have own:=hT.own
  have hbs:=hT.bel.size
  have p1:=ZC m1 1
  by_cases hlt:k < N
  · have z1:decide ((k:Int) < (N:Int))=true:=by simp;omega
    have hx0:(0:Int) <= (k:Int):=Int.natCast_nonneg _
    have hx1:(k:Int) < (N:Int):=by omega
    obtain ⟨b1,off1,rfl,hbl1,hc⟩:=(hsa.below hT.bel).at_ (by rw [hNl.out];omega)
    have hc1:=hc k (by rw [hNl.out];exact hlt)
    have htk:Hid (ss.take (k + 1)=ss.take k ++ [ss.getD k ⟨#[]⟩]):=takeT ss k (by rw [hNl.out];exact hlt)
    have hys:=hs2 k
    generalize ss.getD k ⟨#[]⟩=y at hc1 htk hys
    have HC:Hid (∀ w',Calls prog 163 #[.string y] w' fun e w''=>e=.returned (.string y) /\ Below w'.heap.size w' w''):=fun w'=>clone_any y w' (by omega)
    clear hc
    go_upto_region 5 with fail
    have hbd:Below wr.heap.size wr wr.drew:=(Below.refl _ _).drew
    have hTd:OwnT w (ss.take k) a' k c' wr.drew:=hT.below hbd
    have m1d:wr.drew.heap[g1]?=some (.cells #[.int .i64 (wd:Int),.slice a' k c'] 31):=m1
    have cd:wr.drew.cell? ⟨g1,1,none⟩=some (.slice a' k c'):=ZC m1d 1
    clear hT own p1
    go_region_law (first
     | (refine step_append_lies _ (by rfl) (.tmp 24) (.tmp 27) 25 (by rfl) w.heap.size 9 i0 (.string ⟨#[]⟩) 1 16 Tryz.underlying25 hi0 hz0 hz1 hz2 (by rfl) (by decide) (.slice a' k c') k ((ss.take k).map Value.string) (by rfl) (own3.alloc _) ⟨w3.heap.size,0,none⟩ 1 1 [.string y] (by rfl) (by rfl) (World.news_of_block (heap_alloc_new w3 _)) (by simp [Value.oneCell']) (by decide) (by unfold maxLen;omega) (by omega) (by simp;omega) (w3.heap.size + 1) (by simp) ?_;intro g4 c4 w4 hown4 hgrow4 hat4 hlt4;have hlb4:=(hgrow4.block g1 (by simp;omega) (fun e=>by obtain ⟨_,_,cur,h9⟩:=ownG_cells own3 e.symm;rw [m3] at h9;simp at h9)).trans ((Below.heap_alloc w3 _ g1 hclt).trans m3);have k1:=ZC hlb4 1;have f1:w4.frozen? ⟨g1,1,none⟩=false:=by rw [World.frozen?,hlb4];rfl)
     | (go_simp;go_at_call 163;refine (HC.out _).mono ?_;rintro e w3 ⟨rfl,hb3⟩;have hT3:=hTd.below hb3;have own3:=hT3.own;have hbs3:=hT3.bel.size;have hclt:g1 < w3.heap.size:=Nat.lt_of_lt_of_le (Array.getElem?_eq_some_iff.1 m1d).1 hb3.size;have m3:=(hb3.block g1 (Array.getElem?_eq_some_iff.1 m1d).1).trans m1d;have cd3:=ZC m3 1;have cd4:∀ o,(w3.alloc o).cell? ⟨g1,1,none⟩=some (.slice a' k c'):=fun o=>(World.cell?_alloc_lt _ _ _ (by show g1 < _;exact hclt)).trans cd3))
    all_goals
     have hT4:OwnT w (ss.take (k + 1)) (some ⟨g4,0,none⟩) (k + 1) c4 w4:=by rw [htk.out];exact hT3.more hown4 hgrow4 rfl
     have hT5:OwnT w (ss.take (k + 1)) (some ⟨g4,0,none⟩) (k + 1) c4 (w4.setCell ⟨g1,1,none⟩ (.slice (some ⟨g4,0,none⟩) (k + 1) c4)):=by
      refine ⟨ownG_kept hT4.own (fun q hv hq=>Below.heap_setCell _ _ _ _ (by show q ≠ g1;intro e;subst e;obtain ⟨_,_,cur,h9⟩:=ownG_cells hT4.own hv;rw [hlb4] at h9;simp at h9)),hT4.bel.setCell (p:=⟨g1,1,none⟩) hg1 _,hT4.len⟩
     have m5:=heap_setCell_same w4 g1 1 _ 31 (.slice (some ⟨g4,0,none⟩) (k + 1) c4) hlb4
     have m0d:wr.drew.heap[gp]?=some (.cells #[.int .i64 0,.slice none 0 0] 31):=m0
     have m03:=(hb3.block gp (Array.getElem?_eq_some_iff.1 m0d).1).trans m0d
     have m04:=(hgrow4.block gp (by simp;exact Nat.lt_succ_of_lt (Array.getElem?_eq_some_iff.1 m03).1) (fun e=>by obtain ⟨_,_,cur,h9⟩:=ownG_cells own3 e.symm;rw [m03] at h9;simp at h9)).trans ((Below.heap_alloc w3 _ gp (Array.getElem?_eq_some_iff.1 m03).1).trans m03)
     have m05:(w4.setCell ⟨g1,1,none⟩ (.slice (some ⟨g4,0,none⟩) (k + 1) c4)).heap[gp]?=some (.cells #[.int .i64 0,.slice none 0 0] 31):=(Below.heap_setCell _ _ _ _ (by show gp ≠ g1;exact hgn)).trans m04
     go_wp2_with fail
     go_roundw
     case rel=>exact ⟨k + 1,hlt,by go_num,_,_,hT5,m5,m05⟩
     case measure=>simp [intOf];omega
  · obtain rfl:k=N:=by omega
    have z1:decide ((k:Int) < (k:Int))=false:=by simp
    rw [List.take_of_length_le (by rw [hNl.out];exact Nat.le_refl _)] at hT
    have hl:=hT.len
    have hown':wr.ownsRow w.heap.size 9 1 (.slice a' k c') k (ss.map Value.string):=hT.own
    clear own
    have own:=hown'
    clear hown'
    rcases Nat.eq_zero_or_pos M with rfl | hMp
    · have had:Hid (ss ++ ad=ss):=by
       show _=_
       rw [List.length_eq_zero_iff.1 hMl.out,List.append_nil]
      have hz:=app_zero k c' a' a2 c2 (ownG_le own) wr
      have q0:=ZC m1 0
      have fz:wr.frozen? ⟨g1,1,none⟩=false:=by rw [World.frozen?,m1];rfl
      have m2:=heap_setCell_same wr g1 1 _ 31 (.slice a' k c') m1
      have hT2:OwnT w (ss ++ ad) a' k c' (wr.setCell ⟨g1,1,none⟩ (.slice a' k c')):=by
       rw [had.out]
       refine ⟨ownG_kept own (fun q hv hq=>Below.heap_setCell _ _ _ _ (by show q ≠ g1;intro e;subst e;obtain ⟨_,_,cur,h9⟩:=ownG_cells own hv;rw [m1] at h9;simp at h9)),hT.bel.setCell (p:=⟨g1,1,none⟩) hg1 _,hT.len⟩
      clear hT own
      go_upto_region 8 with (at_builtin;refine wpList_append_zero rfl (.tmp 32) (.tmp 33) 25 rfl (.slice a' k c') (.slice a2 0 c2) rfl rfl hz ?_)
      have m02:(wr.setCell ⟨g1,1,none⟩ (.slice a' k c')).heap[gp]?=some (.cells #[.int .i64 0,.slice none 0 0] 31):=(Below.heap_setCell _ _ _ _ (by show gp ≠ g1;exact hgn)).trans m0
      generalize wr.setCell ⟨g1,1,none⟩ (.slice a' k c')=W5 at m2 hT2 m02 ⊢
      have r0:=ZC m2 0
      have r1:=ZC m2 1
      have s0:=ZC m02 0
      have s1:=ZC m02 1
      have fg:∀ j,W5.frozen? ⟨gp,j,none⟩=false:=fun j=>by rw [World.frozen?,m02];rfl
      have m6:=heap_setCell_same _ gp 0 _ 31 (.int .i64 (wd:Int)) m02
      have m7:=heap_setCell_same _ gp 1 _ 31 (.slice a' k c') m6
      have hT7:=(hT2.set m02 hgl (o:=0) (.int .i64 (wd:Int))).set m6 hgl (o:=1) (.slice a' k c')
      clear hT2 m6
      go_wp2_with fail
      exact retP Tryz.results130 rfl rfl m7 ⟨a',c',rfl,hT7⟩
    · obtain ⟨b2,off2,rfl,hbl2,hc2⟩:=(h2.below hT.bel).at_ (by rw [hMl.out];omega)
      have q0:=ZC m1 0
      have fz:wr.frozen? ⟨g1,1,none⟩=false:=by rw [World.frozen?,m1];rfl
      have hnews:∀ j u,(ad.map Value.string)[j]?=some u -> wr.cell? ((⟨b2,off2,none⟩:Addr).add j)=some u:=fun j u hu=>by
       have hadd:(⟨b2,off2,none⟩:Addr).add j=⟨b2,off2 + j,none⟩:=by unfold Addr.add;split <;> simp_all
       rw [hadd]
       rw [List.getElem?_map,Option.map_eq_some_iff] at hu
       obtain ⟨y,hy,rfl⟩:=hu
       have hj:=(List.getElem?_eq_some_iff.1 hy).1
       rw [hc2 j hj,List.getD_eq_getElem?_getD,hy]
       rfl
      have hone:∀ u ∈ ad.map Value.string,u.oneCell'=true:=fun u hu=>by
       obtain ⟨y,_,rfl⟩:=List.mem_map.1 hu
       rfl
      have hnl:(ad.map Value.string).length=M * 1:=by rw [List.length_map,hMl.out,Nat.mul_one]
      go_upto_region 8 with (at_builtin;refine wpList_append_lies _ rfl (.tmp 32) (.tmp 33) 25 rfl w.heap.size 9 i0 (.string ⟨#[]⟩) 1 16 Tryz.underlying25 hi0 hz0 hz1 hz2 rfl (by decide) (.slice a' k c') k (ss.map Value.string) rfl own ⟨b2,off2,none⟩ M c2 (ad.map Value.string) rfl hnl hnews hone hMp (by unfold maxLen;omega) (by omega) hbs _ rfl ?_;intro g5 c5 w5 hown5 hgrow5 hat5 hlt5;have hlb5:=(hgrow5.block g1 (Array.getElem?_eq_some_iff.1 m1).1 (fun e=>by obtain ⟨_,_,cur,h9⟩:=ownG_cells own e.symm;rw [m1] at h9;simp at h9)).trans m1;have k1:=ZC hlb5 1;have f1:w5.frozen? ⟨g1,1,none⟩=false:=by rw [World.frozen?,hlb5];rfl)
      have m2:=heap_setCell_same w5 g1 1 _ 31 (.slice (some ⟨g5,0,none⟩) (k + M) c5) hlb5
      have m05:=(hgrow5.block gp (Array.getElem?_eq_some_iff.1 m0).1 (fun e=>by obtain ⟨_,_,cur,h9⟩:=ownG_cells own e.symm;rw [m0] at h9;simp at h9)).trans m0
      have m02:(w5.setCell ⟨g1,1,none⟩ (.slice (some ⟨g5,0,none⟩) (k + M) c5)).heap[gp]?=some (.cells #[.int .i64 0,.slice none 0 0] 31):=(Below.heap_setCell _ _ _ _ (by show gp ≠ g1;exact hgn)).trans m05
      have hT1:OwnT w (ss ++ ad) (some ⟨g5,0,none⟩) (k + M) c5 w5:=by
       refine ⟨by rw [List.map_append];exact hown5,hT.bel.grown hgrow5 hbs (fun q hq=>(ownG_cells own hq).1),?_⟩
       rw [List.length_append,hNl.out,hMl.out]
      have hT2:=hT1.set hlb5 hg1 (o:=1) (.slice (some ⟨g5,0,none⟩) (k + M) c5)
      clear hT1 hT own
      generalize w5.setCell ⟨g1,1,none⟩ (.slice (some ⟨g5,0,none⟩) (k + M) c5)=W5 at m2 hT2 m02 ⊢
      have r0:=ZC m2 0
      have r1:=ZC m2 1
      have s0:=ZC m02 0
      have s1:=ZC m02 1
      have fg:∀ j,W5.frozen? ⟨gp,j,none⟩=false:=fun j=>by rw [World.frozen?,m02];rfl
      have m6:=heap_setCell_same _ gp 0 _ 31 (.int .i64 (wd:Int)) m02
      have m7:=heap_setCell_same _ gp 1 _ 31 (.slice (some ⟨g5,0,none⟩) (k + M) c5) m6
      have hT7:=(hT2.set m02 hgl (o:=0) (.int .i64 (wd:Int))).set m6 hgl (o:=1) (.slice (some ⟨g5,0,none⟩) (k + M) c5)
      clear hT2 m6
      go_wp2_with fail
      exact retP Tryz.results130 rfl rfl m7 ⟨some ⟨g5,0,none⟩,c5,rfl,hT7⟩
end Go.Proofs.YtibjhkpgaaapaaaGreatDoor
