import Derived.Test.YtibjhkpgaaapaaaGreatDoorZhbn
import Derived.Test.YtibjhkpgaaapaaaGreatDoorZham
set_option maxRecDepth 100000
set_option maxHeartbeats 2000000
namespace Go.Proofs.YtibjhkpgaaapaaaGreatDoor
open Go.RowKit Go.Proofs.Sha Tryz
def PB (wd n0:Nat):PT -> Option Addr -> World -> Prop
 | .f k v l r,p,w=>∃ b lv rv,p=some ⟨b,0,none⟩ /\ n0 <= b /\ w.heap[b]?=some (.cells #[.string k,.string v,lv,rv,.string (encS k v (hashP wd l) (hashP wd r) wd)] 151) /\ PA wd n0 l lv w /\ PA wd n0 r rv w
 | _,p,_=>p=none
def isF:PT -> Bool
 | .f _ _ _ _=>true
 | _=>false
theorem PA.fr {wd n0 base:Nat} {N:Nat -> Prop} {w w':World} {t:PT} {x:Value} (h:PA wd n0 t x w) (f:Fr base N w w') (hN:∀ q,N q -> ∃ cs t,w.heap[q]?=some (.cells cs t) /\ t ≠ 151):PA wd n0 t x w' :=
 h.keep (fun b cs _ h3=>f.keep h3 (fun x=>by obtain ⟨cs',t',h5,h6⟩:=hN _ x;exact ne_of_type h3 h5 (fun e=>h6 e.symm) rfl) (.inl (by decide)))
def ptrV:Value -> Option Addr
 | .iface 84 (.pointer p)=>p
 | _=>none
theorem PA.pb {wd n0:Nat} {t:PT} {x:Value} {w:World} (h:PA wd n0 t x w):PB wd n0 t (ptrV x) w:=by
 cases t with
 | e=>obtain rfl:x=.iface 211 (.agg #[]):=h;rfl
 | s hh=>obtain rfl:x=.iface 216 (.agg #[.string hh]):=h;rfl
 | f k v l r=>obtain ⟨b,lv,rv,rfl,h1,h2,h3,h4⟩:=h;exact ⟨b,lv,rv,rfl,h1,h2,h3,h4⟩
theorem asFull_any (wd n0:Nat) (t:PT) (x:Value) (w:World) (h:PA wd n0 t x w):Calls prog 45 #[x] w fun e w'=>e=.returned (.pointer (ptrV x)) /\ w=w':=by
 cases t with
 | e =>
  obtain rfl:x=.iface 211 (.agg #[]):=h
  have q2:=as84_211
  have hp:Hid (ptrV (.iface 211 (.agg #[]))=none):=rfl
  go_enter func45,ntmps45
  go_wp2_with fail
  go_ret
  exact ⟨by rw [hp.out];rfl,rfl⟩
 | s hh =>
  obtain rfl:x=.iface 216 (.agg #[.string hh]):=h
  have q2:=as84_216 hh
  have hp:Hid (ptrV (.iface 216 (.agg #[.string hh]))=none):=rfl
  go_enter func45,ntmps45
  go_wp2_with fail
  go_ret
  exact ⟨by rw [hp.out];rfl,rfl⟩
 | f k v l r =>
  obtain ⟨b,lv,rv,rfl,h1,h2,h3,h4⟩:=h
  have q2:=as84_84 b
  have hp:Hid (ptrV (.iface 84 (.pointer (some ⟨b,0,none⟩)))=some ⟨b,0,none⟩):=rfl
  clear h2 h3 h4
  go_enter func45,ntmps45
  go_wp2_with fail
  go_ret
  exact ⟨by rw [hp.out];rfl,rfl⟩
theorem size84:(prog.info? 151).map (·.size)=some 5:=by kernel_rfl
theorem ptr_eqlP (a b:Option Addr) (w:World) (ha:Ptr a w) (hb:Ptr b w):(binOp .eql 84 (.pointer a) (.pointer b)).run prog w=.ok (.bool (decide (a=b))) w:=by
 obtain ⟨j,h1,h2⟩:=Option.map_eq_some_iff.1 size84
 exact run_eql_ptr 84 151 j Tryz.underlying84 h1 (by rw [h2];decide) a b w ha hb
theorem isFull_any (wd n0:Nat) (t:PT) (p:Option Addr) (w:World) (h:PB wd n0 t p w):Calls prog 99 #[.pointer p] w fun e w'=>e=.returned (.bool (isF t)) /\ w=w':=by
 have hq:Ptr p w:=by
  cases t with
  | f k v l r=>obtain ⟨b,lv,rv,rfl,_,h2,_⟩:=h;exact .inr ⟨b,_,_,rfl,h2⟩
  | e=>exact .inl h
  | s _=>exact .inl h
 have hb:decide (p=none) = !isF t:=by
  cases t with
  | f k v l r=>obtain ⟨b,lv,rv,rfl,_,h2,_⟩:=h;rfl
  | e=>obtain rfl:p=none:=h;rfl
  | s _=>obtain rfl:p=none:=h;rfl
 have q:(binOp .neq 84 (.pointer p) (.pointer none)).run prog w=.ok (.bool (isF t)) w:=by
  have:=ptr_eqlP p none w hq (.inl rfl)
  rw [hb] at this
  simp only [binOp] at this ⊢
  cases hq:(Op.equal 84 (.pointer p) (.pointer none)).run prog w <;> simp_all
 clear hq hb h
 go_enter func99,ntmps99
 go_wp2_with fail
 go_ret
 exact ⟨rfl,rfl⟩
theorem subsP_any (wd n0 b:Nat) (l r:PT) (lv rv x y z:Value) (w:World) (hB:w.heap[b]?=some (.cells #[x,y,lv,rv,z] 151)) (hl:PA wd n0 l lv w) (hr:PA wd n0 r rv w) :
 Calls prog 222 #[.pointer (some ⟨b,0,none⟩)] w fun e w'=>e=.returned (.tuple #[.pointer (ptrV lv),.pointer (ptrV rv)]) /\ Below w.heap.size w w':=by
 have HL:Hid (∀ w',Below w.heap.size w w' -> Calls prog 45 #[lv] w' fun e w''=>e=.returned (.pointer (ptrV lv)) /\ w'=w''):=fun w' hb=>asFull_any wd n0 l lv w' (hl.below hb)
 have HR:Hid (∀ w',Below w.heap.size w w' -> Calls prog 45 #[rv] w' fun e w''=>e=.returned (.pointer (ptrV rv)) /\ w'=w''):=fun w' hb=>asFull_any wd n0 r rv w' (hr.below hb)
 generalize ptrV lv=pl at HL ⊢
 generalize ptrV rv=pr at HR ⊢
 have c2:w.cell? ⟨b,2,none⟩=some lv:=ZC hB 2
 have c3:w.cell? ⟨b,3,none⟩=some rv:=ZC hB 3
 have hd:Below w.heap.size w w.drew:=(Below.refl _ _).drew
 clear hl hr hB
 go_enter func222,ntmps222
 go_wp2_with fail
 go_region_held3 (fun W=>W.cell? ⟨b,2,none⟩=some lv /\ W.cell? ⟨b,3,none⟩=some rv) (exact ⟨c2,c3⟩) (first | (go_at_call_of 45 lv;refine (HL.out w.drew hd).mono ?_;rintro e w1 ⟨rfl,rfl⟩) | (go_at_call_of 45 rv;refine (HR.out w.drew hd).mono ?_;rintro e w2 ⟨rfl,rfl⟩))
 go_wp2_with fail
 go_ret2
 exact ⟨rfl,hd⟩
theorem sh_no (p:Option Addr) (i:Int) (hi':i=0 \/ i=2) (gb c:Nat) (lo hi:ByteArray) (w:World) (h:w.heap[gb]?=some (.cells #[.string lo,.string hi] 75)):Calls prog 100 #[.pointer p,.int .i64 i,.pointer (some ⟨gb,0,none⟩),.pointer (some ⟨c,0,none⟩)] w fun e w'=>e=.returned (.bool true) /\ Below w.heap.size w w':=by
 have hz:(i == 1)=false:=by rcases hi' with rfl | rfl <;> rfl
 have c0:w.cell? ⟨gb,0,none⟩=some (.string lo):=ZC h 0
 have c1:w.cell? ⟨gb,1,none⟩=some (.string hi):=ZC h 1
 go_enter func100,ntmps100
 go_wp2_with fail
 go_quiet (first | fail)
 go_wp2_with fail
 go_ret
 exact ⟨rfl,draws_below _ (Below.refl _ _)⟩
theorem sh_out (b:Nat) (k v:ByteArray) (x y z:Value) (gb c:Nat) (lo hi:ByteArray) (w:World) (hB:w.heap[b]?=some (.cells #[.string k,.string v,x,y,z] 151)) (h:w.heap[gb]?=some (.cells #[.string lo,.string hi] 75)) (hn:hasW lo hi k=false):Calls prog 100 #[.pointer (some ⟨b,0,none⟩),.int .i64 1,.pointer (some ⟨gb,0,none⟩),.pointer (some ⟨c,0,none⟩)] w fun e w'=>e=.returned (.bool true) /\ Below w.heap.size w w':=by
 have c0:w.cell? ⟨gb,0,none⟩=some (.string lo):=ZC h 0
 have c1:w.cell? ⟨gb,1,none⟩=some (.string hi):=ZC h 1
 have c4:w.cell? ⟨b,0,none⟩=some (.string k):=ZC hB 0
 have HC:=fun w'=>has_any lo hi k w'
 rw [hn] at HC
 go_enter func100,ntmps100
 go_wp2_with fail
 go_region_held3 (fun W=>W.cell? ⟨b,0,none⟩=some (.string k) /\ W.cell? ⟨gb,0,none⟩=some (.string lo) /\ W.cell? ⟨gb,1,none⟩=some (.string hi)) (first | exact ⟨c4,c0,c1⟩ | exact ⟨ZC hB2 0,ZC h2 0,ZC h2 1⟩) (first | (go_at_call 101;refine (HC _).mono ?_;rintro e w2 ⟨rfl,hb2⟩;have hB2:=(hb2.block b (Array.getElem?_eq_some_iff.1 hB).1).trans hB;have h2:=(hb2.block gb (Array.getElem?_eq_some_iff.1 h).1).trans h))
 go_wp2_with fail
 go_ret
 exact ⟨rfl,(Below.refl w.heap.size w).drew.trans hb2⟩
theorem sh_in (b:Nat) (k v:ByteArray) (x y z:Value) (gb c base:Nat) (lo hi:ByteArray) (ps:List PairT) (a:Option Addr) (cap:Nat) (w:World) (hB:w.heap[b]?=some (.cells #[.string k,.string v,x,y,z] 151)) (h:w.heap[gb]?=some (.cells #[.string lo,.string hi] 75)) (hn:hasW lo hi k=true) (hL:LS c base ps a cap w) (hlen:ps.length <= 100000):Calls prog 100 #[.pointer (some ⟨b,0,none⟩),.int .i64 1,.pointer (some ⟨gb,0,none⟩),.pointer (some ⟨c,0,none⟩)] w fun e w'=>e=.returned (.bool true) /\ (∃ a' cap',LS c base (ps ++ [(k,v)]) a' cap' w') /\ Fr base (fun q=>q=c) w w':=by
 have c0:w.cell? ⟨gb,0,none⟩=some (.string lo):=ZC h 0
 have c1:w.cell? ⟨gb,1,none⟩=some (.string hi):=ZC h 1
 have c4:w.cell? ⟨b,0,none⟩=some (.string k):=ZC hB 0
 have HC:=fun w'=>has_any lo hi k w'
 rw [hn] at HC
 go_enter func100,ntmps100
 go_wp2_with fail
 go_region_held3 (fun W=>W.cell? ⟨b,0,none⟩=some (.string k) /\ W.cell? ⟨gb,0,none⟩=some (.string lo) /\ W.cell? ⟨gb,1,none⟩=some (.string hi)) (first | exact ⟨c4,c0,c1⟩ | exact ⟨ZC hB2 0,ZC h2 0,ZC h2 1⟩) (first | (go_at_call 101;refine (HC _).mono ?_;rintro e w2 ⟨rfl,hb2⟩;have hB2:=(hb2.block b (Array.getElem?_eq_some_iff.1 hB).1).trans hB;have h2:=(hb2.block gb (Array.getElem?_eq_some_iff.1 h).1).trans h))
 have hb2':Below w.heap.size w w2:=(Below.refl w.heap.size w).drew.trans hb2
 have hL2:=hL.below hb2'
 obtain ⟨i0,hi0,hz0,hz1,hz2⟩:=info_parts2 info37
 clear hL h c0 c1 c4 HC hn h2
 rename_i hHeld0;clear hHeld0
 obtain ⟨n,hnl⟩:∃ n,ps.length=n:=⟨_,rfl⟩
 have hfl:Hid (flatP (ps ++ [(k,v)])=flatP ps ++ [.string k,.string v]):=flatP_app _ _
 have hln:Hid ((ps ++ [(k,v)]).length=n + 1):=by show _=_;rw [List.length_append,hnl];rfl
 have own:=hL2.own
 have hblk:=hL2.blk
 have hbs:=hL2.hb
 rw [hnl] at hlen own hblk
 have hclt:=(Array.getElem?_eq_some_iff.1 hblk).1
 have hblt:=(Array.getElem?_eq_some_iff.1 hB2).1
 have cc:w2.cell? ⟨c,0,none⟩=some (.slice a n cap):=ZC hblk 0
 have d0:w2.cell? ⟨b,0,none⟩=some (.string k):=ZC hB2 0
 have d1:w2.cell? ⟨b,1,none⟩=some (.string v):=ZC hB2 1
 have hca:∀ o,(w2.alloc o).cell? ⟨c,0,none⟩=some (.slice a n cap):=fun o=>(World.cell?_alloc_lt _ _ _ (by show c < _;omega)).trans cc
 have hcb:∀ o,(w2.alloc o).cell? ⟨b,0,none⟩=some (.string k) /\ (w2.alloc o).cell? ⟨b,1,none⟩=some (.string v):=fun o=>⟨(World.cell?_alloc_lt _ _ _ (by show b < _;omega)).trans d0,(World.cell?_alloc_lt _ _ _ (by show b < _;omega)).trans d1⟩
 have hbB:Below w2.heap.size w2 (w2.drew.alloc (.cells #[.string k,.string v] 81)):=(Below.refl _ _).drew.alloc (Nat.le_refl _) _
 clear hL2 hB hB2 hb2
 go_upto_region 2 with fail
 go_region_law ((refine step_append_lies _ (by rfl) (.tmp 18) (.tmp 23) 35 (by rfl) base 81 i0 (.agg #[.string ⟨#[]⟩,.string ⟨#[]⟩]) 2 32 Tryz.underlying35 hi0 hz0 hz1 hz2 (by rfl) (by decide) (.slice a n cap) n (flatP ps) (by rfl) (own.alloc _) ⟨w2.heap.size,0,none⟩ 1 1 [.string k,.string v] (by rfl) (by rfl) (World.news_of_block (heap_alloc_new w2.drew _)) (by simp [Value.oneCell']) (by decide) (by unfold maxLen;omega) (by omega) (by simp;omega) (w2.heap.size + 1) (by simp) ?_;intro g4 c4 w4 hown4 hgrow4 hat4 hlt4;have hlb4:=(hgrow4.block c (by simp;omega) (fun e=>by obtain ⟨_,_,cur,h9⟩:=own2_cells own e.symm;rw [hblk] at h9;simp at h9)).trans ((hbB.block c (by omega)).trans hblk);have k1:=ZC hlb4 0;have f1:w4.frozen? ⟨c,0,none⟩=false:=by rw [World.frozen?,hlb4];rfl))
 all_goals
  have hs4:=hgrow4.size
  have hb4:base <= w4.heap.size:=by simp at hs4;omega
  have hbd:Below w2.heap.size w2 ((w2.alloc (.cells #[.string k,.string v] 81)).drew):=((Below.refl _ _).alloc (Nat.le_refl _) _).drew
  have hu:Fr base (fun q=>q=c) w (w4.setCell ⟨c,0,none⟩ (.slice (some ⟨g4,0,none⟩) (n + 1) c4)):=((Fr.of_below hb2').trans ((Fr.of_below hbd).trans (Fr.of_grown hgrow4 (own.alloc _)) (fun _ _ q=>q)) (fun _ _ q=>q)).setCell c 0 _ (.inl rfl)
  go_wp2_with fail
  go_ret
  refine ⟨rfl,⟨some ⟨g4,0,none⟩,c4,by rw [hln.out];exact heap_setCell_same w4 c 0 _ 35 _ hlb4,by rw [hln.out,hfl.out];exact own2_kept hown4 (fun g hv hg=>Below.heap_setCell _ _ _ _ (by show g ≠ c;intro e;subst e;obtain ⟨_,_,cur,h9⟩:=own2_cells hown4 hv;rw [hlb4] at h9;simp at h9)),Nat.le_trans hb4 (Below.setCell (p:=⟨c,0,none⟩) (Below.refl c w4) (Nat.le_refl c) _).size⟩,hu⟩
theorem sh_any (b:Nat) (k v:ByteArray) (x y z:Value) (gb c base:Nat) (lo hi:ByteArray) (ps:List PairT) (a:Option Addr) (cap:Nat) (w:World) (hB:w.heap[b]?=some (.cells #[.string k,.string v,x,y,z] 151)) (h:w.heap[gb]?=some (.cells #[.string lo,.string hi] 75)) (hL:LS c base ps a cap w) (hlen:ps.length <= 100000):Calls prog 100 #[.pointer (some ⟨b,0,none⟩),.int .i64 1,.pointer (some ⟨gb,0,none⟩),.pointer (some ⟨c,0,none⟩)] w fun e w'=>e=.returned (.bool true) /\ (∃ a' cap',LS c base (ps ++ (if hasW lo hi k=true then [(k,v)] else [])) a' cap' w') /\ Fr base (fun q=>q=c) w w':=by
 cases hh:hasW lo hi k with
 | true=>rw [if_pos rfl];exact sh_in b k v x y z gb c base lo hi ps a cap w hB h hh hL hlen
 | false =>
  rw [if_neg (by decide),List.append_nil]
  refine (sh_out b k v x y z gb c lo hi w hB h hh).mono ?_
  rintro e w' ⟨rfl,hb⟩
  exact ⟨rfl,⟨a,cap,hL.below hb⟩,Fr.of_below hb⟩
def cP:PT -> Nat
 | .f _ _ l r=>cP l + 1 + cP r
 | _=>0
def shP (lo hi:ByteArray):PT -> List PairT
 | .f k v l r=>shP lo hi l ++ (if hasW lo hi k=true then [(k,v)] else []) ++ shP lo hi r
 | _=>[]
theorem shP_len (lo hi:ByteArray):∀ t:PT,(shP lo hi t).length <= cP t
 | .e=>Nat.le_refl _
 | .s _=>Nat.le_refl _
 | .f k v l r=>by
  have h1:=shP_len lo hi l
  have h2:=shP_len lo hi r
  have h3:(if hasW lo hi k=true then [(k,v)] else []).length <= 1:=by split <;> simp
  rw [shP,cP,List.length_append,List.length_append]
  omega
theorem rdP_cnt {s lo hi:ByteArray} {wd:Nat}:∀ (f a:Nat) (over under par:ByteArray) (cnt:Nat) (t:PT) (a' c':Nat),rdP s lo hi wd f a over under par cnt=some (t,a',c') -> c'=cnt + cP t
 | 0,_,_,_,_,_,_,_,_,h=>by cases h
 | f + 1,a,over,under,par,cnt,t,a',c',h=>by
  rw [rdP] at h
  split at h
  · split at h
    · cases h;rfl
    · split at h
      · split at h
        · cases h;rfl
        · cases h
      · split at h
        · split at h
          · split at h
            · cases h
            · rename_i l a3 c3 hl
              split at h
              · cases h
              · rename_i r a4 c4 hr
                cases h
                have il:=rdP_cnt f _ _ _ _ _ _ _ _ hl
                have ir:=rdP_cnt f _ _ _ _ _ _ _ _ hr
                rw [cP]
                omega
          · cases h
        · cases h
  · cases h
theorem accP_cnt {n:Int} {root lo hi s:ByteArray} {t:PT} (h:accP n root lo hi s=some t):cP t <= 500:=by
 unfold accP at h
 split at h
 · cases hr:rdP s lo hi n.toNat 501 0 ⟨#[]⟩ ⟨#[]⟩ ⟨#[]⟩ 0 with
   | none=>rw [hr] at h;cases h
   | some Y =>
    obtain ⟨t',a',c'⟩:=Y
    rw [hr] at h
    unfold accQ at h
    simp only at h
    split at h
    · cases h
      have h1:=rdP_cnt 501 _ _ _ _ _ _ _ _ hr
      have h2:=rdP_ok 501 _ _ _ _ _ _ _ _ (by omega) hr
      omega
    · cases h
 · cases h
theorem walk_shown (wd n0 gb c base:Nat) (lo hi:ByteArray) (hgc:gb ≠ c):∀ (t:PT) (p:Option Addr) (ps:List PairT) (a:Option Addr) (cap:Nat) (w:World),PB wd n0 t p w -> w.heap[gb]?=some (.cells #[.string lo,.string hi] 75) -> LS c base ps a cap w -> ps.length + cP t <= 100000 →
 Calls prog 98 #[.pointer p,.func (.func 99) #[] #[],.func (.func 100) #[] #[.pointer (some ⟨gb,0,none⟩),.pointer (some ⟨c,0,none⟩)]] w fun e w'=>e=.returned (.bool true) /\ (∃ a' cap',LS c base (ps ++ shP lo hi t) a' cap' w') /\ Fr base (fun q=>q=c) w w':=by
 have hleaf:∀ (t:PT),isF t=false -> ∀ (p:Option Addr) (ps:List PairT) (a:Option Addr) (cap:Nat) (w:World),PB wd n0 t p w -> LS c base ps a cap w -> shP lo hi t=[] →
  Calls prog 98 #[.pointer p,.func (.func 99) #[] #[],.func (.func 100) #[] #[.pointer (some ⟨gb,0,none⟩),.pointer (some ⟨c,0,none⟩)]] w fun e w'=>e=.returned (.bool true) /\ (∃ a' cap',LS c base (ps ++ shP lo hi t) a' cap' w') /\ Fr base (fun q=>q=c) w w':=by
  intro t ht p ps a cap w hB hL hs
  have HU:=isFull_any wd n0 t p w hB
  rw [ht] at HU
  have HP:Hid (∃ a' cap',LS c base (ps ++ shP lo hi t) a' cap' w):=⟨a,cap,by rw [hs,List.append_nil];exact hL⟩
  clear ht hB hL hs
  go_enter func98,ntmps98
  go_wp2_with (go_at_call 99;refine HU.mono ?_;rintro e w1 ⟨rfl,rfl⟩)
  go_ret
  exact ⟨rfl,HP.out,Fr.refl _ _ _⟩
 intro t
 induction t with
 | e=>intro p ps a cap w hB hg hL hn;exact hleaf .e rfl p ps a cap w hB hL rfl
 | s hh=>intro p ps a cap w hB hg hL hn;exact hleaf (.s hh) rfl p ps a cap w hB hL rfl
 | f k v l r ihl ihr =>
  intro p ps a cap w hB hg hL hn
  have HU:=isFull_any wd n0 (.f k v l r) p w hB
  rw [show isF (.f k v l r)=true from rfl] at HU
  obtain ⟨b,lv,rv,rfl,hnb,hb,hl,hr⟩:=hB
  have hm : ∀ w' : World, (method 427 84 (.pointer (some ⟨b, 0, none⟩)) "loop.example/s03048/impl.subtrees").run prog w' = .ok (222, .pointer (some ⟨b, 0, none⟩)) w' := fun _ => by kernel_rfl
  generalize encS k v (hashP wd l) (hashP wd r) wd=E at hb
  rw [cP] at hn
  have hll:=shP_len lo hi l
  have kept:Hid (∀ w',Fr base (fun q=>q=c) w w' -> w'.heap[b]?=some (.cells #[.string k,.string v,lv,rv,.string E] 151) /\ w'.heap[gb]?=some (.cells #[.string lo,.string hi] 75) /\ PA wd n0 l lv w' /\ PA wd n0 r rv w'):=fun w' f=>by
   have hN:∀ q,q=c -> ∃ cs t,w.heap[q]?=some (.cells cs t) /\ t ≠ 151:=fun q e=>(by subst e;exact ⟨_,_,hL.blk,by decide⟩)
   exact ⟨f.keep hb (fun e=>ne_of_type hb hL.blk (by decide) e) (.inl (by decide)),f.keep hg (fun e=>hgc e) (.inl (by decide)),hl.fr f hN,hr.fr f hN⟩
  have H0:Hid (∀ w',Fr base (fun q=>q=c) w w' -> Calls prog 100 #[.pointer (some ⟨b,0,none⟩),.int .i64 0,.pointer (some ⟨gb,0,none⟩),.pointer (some ⟨c,0,none⟩)] w' fun e w''=>e=.returned (.bool true) /\ Below w'.heap.size w' w''):=fun w' f=>sh_no _ 0 (.inl rfl) gb c lo hi w' (kept.out w' f).2.1
  have H2:Hid (∀ w',Fr base (fun q=>q=c) w w' -> Calls prog 100 #[.pointer (some ⟨b,0,none⟩),.int .i64 2,.pointer (some ⟨gb,0,none⟩),.pointer (some ⟨c,0,none⟩)] w' fun e w''=>e=.returned (.bool true) /\ Below w'.heap.size w' w''):=fun w' f=>sh_no _ 2 (.inr rfl) gb c lo hi w' (kept.out w' f).2.1
  have HS:Hid (∀ w',Fr base (fun q=>q=c) w w' -> Calls prog 222 #[.pointer (some ⟨b,0,none⟩)] w' fun e w''=>e=.returned (.tuple #[.pointer (ptrV lv),.pointer (ptrV rv)]) /\ Below w'.heap.size w' w''):=fun w' f=>subsP_any wd n0 b l r lv rv _ _ _ w' (kept.out w' f).1 (kept.out w' f).2.2.1 (kept.out w' f).2.2.2
  obtain ⟨pl,hpl⟩:∃ pl,ptrV lv=pl:=⟨_,rfl⟩
  obtain ⟨pr,hpr⟩:∃ pr,ptrV rv=pr:=⟨_,rfl⟩
  have HL:Hid (∀ w0,Below w.heap.size w w0 -> Calls prog 98 #[.pointer pl,.func (.func 99) #[] #[],.func (.func 100) #[] #[.pointer (some ⟨gb,0,none⟩),.pointer (some ⟨c,0,none⟩)]] w0 fun e w'=>e=.returned (.bool true) /\ (∃ a' cap',LS c base (ps ++ shP lo hi l) a' cap' w') /\ Fr base (fun q=>q=c) w w'):=fun w0 hb0=>by
   obtain ⟨_,k2,k3,_⟩:=kept.out w0 (Fr.of_below hb0)
   rw [<- hpl]
   refine (ihl _ ps a cap w0 k3.pb k2 (hL.below hb0) (by omega)).mono ?_
   rintro e w' ⟨he,hT,hU⟩
   exact ⟨he,hT,(Fr.of_below hb0).trans hU (fun _ _ x=>x)⟩
  have H1:Hid (∀ w1,Fr base (fun q=>q=c) w w1 -> (∃ a' cap',LS c base (ps ++ shP lo hi l) a' cap' w1) -> Calls prog 100 #[.pointer (some ⟨b,0,none⟩),.int .i64 1,.pointer (some ⟨gb,0,none⟩),.pointer (some ⟨c,0,none⟩)] w1 fun e w'=>e=.returned (.bool true) /\ (∃ a' cap',LS c base (ps ++ shP lo hi l ++ (if hasW lo hi k=true then [(k,v)] else [])) a' cap' w') /\ Fr base (fun q=>q=c) w w'):=fun w1 f1 ⟨a1,c1,hp1⟩=>by
   obtain ⟨k1,k2,_,_⟩:=kept.out w1 f1
   refine (sh_any b k v _ _ _ gb c base lo hi _ a1 c1 w1 k1 k2 hp1 (by rw [List.length_append];omega)).mono ?_
   rintro e w' ⟨he,hp2,f2⟩
   exact ⟨he,hp2,f1.trans f2 (fun _ _ x=>x)⟩
  have HR:Hid (∀ w1,Fr base (fun q=>q=c) w w1 -> (∃ a' cap',LS c base (ps ++ shP lo hi l ++ (if hasW lo hi k=true then [(k,v)] else [])) a' cap' w1) -> Calls prog 98 #[.pointer pr,.func (.func 99) #[] #[],.func (.func 100) #[] #[.pointer (some ⟨gb,0,none⟩),.pointer (some ⟨c,0,none⟩)]] w1 fun e w'=>e=.returned (.bool true) /\ (∃ a' cap',LS c base (ps ++ shP lo hi (.f k v l r)) a' cap' w') /\ Fr base (fun q=>q=c) w w'):=fun w1 f1 ⟨a1,c1,hp1⟩=>by
   obtain ⟨_,k2,_,k4⟩:=kept.out w1 f1
   have h3:(if hasW lo hi k=true then [(k,v)] else []).length <= 1:=by split <;> simp
   rw [<- hpr]
   refine (ihr _ _ a1 c1 w1 k4.pb k2 hp1 (by rw [List.length_append,List.length_append];omega)).mono ?_
   rintro e w' ⟨he,hT,hU⟩
   refine ⟨he,?_,f1.trans hU (fun _ _ x=>x)⟩
   have e2:ps ++ shP lo hi l ++ (if hasW lo hi k=true then [(k,v)] else []) ++ shP lo hi r=ps ++ shP lo hi (.f k v l r):=by rw [shP];simp only [List.append_assoc]
   rw [<- e2];exact hT
  rw [hpl,hpr] at HS
  generalize ps ++ shP lo hi (.f k v l r)=PX at HR ⊢
  generalize ps ++ shP lo hi l ++ (if hasW lo hi k=true then [(k,v)] else [])=PY at HR H1
  generalize ps ++ shP lo hi l=PZ at HL H1
  have f0:Fr base (fun q=>q=c) w w:=Fr.refl _ _ _
  clear hb hl hr ihl ihr hL hg hn hll kept hpl hpr
  go_enter func98,ntmps98
  go_wp2_with (first | (go_at_call 99;refine HU.mono ?_;rintro e w1 ⟨rfl,rfl⟩) | (go_at_call_of 100 (Value.int .i64 0);refine (H0.out _ f0).mono ?_;rintro e wa ⟨rfl,hba⟩;have fa:Fr base (fun q=>q=c) w wa:=Fr.of_below hba) | (go_at_call_of 100 (Value.int .i64 1);refine (H1.out _ hu1 hp1).mono ?_;rintro e w2 ⟨rfl,hp2,hu2⟩) | (go_at_call 222;refine (HS.out _ fa).mono ?_;rintro e w0 ⟨rfl,hb0'⟩;have hb0:=hba.trans (hb0'.mono hba.size)) | (go_at_call_of 98 (Value.pointer pl);refine (HL.out _ hb0).mono ?_;rintro e w1 ⟨rfl,hp1,hu1⟩) | (go_at_call_of 98 (Value.pointer pr);refine (HR.out _ hu2 hp2).mono ?_;rintro e w3 ⟨rfl,⟨a3,cap3,hp3⟩,hu3⟩) | (go_at_call_of 100 (Value.int .i64 2);refine (H2.out _ hu3).mono ?_;rintro e w4 ⟨rfl,hb4⟩))
  go_ret
  exact ⟨rfl,⟨a3,cap3,hp3.below hb4⟩,hu3.trans (Fr.of_below hb4) (fun _ _ x=>x)⟩
def VerAt (lo hi:ByteArray) (R:Option PT) (w:World) (e:Ending) (w':World):Prop :=
 (∀ t,R=some t -> ∃ a c,e=.returned (.tuple #[.slice a (shP lo hi t).length c,.bool true]) /\ w'.ownsRow w.heap.size 81 2 (.slice a (shP lo hi t).length c) (shP lo hi t).length (flatP (shP lo hi t))) /\ (R=none -> e=.returned (.tuple #[.slice none 0 0,.bool false])) /\ Below w.heap.size w w'
theorem shownBy_any (wd n0:Nat) (lo hi:ByteArray) (t:PT) (x:Value) (w:World) (h:PA wd n0 t x w) (hn:cP t <= 500) :
 Calls prog 43 #[x,.agg #[.string lo,.string hi]] w fun e w'=>(∃ a c,e=.returned (.slice a (shP lo hi t).length c) /\ w'.ownsRow w.heap.size 81 2 (.slice a (shP lo hi t).length c) (shP lo hi t).length (flatP (shP lo hi t))) /\ Below w.heap.size w w':=by
 have hW:Below w.heap.size w ((w.alloc (.cells #[.string lo,.string hi] 75)).alloc (.cells #[.slice none 0 0] 35)):=((Below.refl _ _).alloc (Nat.le_refl _) _).alloc (by simp) _
 have nC:=heap_alloc_new (w.alloc (.cells #[.string lo,.string hi] 75)) (.cells #[.slice none 0 0] 35)
 have nG:=(Below.heap_alloc (w.alloc (.cells #[.string lo,.string hi] 75)) (.cells #[.slice none 0 0] 35) w.heap.size (by simp)).trans (heap_alloc_new w (.cells #[.string lo,.string hi] 75))
 rw [World.size_alloc] at nC
 have hsz:((w.alloc (.cells #[.string lo,.string hi] 75)).alloc (.cells #[.slice none 0 0] 35)).heap.size=w.heap.size + 2:=by simp
 have hLS:LS (w.heap.size + 1) (w.heap.size + 2) [] none 0 ((w.alloc (.cells #[.string lo,.string hi] 75)).alloc (.cells #[.slice none 0 0] 35)):=⟨nC,⟨rfl,.inl ⟨rfl,rfl⟩⟩,by omega⟩
 have hx:=h.below hW
 have HA:=asFull_any wd n0 t x _ hx
 have HW:=walk_shown wd n0 w.heap.size (w.heap.size + 1) (w.heap.size + 2) lo hi (by omega) t (ptrV x) [] none 0 _ hx.pb nG hLS (by simp;omega)
 rw [List.nil_append] at HW
 have hmf:∀ (fn:Fn) (first cap:Array Value) (w:World),(Instr.makeFunc fn first cap).run prog w=.ok (.func fn first cap) w:=fun _ _ _ _=>rfl
 generalize shP lo hi t=PX at HW ⊢
 have HQ:Hid (∀ w2,Fr (w.heap.size + 2) (fun q=>q=w.heap.size + 1) ((w.alloc (.cells #[.string lo,.string hi] 75)).alloc (.cells #[.slice none 0 0] 35)) w2 -> Below w.heap.size w w2):=fun w2 hf=>hW.trans (hf.below (by omega) (fun q e=>by omega) hW.size)
 clear h nC nG hLS hx hn hW hsz
 go_enter func43,ntmps43
 go_wp2_with (first | (go_at_call 45;refine HA.mono ?_;rintro e w1 ⟨rfl,rfl⟩) | (go_at_call 98;refine HW.mono ?_;rintro e w1 ⟨rfl,⟨a1,c1,hp1⟩,hu1⟩;have hcell:=ZC hp1.blk 0;replace hu1:=HQ.out _ hu1))
 go_ret
 exact ⟨⟨a1,c1,rfl,own2_mono hp1.own (by omega)⟩,hu1⟩
theorem iverify_any (n:Int) (root lo hi s:ByteArray) (w:World) (hs:s.size <= 1300000) (hr:root.size <= 1048576) (hK:KT w) :
 Calls prog 17 #[.int .i64 n,.string root,.string lo,.string hi,.string s] w (VerAt lo hi (accP n root lo hi s) w):=by
 have hbA:Below w.heap.size w (w.alloc (.cells #[.string lo,.string hi] 75)):=(Below.refl _ _).alloc (Nat.le_refl _) _
 have nA:=heap_alloc_new w (.cells #[.string lo,.string hi] 75)
 have HA:=acc_any n root lo hi s (w.alloc (.cells #[.string lo,.string hi] 75)) hs hr (hK.below hbA)
 have hcn:=fun t=>accP_cnt (n:=n) (root:=root) (lo:=lo) (hi:=hi) (s:=s) (t:=t)
 generalize accP n root lo hi s=R at HA hcn ⊢
 have c0:=ZC nA 0
 have c1:=ZC nA 1
 cases R with
 | none =>
  have HA2:Calls prog 41 #[.int .i64 n,.string root,.agg #[.string lo,.string hi],.string s] (w.alloc (.cells #[.string lo,.string hi] 75)) fun e w'=>e=.returned (.tuple #[.nilIface,.bool false]) /\ Below w.heap.size w w':=by
   refine HA.mono ?_
   rintro e w' ⟨_,he,hb⟩
   exact ⟨he rfl,hbA.trans (hb.mono hbA.size)⟩
  have HP:Hid (∀ w',Below w.heap.size w w' -> VerAt lo hi none w (.returned (.tuple #[.slice none 0 0,.bool false])) w'):=fun w' hb=>⟨fun t h=>(by cases h),fun _=>rfl,hb⟩
  clear HA hcn nA hK
  go_enter func17,ntmps17
  go_wp2_with (first | (go_at_call 41;refine HA2.mono ?_;rintro e w2 ⟨rfl,hb2⟩))
  go_ret2
  exact HP.out _ hb2
 | some t =>
  have hct:=hcn t rfl
  have HA2:Calls prog 41 #[.int .i64 n,.string root,.agg #[.string lo,.string hi],.string s] (w.alloc (.cells #[.string lo,.string hi] 75)) fun e w'=>∃ T y,e=.returned (.tuple #[.iface T y,.bool true]) /\ PA n.toNat (w.alloc (.cells #[.string lo,.string hi] 75)).heap.size t (.iface T y) w' /\ Below w.heap.size w w' /\ w'.cell? ⟨w.heap.size,0,none⟩=some (.string lo) /\ w'.cell? ⟨w.heap.size,1,none⟩=some (.string hi):=by
   refine HA.mono ?_
   rintro e w' ⟨hy,_,hb⟩
   obtain ⟨T,y,he,hp⟩:=hy t rfl
   have n2:=below_cells hb nA
   exact ⟨T,y,he,hp,hbA.trans (hb.mono hbA.size),ZC n2 0,ZC n2 1⟩
  have HS:Hid (∀ T y w',PA n.toNat (w.alloc (.cells #[.string lo,.string hi] 75)).heap.size t (.iface T y) w' -> Below w.heap.size w w' -> Calls prog 43 #[.iface T y,.agg #[.string lo,.string hi]] w' fun e w''=>∃ a c,e=.returned (.slice a (shP lo hi t).length c) /\ VerAt lo hi (some t) w (.returned (.tuple #[.slice a (shP lo hi t).length c,.bool true])) w''):=fun T y w' hp hb=>by
   refine (shownBy_any n.toNat _ lo hi t _ w' hp hct).mono ?_
   rintro e w'' ⟨⟨a,c,he,ho⟩,hb2⟩
   exact ⟨a,c,he,fun t' h'=>(by cases h';exact ⟨a,c,rfl,own2_mono ho hb.size⟩),fun h'=>(by cases h'),hb.trans (hb2.mono hb.size)⟩
  generalize (shP lo hi t).length=N at HS
  clear HA hcn nA hK hct
  go_enter func17,ntmps17
  go_wp2_with (first | (go_at_call 41;refine HA2.mono ?_;rintro e w2 ⟨tx,yx,rfl,hp2,hb2,d0,d1⟩) | (go_at_call 43;refine (HS.out _ _ _ hp2 hb2).mono ?_;rintro e w3 ⟨a3,c3,rfl,hv3⟩))
  go_ret2
  exact hv3
end Go.Proofs.YtibjhkpgaaapaaaGreatDoor
