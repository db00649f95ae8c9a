import Derived.Test.YtibjhkpgaaapaaaGreatDoorZhax
import Derived.Test.YtibjhkpgaaapaaaGreatDoorZhaw
import Derived.Test.YtibjhkpgaaapaaaGreatDoorZhak
import Derived.WalkLawsBesides
import Derived.Test.YtibjhkpgaaapaaaGreatDoorZhba
import Derived.Test.YtibjhkpgaaapaaaGreatDoorZhap
import Derived.Test.YtibjhkpgaaapaaaGreatDoorZhat
import Derived.Test.YtibjhkpgaaapaaaGreatDoorZhau
import Derived.Test.YtibjhkpgaaapaaaGreatDoorZhan
set_option maxRecDepth 100000
set_option maxHeartbeats 1000000
namespace Go.Proofs.YtibjhkpgaaapaaaGreatDoor
open Go.RowKit Go.Proofs.Sha Tryz
abbrev badP:Ending:=.panicked [{ v:=.iface 205 (.agg #[]),recovered:=false }]
theorem req_yes (w:World):Calls prog 93 #[.bool true] w fun e w'=>e=.returned (.tuple #[]) /\ w=w':=by
 go_enter func93,ntmps93
 go_wp2
 go_end0
 exact ⟨rfl,rfl⟩
theorem req_no (w:World):Calls prog 93 #[.bool false] w fun e w'=>e=badP /\ w=w':=by
 go_enter func93,ntmps93
 go_wp2
 exact ⟨rfl,rfl,rfl⟩
def bAt (s:ByteArray) (a:Nat):Nat:=(s.data.toList.getD a 0).toNat
def PR (q rb:Nat) (wd:Nat) (lo hi:ByteArray) (cnt:Nat) (w:World):Prop:=w.heap[q]?=some (.cells #[.pointer (some ⟨rb,0,none⟩),.int .i64 (wd:Int),.string lo,.string hi,.int .i64 (cnt:Int)] 140)
theorem PR.ne {q rb r wd cnt a:Nat} {lo hi s:ByteArray} {f:Bool} {w:World} (h:PR q rb wd lo hi cnt w) (h2:Rd r s a f w):q ≠ r:=fun e=>by
 subst e
 unfold PR at h
 unfold Rd at h2
 rw [h] at h2
 simp only [Option.some.injEq,Obj.cells.injEq] at h2
 exact absurd h2.2.1 (by decide)
theorem rp_letter_ok (q rb wd:Nat) (lo hi s:ByteArray) (cnt a:Nat) (w:World) (hQ:PR q rb wd lo hi cnt w) (hR:Rd rb s a false w) (hs:s.size <= 1300000) (h:a < s.size) :
 Calls prog 140 #[.pointer (some ⟨q,0,none⟩),.iface 208 (.agg #[.int .i64 1,.bool false])] w fun e w'=>e=.returned (.int .i64 (bAt s a:Int)) /\ Rd rb s (a + 1) false w' /\ Mv rb w w':=by
 have hne:=hQ.ne hR
 have HC:Hid (Calls prog 168 #[.pointer (some ⟨rb,0,none⟩),.iface 208 (.agg #[.int .i64 1,.bool false])] w fun e w'=>e=.returned (.int .i64 (bAt s a:Int)) /\ w'.cell? ⟨q,0,none⟩=some (.pointer (some ⟨rb,0,none⟩)) /\ w'.cell? ⟨rb,2,none⟩=some (.bool false) /\ Rd rb s (a + 1) false w' /\ Mv rb w w'):=by
  refine (rint1 rb s a false w hR (by omega) hs).mono ?_
  rintro e w' ⟨v,t,a',f',rfl,hN,hv,ha',_,hR',hM⟩
  rcases hN.out with ⟨_,h1,ht,rfl,rfl⟩ | ⟨h1,_⟩
  · refine ⟨?_,ZC (hM.cells hQ hne) 0,ZC hR' 2,hR',hM⟩
    have hts:t.size=1:=by rw [ht,ByteArray.size_extract];omega
    rw [hv.out,hts,val1,ht]
    rw [byteAt_ex s a 1 0 (by omega)]
    rfl
  · exfalso
    rcases h1 with h1 | h1
    · cases h1
    · omega
 have q0:w.cell? ⟨q,0,none⟩=some (.pointer (some ⟨rb,0,none⟩)):=ZC hQ 0
 clear hQ hR
 go_enter func140,ntmps140
 go_wp2_with (first | (go_at_call 168;refine HC.out.mono ?_;rintro e w1 ⟨rfl,q1,r1,hR1,hM1⟩) | (go_at_call 93;refine (req_yes _).mono ?_;rintro e w2 ⟨rfl,rfl⟩))
 go_ret
 exact ⟨rfl,hR1,hM1⟩
theorem rp_letter_no (q rb wd:Nat) (lo hi s:ByteArray) (cnt a:Nat) (w:World) (hQ:PR q rb wd lo hi cnt w) (hR:Rd rb s a false w) (hs:s.size <= 1300000) (ha:a <= s.size) (h:¬ a < s.size) :
 Calls prog 140 #[.pointer (some ⟨q,0,none⟩),.iface 208 (.agg #[.int .i64 1,.bool false])] w fun e w'=>e=badP /\ Mv rb w w':=by
 have hne:=hQ.ne hR
 have HC:Hid (Calls prog 168 #[.pointer (some ⟨rb,0,none⟩),.iface 208 (.agg #[.int .i64 1,.bool false])] w fun e w'=>∃ v:Int,e=.returned (.int .i64 v) /\ w'.cell? ⟨q,0,none⟩=some (.pointer (some ⟨rb,0,none⟩)) /\ w'.cell? ⟨rb,2,none⟩=some (.bool true) /\ Mv rb w w'):=by
  refine (rint1 rb s a false w hR ha hs).mono ?_
  rintro e w' ⟨v,t,a',f',rfl,hN,hv,ha',_,hR',hM⟩
  rcases hN.out with ⟨_,h1,ht,rfl,rfl⟩ | ⟨h1,_,_,rfl⟩
  · exfalso;omega
  · exact ⟨v,rfl,ZC (hM.cells hQ hne) 0,ZC hR' 2,hM⟩
 have q0:w.cell? ⟨q,0,none⟩=some (.pointer (some ⟨rb,0,none⟩)):=ZC hQ 0
 clear hQ hR
 go_enter func140,ntmps140
 go_wp2_with (first | (go_at_call 168;refine HC.out.mono ?_;rintro e w1 ⟨v1,rfl,q1,r1,hM1⟩) | (go_at_call 93;refine (req_no _).mono ?_;rintro e w2 ⟨rfl,rfl⟩))
 exact ⟨rfl,rfl,hM1⟩
theorem rp_plain_ok (n:Nat) (hn:n <= 32) (q rb wd:Nat) (lo hi s:ByteArray) (cnt a:Nat) (w:World) (hQ:PR q rb wd lo hi cnt w) (hR:Rd rb s a false w) (hs:s.size <= 1300000) (h:a + n <= s.size) :
 Calls prog 143 #[.pointer (some ⟨q,0,none⟩),.iface 214 (.agg #[.int .i64 (n:Int)])] w fun e w'=>e=.returned (.string (s.extract a (a + n))) /\ Rd rb s (a + n) false w' /\ Mv rb w w':=by
 have hne:=hQ.ne hR
 have HC:Hid (Calls prog 169 #[.pointer (some ⟨rb,0,none⟩),.iface 214 (.agg #[.int .i64 (n:Int)])] w fun e w'=>e=.returned (.string (s.extract a (a + n))) /\ w'.cell? ⟨q,0,none⟩=some (.pointer (some ⟨rb,0,none⟩)) /\ w'.cell? ⟨rb,2,none⟩=some (.bool false) /\ Rd rb s (a + n) false w' /\ Mv rb w w'):=by
  refine (rplain n rb s a false w hR (by omega) hs (by omega)).mono ?_
  rintro e w' ⟨t,a',f',rfl,hN,ha',_,hR',hM⟩
  rcases hN.out with ⟨_,h1,ht,rfl,rfl⟩ | ⟨h1,_⟩
  · exact ⟨by rw [ht],ZC (hM.cells hQ hne) 0,ZC hR' 2,hR',hM⟩
  · exfalso
    rcases h1 with h1 | h1
    · cases h1
    · omega
 have q0:w.cell? ⟨q,0,none⟩=some (.pointer (some ⟨rb,0,none⟩)):=ZC hQ 0
 generalize s.extract a (a + n)=X at HC ⊢
 clear hQ hR h
 go_enter func143,ntmps143
 go_wp2_with (first | (go_at_call 169;refine HC.out.mono ?_;rintro e w1 ⟨rfl,q1,r1,hR1,hM1⟩) | (go_at_call 93;refine (req_yes _).mono ?_;rintro e w2 ⟨rfl,rfl⟩))
 go_ret
 exact ⟨rfl,hR1,hM1⟩
theorem rp_plain_no (n:Nat) (hn:n <= 32) (q rb wd:Nat) (lo hi s:ByteArray) (cnt a:Nat) (w:World) (hQ:PR q rb wd lo hi cnt w) (hR:Rd rb s a false w) (hs:s.size <= 1300000) (ha:a <= s.size) (h:¬ a + n <= s.size) :
 Calls prog 143 #[.pointer (some ⟨q,0,none⟩),.iface 214 (.agg #[.int .i64 (n:Int)])] w fun e w'=>e=badP /\ Mv rb w w':=by
 have hne:=hQ.ne hR
 have HC:Hid (Calls prog 169 #[.pointer (some ⟨rb,0,none⟩),.iface 214 (.agg #[.int .i64 (n:Int)])] w fun e w'=>∃ X,e=.returned (.string X) /\ w'.cell? ⟨q,0,none⟩=some (.pointer (some ⟨rb,0,none⟩)) /\ w'.cell? ⟨rb,2,none⟩=some (.bool true) /\ Mv rb w w'):=by
  refine (rplain n rb s a false w hR ha hs (by omega)).mono ?_
  rintro e w' ⟨t,a',f',rfl,hN,ha',_,hR',hM⟩
  rcases hN.out with ⟨_,h1,ht,rfl,rfl⟩ | ⟨h1,_,_,rfl⟩
  · exfalso;omega
  · exact ⟨t,rfl,ZC (hM.cells hQ hne) 0,ZC hR' 2,hM⟩
 have q0:w.cell? ⟨q,0,none⟩=some (.pointer (some ⟨rb,0,none⟩)):=ZC hQ 0
 clear hQ hR h
 go_enter func143,ntmps143
 go_wp2_with (first | (go_at_call 169;refine HC.out.mono ?_;rintro e w1 ⟨X,rfl,q1,r1,hM1⟩) | (go_at_call 93;refine (req_no _).mono ?_;rintro e w2 ⟨rfl,rfl⟩))
 exact ⟨rfl,rfl,hM1⟩
theorem rp_sized_ok (q rb wd:Nat) (lo hi s:ByteArray) (cnt a:Nat) (w:World) (hQ:PR q rb wd lo hi cnt w) (hR:Rd rb s a false w) (hs:s.size <= 1300000) (h:pieceOk s a) :
 Calls prog 143 #[.pointer (some ⟨q,0,none⟩),.iface 261 (.agg #[.int .i64 2,.bool false])] w fun e w'=>e=.returned (.string (s.extract (a + 2) (a + 2 + szAt s a))) /\ Rd rb s (a + 2 + szAt s a) false w' /\ Mv rb w w':=by
 have hne:=hQ.ne hR
 have HC:Hid (Calls prog 169 #[.pointer (some ⟨rb,0,none⟩),.iface 261 (.agg #[.int .i64 2,.bool false])] w fun e w'=>e=.returned (.string (s.extract (a + 2) (a + 2 + szAt s a))) /\ w'.cell? ⟨q,0,none⟩=some (.pointer (some ⟨rb,0,none⟩)) /\ w'.cell? ⟨rb,2,none⟩=some (.bool false) /\ Rd rb s (a + 2 + szAt s a) false w' /\ Mv rb w w'):=by
  refine (rsized2 rb s a false w hR (by have:=h.1;omega) hs).mono ?_
  rintro e w' ⟨t,a',f',rfl,hN,ha',_,hR',hM⟩
  rcases SX2 hN.out with ⟨_,h1,ht,rfl,rfl⟩ | ⟨h1,_⟩
  · exact ⟨by rw [ht],ZC (hM.cells hQ hne) 0,ZC hR' 2,hR',hM⟩
  · exfalso
    rcases h1 with h1 | h1
    · cases h1
    · exact h1 h
 have q0:w.cell? ⟨q,0,none⟩=some (.pointer (some ⟨rb,0,none⟩)):=ZC hQ 0
 generalize s.extract (a + 2) (a + 2 + szAt s a)=X at HC ⊢
 generalize a + 2 + szAt s a=a2 at HC ⊢
 clear hQ hR h
 go_enter func143,ntmps143
 go_wp2_with (first | (go_at_call 169;refine HC.out.mono ?_;rintro e w1 ⟨rfl,q1,r1,hR1,hM1⟩) | (go_at_call 93;refine (req_yes _).mono ?_;rintro e w2 ⟨rfl,rfl⟩))
 go_ret
 exact ⟨rfl,hR1,hM1⟩
theorem rp_sized_no (q rb wd:Nat) (lo hi s:ByteArray) (cnt a:Nat) (w:World) (hQ:PR q rb wd lo hi cnt w) (hR:Rd rb s a false w) (hs:s.size <= 1300000) (ha:a <= s.size) (h:¬ pieceOk s a) :
 Calls prog 143 #[.pointer (some ⟨q,0,none⟩),.iface 261 (.agg #[.int .i64 2,.bool false])] w fun e w'=>e=badP /\ Mv rb w w':=by
 have hne:=hQ.ne hR
 have HC:Hid (Calls prog 169 #[.pointer (some ⟨rb,0,none⟩),.iface 261 (.agg #[.int .i64 2,.bool false])] w fun e w'=>∃ X,e=.returned (.string X) /\ w'.cell? ⟨q,0,none⟩=some (.pointer (some ⟨rb,0,none⟩)) /\ w'.cell? ⟨rb,2,none⟩=some (.bool true) /\ Mv rb w w'):=by
  refine (rsized2 rb s a false w hR ha hs).mono ?_
  rintro e w' ⟨t,a',f',rfl,hN,ha',_,hR',hM⟩
  rcases SX2 hN.out with ⟨_,h1,ht,rfl,rfl⟩ | ⟨h1,rfl⟩
  · exact absurd h1 h
  · exact ⟨t,rfl,ZC (hM.cells hQ hne) 0,ZC hR' 2,hM⟩
 have q0:w.cell? ⟨q,0,none⟩=some (.pointer (some ⟨rb,0,none⟩)):=ZC hQ 0
 clear hQ hR h
 go_enter func143,ntmps143
 go_wp2_with (first | (go_at_call 169;refine HC.out.mono ?_;rintro e w1 ⟨X,rfl,q1,r1,hM1⟩) | (go_at_call 93;refine (req_no _).mono ?_;rintro e w2 ⟨rfl,rfl⟩))
 exact ⟨rfl,rfl,hM1⟩
inductive PT where
 | e:PT
 | s:ByteArray -> PT
 | f:ByteArray -> ByteArray -> PT -> PT -> PT
def hashP (wd:Nat):PT -> ByteArray
 | .e=>⟨#[]⟩
 | .s h=>h
 | .f k v l r=>digB (encS k v (hashP wd l) (hashP wd r) wd) wd
def PA (wd n0:Nat):PT -> Value -> World -> Prop
 | .e,x,_=>x=.iface 211 (.agg #[])
 | .s h,x,_=>x=.iface 216 (.agg #[.string h])
 | .f k v l r,x,w=>∃ b lv rv,x=.iface 84 (.pointer (some ⟨b,0,none⟩)) /\ n0 <= b /\ w.heap[b]?=some (.cells #[.string k,.string v,lv,rv,.string (encS k v (hashP wd l) (hashP wd r) wd)] 151) /\ PA wd n0 l lv w /\ PA wd n0 r rv w
theorem PA.keep {wd n0:Nat} {w w':World} (hk:∀ b (cs:Array Value),n0 <= b -> w.heap[b]?=some (.cells cs 151) -> w'.heap[b]?=some (.cells cs 151)):∀ {t:PT} {x:Value},PA wd n0 t x w -> PA wd n0 t x w'
 | .e,_,h=>h
 | .s _,_,h=>h
 | .f _ _ _ _,_,⟨b,lv,rv,h1,h2,h3,h4,h5⟩=>⟨b,lv,rv,h1,h2,hk b _ h2 h3,PA.keep hk h4,PA.keep hk h5⟩
theorem PA.mono {wd n0 n1:Nat} {w:World} (hn:n1 <= n0):∀ {t:PT} {x:Value},PA wd n0 t x w -> PA wd n1 t x w
 | .e,_,h=>h
 | .s _,_,h=>h
 | .f _ _ _ _,_,⟨b,lv,rv,h1,h2,h3,h4,h5⟩=>⟨b,lv,rv,h1,Nat.le_trans hn h2,h3,PA.mono hn h4,PA.mono hn h5⟩
theorem PA.below {wd n0:Nat} {w w':World} {t:PT} {x:Value} (h:PA wd n0 t x w) (hb:Below w.heap.size w w'):PA wd n0 t x w':=h.keep (fun _ _ _ h3=>below_cells hb h3)
theorem as216_211 (w:World):(Instr.typeAssert (.iface 211 (.agg #[])) 77 216 true).run prog w=.ok (.tuple #[.agg #[.string ⟨#[]⟩],.bool false]) w:=by kernel_rfl
theorem as84_211 (w:World):(Instr.typeAssert (.iface 211 (.agg #[])) 77 84 true).run prog w=.ok (.tuple #[.pointer none,.bool false]) w:=by kernel_rfl
theorem as216_216 (h:ByteArray) (w:World):(Instr.typeAssert (.iface 216 (.agg #[.string h])) 77 216 true).run prog w=.ok (.tuple #[.agg #[.string h],.bool true]) w:=by kernel_rfl
theorem as84_216 (h:ByteArray) (w:World):(Instr.typeAssert (.iface 216 (.agg #[.string h])) 77 84 true).run prog w=.ok (.tuple #[.pointer none,.bool false]) w:=by kernel_rfl
theorem as216_84 (b:Nat) (w:World):(Instr.typeAssert (.iface 84 (.pointer (some ⟨b,0,none⟩))) 77 216 true).run prog w=.ok (.tuple #[.agg #[.string ⟨#[]⟩],.bool false]) w:=by kernel_rfl
theorem as84_84 (b:Nat) (w:World):(Instr.typeAssert (.iface 84 (.pointer (some ⟨b,0,none⟩))) 77 84 true).run prog w=.ok (.tuple #[.pointer (some ⟨b,0,none⟩),.bool true]) w:=by kernel_rfl
theorem shash_p (wd n0:Nat) (h1:1 <= wd) (h2:wd <= 32) (t:PT) (x:Value) (w:World) (h:PA wd n0 t x w) (hK:KT w) :
 Calls prog 97 #[x,.int .i64 (wd:Int)] w fun e w'=>e=.returned (.string (hashP wd t)) /\ Below w.heap.size w w':=by
 cases t with
 | e =>
  obtain rfl:x=.iface 211 (.agg #[]):=h
  have hr:Hid (hashP wd .e=⟨#[]⟩):=rfl
  have q1:=as216_211
  have q2:=as84_211
  go_enter func97,ntmps97
  go_wp2_with fail
  go_ret
  exact ⟨by rw [hr.out];rfl,Below.refl _ _⟩
 | s hh =>
  obtain rfl:x=.iface 216 (.agg #[.string hh]):=h
  have hr:Hid (hashP wd (.s hh)=hh):=rfl
  have q1:=as216_216 hh
  have q2:=as84_216 hh
  go_enter func97,ntmps97
  go_wp2_with fail
  go_ret
  exact ⟨by rw [hr.out];rfl,(Below.refl _ _).alloc (Nat.le_refl _) _⟩
 | f k v l r =>
  obtain ⟨b,lv,rv,rfl,_,hb,_,_⟩:=h
  have hes:=(encS_size k v (hashP wd l) (hashP wd r) wd).1
  have hr:Hid (hashP wd (.f k v l r)=digB (encS k v (hashP wd l) (hashP wd r) wd) wd):=rfl
  have HD:Hid (∀ w',KT w' -> Calls prog 145 #[.string (encS k v (hashP wd l) (hashP wd r) wd),.int .i64 (wd:Int)] w' fun e w''=>e=.returned (.string (digB (encS k v (hashP wd l) (hashP wd r) wd) wd)) /\ Below w'.heap.size w' w''):=fun w' hk=>edig_any _ wd w' (by omega) h1 h2 hk
  generalize encS k v (hashP wd l) (hashP wd r) wd=E at hb HD hr
  have c4:=ZC hb 4
  clear hb hes
  have q1:=as216_84 b
  have q2:=as84_84 b
  go_enter func97,ntmps97
  go_wp2_with (first | (go_at_call 145;refine (HD.out _ hK).mono ?_;rintro e w1 ⟨rfl,hb1⟩))
  go_ret
  exact ⟨by rw [hr.out];rfl,hb1⟩
theorem addEnc (b wd n0:Nat) (h1:1 <= wd) (h2:wd <= 32) (k v:ByteArray) (lv rv:Value) (enc0:ByteArray) (l r:PT) (w:World) (hB:w.heap[b]?=some (.cells #[.string k,.string v,lv,rv,.string enc0] 151)) (hl:PA wd n0 l lv w) (hr:PA wd n0 r rv w) (hK:KT w) (hks:k.size <= 1048576) (hvs:v.size <= 1048576) (hls:(hashP wd l).size <= 1048576) (hrs:(hashP wd r).size <= 1048576) :
 Calls prog 174 #[.pointer (some ⟨b,0,none⟩),.int .i64 (wd:Int)] w fun e w'=>e=.returned (.tuple #[]) /\ w'.heap[b]?=some (.cells #[.string k,.string v,lv,rv,.string (encS k v (hashP wd l) (hashP wd r) wd)] 151) /\ Mv b w w':=by
 have HL:Hid (∀ w',Below w.heap.size w w' -> Calls prog 97 #[lv,.int .i64 (wd:Int)] w' fun e w''=>e=.returned (.string (hashP wd l)) /\ Below w'.heap.size w' w''):=fun w' hb=>shash_p wd n0 h1 h2 l lv w' (hl.below hb) (hK.below hb)
 have HR:Hid (∀ w',Below w.heap.size w w' -> Calls prog 97 #[rv,.int .i64 (wd:Int)] w' fun e w''=>e=.returned (.string (hashP wd r)) /\ Below w'.heap.size w' w''):=fun w' hb=>shash_p wd n0 h1 h2 r rv w' (hr.below hb) (hK.below hb)
 have HE:Hid (∀ w',Calls prog 186 #[.agg #[.string k,.string v,.string (hashP wd l),.string (hashP wd r)],.int .i64 (wd:Int)] w' fun e w''=>e=.returned (.string (encS k v (hashP wd l) (hashP wd r) wd)) /\ Below w'.heap.size w' w''):=fun w'=>by
  refine (enc_impl k v (hashP wd l) (hashP wd r) wd w' hks hvs hls hrs).mono ?_
  rintro e w'' ⟨t,rfl,ht,hb⟩
  exact ⟨by rw [ht.out],hb⟩
 generalize encS k v (hashP wd l) (hashP wd r) wd=E at HE ⊢
 generalize hashP wd l=hL at HL HE
 generalize hashP wd r=hR at HR HE
 clear hl hr hK hls hrs
 have c2:w.cell? ⟨b,2,none⟩=some lv:=ZC hB 2
 have c3:w.cell? ⟨b,3,none⟩=some rv:=ZC hB 3
 go_enter func174,ntmps174
 go_wp2_with fail
 go_region_held3 (fun W=>W.cell? ⟨b,2,none⟩=some lv /\ W.cell? ⟨b,3,none⟩=some rv) (first | exact ⟨c2,c3⟩ | exact ⟨ZC n1 2,ZC n1 3⟩ | exact ⟨ZC n2 2,ZC n2 3⟩) (first | (go_at_call_of 97 lv;refine (HL.out w.drew (Below.refl _ _).drew).mono ?_;rintro e w1 ⟨rfl,hb1'⟩;have hb1:Below w.heap.size w w1:=(Below.refl w.heap.size w).drew.trans hb1';have n1:=below_cells hb1 hB) | (go_at_call_of 97 rv;refine (HR.out w1 hb1).mono ?_;rintro e w2 ⟨rfl,hb2'⟩;have hb2:=hb1.trans (hb2'.mono hb1.size);have n2:=below_cells hb2 hB))
 clear hb1' hb2' n1 hb1 c2 c3 HL HR
 have c0:w2.cell? ⟨b,0,none⟩=some (.string k):=ZC n2 0
 have c1:w2.cell? ⟨b,1,none⟩=some (.string v):=ZC n2 1
 go_wp2_with fail
 go_region_held3 (fun W=>W.cell? ⟨b,0,none⟩=some (.string k) /\ W.cell? ⟨b,1,none⟩=some (.string v)) (first | exact ⟨c0,c1⟩ | exact ⟨ZC n3 0,ZC n3 1⟩ | exact ⟨ZC n4 0,ZC n4 1⟩) (first | (go_at_call 186;refine (HE.out _).mono ?_;rintro e w3 ⟨rfl,hb3'⟩;have hb3:Below w2.heap.size w2 w3:=(Below.refl w2.heap.size w2).drew.trans hb3';have n3:=below_cells hb3 n2;have c4:=ZC n3 4;have f4:w3.frozen? ⟨b,4,none⟩=false:=frozen_of_heap n3;have n4:=heap_setCell_same w3 b 4 _ 151 (.string E) n3))
 have hm:Mv b w (w3.setCell ⟨b,4,none⟩ (.string E)):=(Mv.of_below b (hb2.trans (hb3.mono hb2.size))).setCell 4 _
 go_wp2_with fail
 go_end0
 exact ⟨rfl,n4,hm⟩
instance (s:ByteArray) (a:Nat):Decidable (pieceOk s a):=by unfold pieceOk;exact inferInstance
def okAt (over under par k v:ByteArray):Bool:=(okKey k && okVal v) && (insW over under k && parW hgW par k)
def pieceT (s:ByteArray) (a:Nat):ByteArray:=s.extract (a + 2) (a + 2 + szAt s a)
def pieceE (s:ByteArray) (a:Nat):Nat:=a + 2 + szAt s a
def rdP (s lo hi:ByteArray) (wd:Nat):Nat -> Nat -> ByteArray -> ByteArray -> ByteArray -> Nat -> Option (PT × Nat × Nat)
 | 0,_,_,_,_,_=>none
 | f + 1,a,over,under,par,cnt =>
  if a < s.size then
   if bAt s a=69 then some (.e,a + 1,cnt)
   else if bAt s a=83 then
    if canW over under lo hi=false /\ a + 1 + wd <= s.size then some (.s (s.extract (a + 1) (a + 1 + wd)),a + 1 + wd,cnt) else none
   else if bAt s a=70 /\ canW over under lo hi=true then
    if cnt + 1 <= 500 /\ pieceOk s (a + 1) /\ pieceOk s (pieceE s (a + 1)) /\ okAt over under par (pieceT s (a + 1)) (pieceT s (pieceE s (a + 1)))=true then
     match rdP s lo hi wd f (pieceE s (pieceE s (a + 1))) over (pieceT s (a + 1)) (pieceT s (a + 1)) (cnt + 1) with
     | none=>none
     | some (l,a3,c3) =>
      match rdP s lo hi wd f a3 (pieceT s (a + 1)) under (pieceT s (a + 1)) c3 with
      | none=>none
      | some (r,a4,c4)=>some (.f (pieceT s (a + 1)) (pieceT s (pieceE s (a + 1))) l r,a4,c4)
    else none
   else none
  else none
theorem rdP_ok {s lo hi:ByteArray} {wd:Nat}:∀ (f a:Nat) (over under par:ByteArray) (cnt:Nat) (t:PT) (a' c':Nat),cnt <= 500 -> rdP s lo hi wd f a over under par cnt=some (t,a',c') -> a < a' /\ a' <= s.size /\ cnt <= c' /\ c' <= 500
 | 0,_,_,_,_,_,_,_,_,_,h=>by cases h
 | f + 1,a,over,under,par,cnt,t,a',c',hc,h=>by
  rw [rdP] at h
  split at h
  · split at h
    · cases h;omega
    · split at h
      · split at h
        · rename_i h2;cases h;omega
        · cases h
      · split at h
        · split at h
          · rename_i hx
            obtain ⟨h1,h2,h3,_⟩:=hx
            split at h
            · cases h
            · rename_i l a3 c3 hl
              split at h
              · cases h
              · rename_i r a4 c4 hr
                cases h
                have il:=rdP_ok f _ _ _ _ _ _ _ _ h1 hl
                have ir:=rdP_ok f _ _ _ _ _ _ _ _ il.2.2.2 hr
                have e1:a + 1 + 2 <= pieceE s (a + 1):=by unfold pieceE;omega
                have e2:pieceE s (a + 1) + 2 <= pieceE s (pieceE s (a + 1)):=by unfold pieceE;omega
                omega
          · cases h
        · cases h
  · cases h
structure Mw (q r:Nat) (w w':World):Prop where
 os:w'.os=w.os
 tape:w'.tape=w.tape
 output:w'.output=w.output
 size:w.heap.size <= w'.heap.size
 block:∀ k,k < w.heap.size -> k ≠ q -> k ≠ r -> w'.heap[k]?=w.heap[k]?
section
variable {q r:Nat} {w w' w1 w2:World}
theorem Mw.refl (q r:Nat) (w:World):Mw q r w w:=⟨rfl,rfl,rfl,Nat.le_refl _,fun _ _ _ _=>rfl⟩
theorem Mw.trans (h:Mw q r w w1) (k:Mw q r w1 w2):Mw q r w w2 :=
 ⟨k.os.trans h.os,k.tape.trans h.tape,k.output.trans h.output,Nat.le_trans h.size k.size,fun i hi h1 h2=>(k.block i (Nat.lt_of_lt_of_le hi h.size) h1 h2).trans (h.block i hi h1 h2)⟩
theorem Mw.of_below (h:Below w.heap.size w w1):Mw q r w w1:=⟨h.os,h.tape,h.output,h.size,fun i hi _ _=>h.block i hi⟩
theorem Mw.of_mv (h:Mv r w w1):Mw q r w w1:=⟨h.os,h.tape,h.output,h.size,fun i hi _ h2=>h.block i hi h2⟩
theorem Mw.cells {k:Nat} {o:Obj} (h:Mw q r w w1) (hk:w.heap[k]?=some o) (h1:k ≠ q) (h2:k ≠ r):w1.heap[k]?=some o:=(h.block k (Array.getElem?_eq_some_iff.1 hk).1 h1 h2).trans hk
theorem Mw.setCell (h:Mw q r w w1) (g i:Nat) (v:Value) (hg:g=q \/ w.heap.size <= g):Mw q r w (w1.setCell ⟨g,i,none⟩ v) :=
 ⟨h.os,h.tape,h.output,by rw [size_set];exact h.size,fun k hk h1 h2=>(heap_setCell_other w1 ⟨g,i,none⟩ k v (by show k ≠ g;rcases hg with e | e;rw [e];exact h1;omega)).trans (h.block k hk h1 h2)⟩
theorem Mw.of_new {b:Nat} (h:Mw q r w w1) (k:Mv b w1 w2) (hb:w.heap.size <= b):Mw q r w w2 :=
 ⟨k.os.trans h.os,k.tape.trans h.tape,k.output.trans h.output,Nat.le_trans h.size k.size,fun i hi h1 h2=>(k.block i (Nat.lt_of_lt_of_le hi h.size) (by omega)).trans (h.block i hi h1 h2)⟩
end
structure RS (q rb wd:Nat) (lo hi s:ByteArray) (a cnt:Nat) (w:World):Prop where
 pr:PR q rb wd lo hi cnt w
 rd:Rd rb s a false w
theorem RS.below {q rb wd:Nat} {lo hi s:ByteArray} {a cnt:Nat} {w w':World} (h:RS q rb wd lo hi s a cnt w) (hb:Below w.heap.size w w'):RS q rb wd lo hi s a cnt w':=⟨below_cells hb h.pr,below_cells hb h.rd⟩
theorem RS.step {q rb wd:Nat} {lo hi s:ByteArray} {a a' cnt:Nat} {w w':World} (h:RS q rb wd lo hi s a cnt w) (hr:Rd rb s a' false w') (hm:Mv rb w w'):RS q rb wd lo hi s a' cnt w':=⟨hm.cells h.pr (h.pr.ne h.rd),hr⟩
theorem KT.mw {q rb wd:Nat} {lo hi s:ByteArray} {a cnt:Nat} {w w':World} (hK:KT w) (h:RS q rb wd lo hi s a cnt w) (hm:Mw q rb w w'):KT w':=fun j hj=>by
 have h0:=hK 0 (by omega)
 have hl0:0 < w.heap.size:=World.block_lt_of_cell? w _ h0
 have n1:(0:Nat) ≠ q:=fun e=>by
  have:=ZC h.pr 0
  rw [<- e,h0] at this
  simp at this
 have n2:(0:Nat) ≠ rb:=fun e=>by
  have:=ZC h.rd 0
  rw [<- e,h0] at this
  simp at this
 have e:=hm.block 0 hl0 n1 n2
 rw [<- hK j hj]
 unfold World.cell?
 simp only [e]
def SubPost (q rb wd:Nat) (lo hi s:ByteArray) (R:Option (PT × Nat × Nat)) (w:World) (e:Ending) (w':World):Prop :=
 (∀ t a' c',R=some (t,a',c') -> ∃ x,e=.returned x /\ PA wd w.heap.size t x w' /\ RS q rb wd lo hi s a' c' w') /\ (R=none -> e=badP) /\ Mw q rb w w'
end Go.Proofs.YtibjhkpgaaapaaaGreatDoor
