import Derived.Test.YtfmpjlpakldheaaGreatDoorZrbc
import Derived.Test.YtfmpjlpakldheaaGreatDoorZrak
import Derived.Test.YtfmpjlpakldheaaGreatDoorZraz
import Derived.Test.YtfmpjlpakldheaaGreatDoorZram
import Derived.Test.YtfmpjlpakldheaaGreatDoorZrau
set_option maxRecDepth 100000
set_option maxHeartbeats 1000000
namespace Go.Proofs.YtfmpjlpakldheaaGreatDoor
open Go.RowKit Go.Proofs.Sha Tryz
theorem TAL.base0 {n0 : Nat} {f : Tr PairT -> ByteArray × ByteArray} {w : World} : ∀ {t : Tr PairT} {p : Option Addr} {bs : List Nat}, TAL n0 f t p bs w -> TAL 0 f t p bs w
 | .nil, _, _, h => h
 | .node _ _ _, _, _, ⟨b, pl, pr, bl, br, h1, h5, _, h2, h3, h4⟩ => ⟨b, pl, pr, bl, br, h1, h5, Nat.zero_le _, h2, h3.base0, h4.base0⟩
theorem TAL.uniq {n0 n1 : Nat} {f g : Tr PairT -> ByteArray × ByteArray} {w : World} : ∀ {t : Tr PairT} {p : Option Addr} {bs bs' : List Nat}, TAL n0 f t p bs w -> TAL n1 g t p bs' w -> bs = bs'
 | .nil, _, _, _, h, h' => h.2.trans h'.2.symm
 | .node _ _ _, _, _, _, ⟨b, pl, pr, bl, br, h1, h5, _, h2, h3, h4⟩, ⟨b', pl', pr', bl', br', h1', h5', _, h2', h3', h4'⟩ => by
  have e : b = b' := by
   have := h1.symm.trans h1'
   simpa using this
  subst e
  have e1 : pl = pl' := by
   have := h2.c35.symm.trans h2'.c35
   simpa using this
  have e2 : pr = pr' := by
   have := h2.c36.symm.trans h2'.c36
   simpa using this
  subst e1 e2
  rw [h5, h5', h3.uniq h3', h4.uniq h4']
theorem save_any (HH : Hid (HashSaid KTab)) (so ro bo wd : Nat) (ss : List ByteArray) (ao : Option Addr) (co : Nat) (t : Tr PairT) (p : Option Addr) (n0 : Nat) (w : World)
 (hOld : Hid (∀ W, Below n0 w W -> StockAt so ro bo wd ss ao co W)) (hKT : Hid (∀ W, Below n0 w W -> KTab W)) (hn0 : n0 <= w.heap.size) (ht : TA n0 bare t p w) (ha : Apart t.inord) (hsz : ∀ x ∈ t.inord, x.1.size <= 1048576 /\ x.2.size <= 1048576)
 (hs1 : ss.length <= 20000) (hs2 : ∀ j, (ss.getD j ⟨#[]⟩).size <= 1048576) (hw1 : 1 <= wd) (hw2 : wd <= 32) :
 Calls prog 123 #[.pointer (some ⟨so, 0, none⟩), .pointer p] w fun e w' => ∃ gs sa ra base bs, e = .returned (.pointer (some ⟨gs, 0, none⟩)) /\ SvAt gs so sa ra base wd (svAll wd ss (encsT wd t)) w' /\ TA n0 (hf wd) t p w' /\ TAL n0 bare t p bs w /\ Upd (fun k => k ∈ bs) w w' := by
 have hO := hOld.out w (Below.refl _ _)
 have c1 := ZC hO.blk 1
 have HN := newStock_any wd w
 go_enter func123, ntmps123
 go_upto_region 2 with (go_at_call 111; refine HN.mono ?_; rintro e w1 ⟨sa, ra, rfl, hS, hb1, hr1, hr2⟩)
 obtain ⟨gs, hgs⟩ : ∃ g, w1.heap.size = g := ⟨_, rfl⟩
 have hb2 : Below w1.heap.size w1 ((w1.alloc (.cells #[.pointer (some ⟨so, 0, none⟩), .pointer (some ⟨sa, 0, none⟩), .int .i64 0, .string ⟨#[]⟩, .string ⟨#[]⟩] 172)).alloc (.cells #[.pointer (some ⟨w1.heap.size, 0, none⟩)] 169)) := ((Below.refl _ _).alloc (Nat.le_refl _) _).alloc (by simp) _
 have n2 := heap_alloc_new (w1.alloc (.cells #[.pointer (some ⟨so, 0, none⟩), .pointer (some ⟨sa, 0, none⟩), .int .i64 0, .string ⟨#[]⟩, .string ⟨#[]⟩] 172)) (.cells #[.pointer (some ⟨w1.heap.size, 0, none⟩)] 169)
 have n1 : SVb w1.heap.size so sa 0 ⟨#[]⟩ ⟨#[]⟩ ((w1.alloc (.cells #[.pointer (some ⟨so, 0, none⟩), .pointer (some ⟨sa, 0, none⟩), .int .i64 0, .string ⟨#[]⟩, .string ⟨#[]⟩] 172)).alloc (.cells #[.pointer (some ⟨w1.heap.size, 0, none⟩)] 169)) := (Below.heap_alloc (w1.alloc (.cells #[.pointer (some ⟨so, 0, none⟩), .pointer (some ⟨sa, 0, none⟩), .int .i64 0, .string ⟨#[]⟩, .string ⟨#[]⟩] 172)) (.cells #[.pointer (some ⟨w1.heap.size, 0, none⟩)] 169) w1.heap.size (by simp)).trans (heap_alloc_new w1 _)
 have hz2 : ((w1.alloc (.cells #[.pointer (some ⟨so, 0, none⟩), .pointer (some ⟨sa, 0, none⟩), .int .i64 0, .string ⟨#[]⟩, .string ⟨#[]⟩] 172)).alloc (.cells #[.pointer (some ⟨w1.heap.size, 0, none⟩)] 169)).heap.size = w1.heap.size + 2 := by simp
 rw [World.size_alloc] at n2
 have hsl := hS.hb
 generalize (w1.alloc (.cells #[.pointer (some ⟨so, 0, none⟩), .pointer (some ⟨sa, 0, none⟩), .int .i64 0, .string ⟨#[]⟩, .string ⟨#[]⟩] 172)).alloc (.cells #[.pointer (some ⟨w1.heap.size, 0, none⟩)] 169) = w2 at hb2 n1 n2 hz2 ⊢
 have hS2 := hS.below hb2
 have hbw2 : Below w.heap.size w w2 := hb1.trans (hb2.mono hb1.size)
 rw [hgs] at n1 n2 hz2 hsl ⊢
 clear hgs hb2 hb1 hS HN c1 hO
 have hO2 := hOld.out w2 (hbw2.mono hn0)
 have c1 := ZC hO2.blk 1
 have HAdd := addHashes_any wd hw1 hw2 n0 t p w2 (ht.below hbw2 (Nat.le_refl _)) ha hsz (hKT.out w2 (hbw2.mono hn0))
 have HWk : Hid (∀ w4, (∃ bs, TAL n0 bare t p bs w2 /\ TAL n0 (hf wd) t p bs w4 /\ Upd (fun k => k ∈ bs) w2 w4) -> Calls prog 134 #[.pointer p, .func (.func 138) #[] #[], .func (.func 155) #[] #[.pointer (some ⟨gs + 1, 0, none⟩)]] w4 fun e w' => ∃ v base, e = .returned (.bool v) /\ w'.cell? ⟨gs + 1, 0, none⟩ = some (.pointer (some ⟨gs, 0, none⟩)) /\ SvAt gs so sa ra base wd (svAll wd ss (encsT wd t)) w' /\ TA n0 (hf wd) t p w' /\ ∃ bs, TAL n0 bare t p bs w /\ Upd (fun k => k ∈ bs) w w') := by
  rintro w4 ⟨bs, t1, t2, hu⟩
  have hcs2 := ZC n2 0
  have hgb : gs ∉ bs := t1.notin gs (ZC n1 0) (fun s => by simp)
  have hcb : gs + 1 ∉ bs := t1.notin (gs + 1) hcs2 (fun s => by simp)
  have hsb : sa ∉ bs := t1.notin sa (ZC hS2.blk 0) (fun s => by simp)
  have hrb : ra ∉ bs := fun hk => by
   obtain ⟨x, _, l, r, e, hT⟩ := t1.mem ra hk
   obtain ⟨es, cl, hm, _, _⟩ := hS2.map.is
   unfold TB at hT
   rw [hm] at hT
   simp at hT
  have hsm : ∀ b ∈ bs, ¬ SvM gs sa ra b := fun b hb hq => by
   rcases hq with rfl | rfl | rfl
   · exact hgb hb
   · exact hsb hb
   · exact hrb hb
  have hb24 : Below n0 w2 w4 := hu.below (Nat.le_trans hn0 hbw2.size) (fun k hk => t1.ge k hk)
  have hbw4 : Below n0 w w4 := (hbw2.mono hn0).trans hb24
  have hMm : ∀ k, SvM gs sa ra k -> n0 <= k := fun k hk => by rcases hk with rfl | rfl | rfl <;> omega
  have hbW : ∀ W, Upd (SvM gs sa ra) w4 W -> Below n0 w W := fun W hW => hbw4.trans (hW.below (Nat.le_trans hn0 (Nat.le_trans hbw2.size hu.size)) hMm)
  have hg4 : SVb gs so sa 0 ⟨#[]⟩ ⟨#[]⟩ w4 := (hu.block gs (by omega) hgb).trans n1
  have hs4 := hu.size
  have hS4 : StockAt sa ra w4.heap.size wd [] none 0 w4 := by
   refine ⟨(hu.block sa (by omega) hsb).trans hS2.blk, World.ownsRow_nil _ _ _ _, ?_, by omega, by omega, by omega, Nat.le_refl _⟩
   obtain ⟨es, cl, hm, q1, q2⟩ := hS2.map.is
   exact ⟨es, cl, (hu.block ra (by omega) hrb).trans hm, q1, q2⟩
  have hcs4 := hu.cell hcs2 hcb
  have hnc : ¬ SvM gs sa ra (gs + 1) := fun hq => by rcases hq with hq | hq | hq <;> omega
  refine (walk_save HH gs so sa ra w4.heap.size wd ss ro bo ao co w4 rfl (fun W hW => hOld.out W (hbW W hW)) (fun W hW => hKT.out W (hbW W hW)) hs1 hs2 hw1 hw2 (by omega) (by omega) (by omega) (gs + 1) hcs4 hnc t p bs [] w4 t2.base0 hsm (Upd.refl _ _) ⟨hg4, ⟨none, 0, hS4⟩, Nat.zero_le _, fun j => Nat.zero_le _⟩).mono ?_
  rintro e w' ⟨he, hA, hU⟩
  obtain ⟨bs', h0⟩ := ht.list
  have hbs := t1.uniq (h0.upd (M := fun _ => False) (Upd.of_below hbw2) (fun _ _ q => q))
  subst hbs
  refine ⟨_, _, he, hU.cell hcs4 hnc, hA, (t2.upd hU hsm).ta, bs, h0, ⟨hU.os.trans (hu.os.trans hbw2.os), hU.tape.trans (hu.tape.trans hbw2.tape), hU.output.trans (hu.output.trans hbw2.output), Nat.le_trans hbw2.size (Nat.le_trans hu.size hU.size), fun k hk hn => ?_⟩⟩
  have hk2 := hbw2.size
  exact (hU.block k (by omega) (fun hq => by rcases hq with hq | hq | hq <;> omega)).trans ((hu.block k (by omega) hn).trans (hbw2.block k hk))
 have hmf : ∀ (fn : Fn) (first cap : Array Value) (w : World), (Instr.makeFunc fn first cap).run prog w = .ok (.func fn first cap) w := fun _ _ _ _ => rfl
 clear hOld hKT ht ha hsz hS2 hO2 n1 n2
 go_wp2_with (first | (go_at_call 99; refine HAdd.mono ?_; rintro e w4 ⟨rfl, hx4⟩) | (go_at_call 134; refine (HWk.out _ hx4).mono ?_; rintro e w5 ⟨v, base, rfl, hc5, hA5, hT5, bs, hL5, hB5⟩))
 go_ret
 exact ⟨gs, sa, ra, base, bs, rfl, hA5, hT5, hL5, hB5⟩
structure SvO where
 cd : Int
 n : Int
 xs : List ByteArray
 root : ByteArray
 x : ByteArray
 y : ByteArray
def codeO (c : Int) : SvO := ⟨c, 0, [], ⟨#[]⟩, ⟨#[]⟩, ⟨#[]⟩⟩
def svOut (wd : Nat) (ss : List ByteArray) (root : ByteArray) : SvR -> SvO
 | .go ad => ⟨0, (wd : Int), ss ++ ad, root, ⟨#[]⟩, ⟨#[]⟩⟩
 | .full => codeO 1
 | .clash u e => ⟨4, (wd : Int), ss, ⟨#[]⟩, txt u, txt e⟩
def SavedIs (o : SvO) (we : World) (e : Ending) (w' : World) : Prop := ∃ a c, e = .returned (svV o.cd o.n a o.xs.length c o.root o.x o.y) /\ OwnT we o.xs a o.xs.length c w'
theorem OwnT.nil {w W : World} (h : Below w.heap.size w W) : OwnT w [] none 0 0 W := ⟨World.ownsRow_nil _ _ _ _, h, rfl⟩
theorem retS {fn : Func} {R : Ending -> World -> Prop} {A : Act} {p : Tmp} {gb : Nat} {cd n : Int} {a : Option Addr} {m c : Nat} {root x y : ByteArray} {W : World} (hres : fn.results = #[.cell p 40]) (hp : A.tmps.getD p undef = .pointer (some ⟨gb, 0, none⟩)) (hd : A.defers = []) (hn : W.heap[gb]? = some (.cells #[.int .i64 cd, .int .i64 n, .slice a m c, .string root, .string x, .string y] 40))
 (h : R (.returned (svV cd n a m c root x y)) W) : bodyPost prog fn R Exit.ret A W := by
 have c0 := ZC hn 0
 have c1 := ZC hn 1
 have c2 := ZC hn 2
 have c3 := ZC hn 3
 have c4 := ZC hn 4
 have c5 := ZC hn 5
 have hp' : A.tmps[p]?.getD undef = .pointer (some ⟨gb, 0, none⟩) := by simpa using hp
 refine bodyPost_ret (v := svV cd n a m c root x y) ?_ hd h
 simp [results, hres, go_sem, asAddr, hp', c0, c1, c2, c3, c4, c5]
def SB (g : Nat) (cd n : Int) (a : Option Addr) (m c : Nat) (root x y : ByteArray) (W : World) : Prop := W.heap[g]? = some (.cells #[.int .i64 cd, .int .i64 n, .slice a m c, .string root, .string x, .string y] 40)
def set6 (W : World) (g : Nat) (cd n : Int) (a : Option Addr) (m c : Nat) (root x y : ByteArray) : World := (((((W.setCell ⟨g, 0, none⟩ (.int .i64 cd)).setCell ⟨g, 1, none⟩ (.int .i64 n)).setCell ⟨g, 2, none⟩ (.slice a m c)).setCell ⟨g, 3, none⟩ (.string root)).setCell ⟨g, 4, none⟩ (.string x)).setCell ⟨g, 5, none⟩ (.string y)
theorem SB.all {g : Nat} {cd n : Int} {a : Option Addr} {m c : Nat} {root x y : ByteArray} {W : World} (h : SB g cd n a m c root x y W) (cd' n' : Int) (a' : Option Addr) (m' c' : Nat) (root' x' y' : ByteArray) : SB g cd' n' a' m' c' root' x' y' (set6 W g cd' n' a' m' c' root' x' y') :=
 heap_setCell_same _ g 5 _ 40 (.string y') (heap_setCell_same _ g 4 _ 40 (.string x') (heap_setCell_same _ g 3 _ 40 (.string root') (heap_setCell_same _ g 2 _ 40 (.slice a' m' c') (heap_setCell_same _ g 1 _ 40 (.int .i64 n') (heap_setCell_same _ g 0 _ 40 (.int .i64 cd') h)))))
theorem SB.at {g : Nat} {cd n : Int} {a : Option Addr} {m c : Nat} {root x y : ByteArray} {W : World} (h : SB g cd n a m c root x y W) : W.cell? ⟨g, 0, none⟩ = some (.int .i64 cd) /\ W.cell? ⟨g, 1, none⟩ = some (.int .i64 n) /\ W.cell? ⟨g, 2, none⟩ = some (.slice a m c) /\ W.cell? ⟨g, 3, none⟩ = some (.string root) /\ W.cell? ⟨g, 4, none⟩ = some (.string x) /\ W.cell? ⟨g, 5, none⟩ = some (.string y) /\ ∀ j, W.frozen? ⟨g, j, none⟩ = false :=
 ⟨ZC h 0, ZC h 1, ZC h 2, ZC h 3, ZC h 4, ZC h 5, fun j => by rw [World.frozen?, show W.heap[g]? = _ from h]; rfl⟩
theorem OwnT.set6 {w W : World} {xs : List ByteArray} {a0 : Option Addr} {m0 c0 : Nat} {g : Nat} {cs : Array Value} (h : OwnT w xs a0 m0 c0 W) (hg : W.heap[g]? = some (.cells cs 40)) (hge : w.heap.size <= g) (cd n : Int) (a : Option Addr) (m c : Nat) (root x y : ByteArray) : OwnT w xs a0 m0 c0 (set6 W g cd n a m c root x y) := by
 refine ⟨ownG_kept h.own (fun q hv hq => ?_), (((((h.bel.setCell (p := ⟨g, 0, none⟩) hge _).setCell (p := ⟨g, 1, none⟩) hge _).setCell (p := ⟨g, 2, none⟩) hge _).setCell (p := ⟨g, 3, none⟩) hge _).setCell (p := ⟨g, 4, none⟩) hge _).setCell (p := ⟨g, 5, none⟩) hge _, h.len⟩
 have hne : q ≠ g := by
  intro e; subst e; obtain ⟨_, _, cur, h9⟩ := ownG_cells h.own hv; rw [hg] at h9; simp at h9
 unfold Proofs.YtfmpjlpakldheaaGreatDoor.set6
 rw [Below.heap_setCell _ _ _ _ (by show q ≠ g; exact hne), Below.heap_setCell _ _ _ _ (by show q ≠ g; exact hne), Below.heap_setCell _ _ _ _ (by show q ≠ g; exact hne), Below.heap_setCell _ _ _ _ (by show q ≠ g; exact hne), Below.heap_setCell _ _ _ _ (by show q ≠ g; exact hne), Below.heap_setCell _ _ _ _ (by show q ≠ g; exact hne)]
theorem saved_any (HH : Hid (HashSaid KTab)) (so ro bo wd : Nat) (ss : List ByteArray) (ao : Option Addr) (co : Nat) (t : Tr PairT) (p : Option Addr) (n0 : Nat) (we w : World) (hbe : Below we.heap.size we w) (hne : we.heap.size <= n0)
 (hOld : Hid (∀ W, Below n0 w W -> StockAt so ro bo wd ss ao co W)) (hKT : Hid (∀ W, Below n0 w W -> KTab W)) (hn0 : n0 <= w.heap.size) (ht : TA n0 bare t p w) (ha : Apart t.inord) (hsz : ∀ x ∈ t.inord, x.1.size <= 1048576 /\ x.2.size <= 1048576)
 (hs1 : ss.length <= 20000) (hs2 : ∀ j, (ss.getD j ⟨#[]⟩).size <= 1048576) (hw1 : 1 <= wd) (hw2 : wd <= 32) :
 Calls prog 81 #[.pointer (some ⟨so, 0, none⟩), .pointer p] w (SavedIs (svOut wd ss (rootT wd t) (svAll wd ss (encsT wd t))) we) := by
 have hA : Below w.heap.size w (w.alloc (.cells #[.int .i64 0, .int .i64 0, .slice none 0 0, .string ⟨#[]⟩, .string ⟨#[]⟩, .string ⟨#[]⟩] 40)) := (Below.refl _ _).alloc (Nat.le_refl _) _
 have nA := heap_alloc_new w (.cells #[.int .i64 0, .int .i64 0, .slice none 0 0, .string ⟨#[]⟩, .string ⟨#[]⟩, .string ⟨#[]⟩] 40)
 have hA0 := hA.mono hn0
 have HS := save_any HH so ro bo wd ss ao co t p n0 _ (fun W hW => hOld.out W (hA0.trans hW)) (fun W hW => hKT.out W (hA0.trans hW)) (Nat.le_trans hn0 hA.size) (ht.below hA (Nat.le_refl _)) ha hsz hs1 hs2 hw1 hw2
 have HX : Hid (∀ w1 bs, TAL n0 bare t p bs (w.alloc (.cells #[.int .i64 0, .int .i64 0, .slice none 0 0, .string ⟨#[]⟩, .string ⟨#[]⟩, .string ⟨#[]⟩] 40)) -> Upd (fun k => k ∈ bs) (w.alloc (.cells #[.int .i64 0, .int .i64 0, .slice none 0 0, .string ⟨#[]⟩, .string ⟨#[]⟩, .string ⟨#[]⟩] 40)) w1 -> Below n0 w w1 /\ SB w.heap.size 0 0 none 0 0 ⟨#[]⟩ ⟨#[]⟩ ⟨#[]⟩ w1 /\ Below we.heap.size we w1) := fun w1 bs hL hU => by
  have hb1 : Below n0 w w1 := hA0.trans (hU.below (Nat.le_trans hn0 hA.size) (fun k hk => hL.ge k hk))
  have hnb : w.heap.size ∉ bs := hL.notin _ (ZC nA 0) (fun s => by simp)
  exact ⟨hb1, (hU.block _ (by simp) hnb).trans nA, hbe.trans (hb1.mono hne)⟩
 obtain ⟨gr, hgr⟩ : ∃ g, w.heap.size = g := ⟨_, rfl⟩
 have hgl : we.heap.size <= gr := by omega
 rw [hgr] at HX
 cases hR : svAll wd ss (encsT wd t) with
 | full =>
  rw [hR] at HS
  go_enter func81, ntmps81
  go_upto_region 2 with (go_at_call 123; refine HS.mono ?_; rintro e w1 ⟨gs, sa, ra, base, bs, rfl, hS1, hT1, hL1, hU1⟩)
  obtain ⟨hb1, hB1, hbe1⟩ := HX.out _ _ hL1 hU1
  have c2 := ZC (show w1.heap[gs]? = _ from hS1) 2
  obtain ⟨d0, d1, d2, d3, d4, d5, df⟩ := hB1.at
  have hB2 := hB1.all 1 0 none 0 0 ⟨#[]⟩ ⟨#[]⟩ ⟨#[]⟩
  have hT2 := (OwnT.nil hbe1).set6 hB1 hgl 1 0 none 0 0 ⟨#[]⟩ ⟨#[]⟩ ⟨#[]⟩
  clear hL1 hU1 hT1 hbe1 hb1
  go_wp2_with fail
  exact retS Tryz.results81 rfl rfl hB2 ⟨none, 0, rfl, hT2⟩
 | clash u e0 =>
  rw [hR] at HS
  have HP : Hid (∀ w1, Below n0 w w1 -> Calls prog 124 #[.pointer (some ⟨so, 0, none⟩), .slice none 0 0] w1 fun e w' => ∃ a' c', e = .returned (.agg #[.int .i64 (wd : Int), .slice a' ss.length c']) /\ OwnT w1 ss a' ss.length c' w') := fun w1 hb => by
   have := poolOf_any so ro bo wd ss ao co [] none 0 w1 (hOld.out _ hb) hs1 hs2 ⟨Nat.zero_le _, fun j => Nat.zero_le _, fun h => absurd h (Nat.lt_irrefl _)⟩ (Nat.zero_le _)
   rw [List.append_nil] at this
   exact this
  go_enter func81, ntmps81
  go_upto_region 2 with (go_at_call 123; refine HS.mono ?_; rintro e w1 ⟨gs, sa, ra, base, bs, rfl, hS1, hT1, hL1, hU1⟩)
  obtain ⟨hb1, hB1, hbe1⟩ := HX.out _ _ hL1 hU1
  have hS1' : SVb gs so sa 4 (txt u) (txt e0) w1 := hS1
  have c2 := ZC hS1' 2
  have c3 := ZC hS1' 3
  have c4 := ZC hS1' 4
  have HP1 := HP.out w1 hb1
  have hbd : Below w1.heap.size w1 w1.drew := (Below.refl _ _).drew
  have HP2 : Hid (Calls prog 124 #[.pointer (some ⟨so, 0, none⟩), .slice none 0 0] w1.drew fun e w' => ∃ a' c', e = .returned (.agg #[.int .i64 (wd : Int), .slice a' ss.length c']) /\ OwnT w1 ss a' ss.length c' w') := (HP.out w1.drew (hb1.trans (hbd.mono (Nat.le_trans hn0 hb1.size)))).mono (by
   rintro e w' ⟨a', c', he, hT⟩
   exact ⟨a', c', he, hT.up hbd⟩)
  clear hL1 hU1 hT1 HP HP1 hS1 HX HS hOld hKT ht ha hsz
  go_upto_region 6 with fail
  have hne2 : gs ≠ gr := ne_of_type hS1' hB1 (by decide)
  have HK : Hid (∀ (W : World) (o : Nat) (v : Value), (W.cell? ⟨gs, 2, none⟩ = some (.int .i64 4) /\ W.cell? ⟨gs, 3, none⟩ = some (.string (txt u)) /\ W.cell? ⟨gs, 4, none⟩ = some (.string (txt e0))) -> (W.setCell ⟨gr, o, none⟩ v).cell? ⟨gs, 2, none⟩ = some (.int .i64 4) /\ (W.setCell ⟨gr, o, none⟩ v).cell? ⟨gs, 3, none⟩ = some (.string (txt u)) /\ (W.setCell ⟨gr, o, none⟩ v).cell? ⟨gs, 4, none⟩ = some (.string (txt e0))) := fun W o v h => by
   have hl := World.block_lt_of_cell? W _ h.1
   have hf : ∀ j, (W.setCell ⟨gr, o, none⟩ v).cell? ⟨gs, j, none⟩ = W.cell? ⟨gs, j, none⟩ := fun j => (grownBy_setCell W gr o v).cell_far ⟨gs, j, none⟩ hl (by intro e; exact hne2 (Option.some.inj e))
   rw [hf, hf, hf]
   exact h
  have HS2 : Hid (∀ W, Below w1.heap.size w1 W -> W.cell? ⟨gs, 2, none⟩ = some (.int .i64 4) /\ W.cell? ⟨gs, 3, none⟩ = some (.string (txt u)) /\ W.cell? ⟨gs, 4, none⟩ = some (.string (txt e0))) := fun W hW => ⟨ZC (hS1'.below hW) 2, ZC (hS1'.below hW) 3, ZC (hS1'.below hW) 4⟩
  have HB : Hid (∀ W, Below w1.heap.size w1 W -> SB gr 0 0 none 0 0 ⟨#[]⟩ ⟨#[]⟩ ⟨#[]⟩ W) := fun W hW => (hW.block gr (Array.getElem?_eq_some_iff.1 hB1).1).trans hB1
  clear hS1'
  refine wp_region_held_drew (S := fun W => W.cell? ⟨gs, 2, none⟩ = some (.int .i64 4) /\ W.cell? ⟨gs, 3, none⟩ = some (.string (txt u)) /\ W.cell? ⟨gs, 4, none⟩ = some (.string (txt e0))) (by kernel_rfl) (⟨c2, c3, c4⟩) (fun hHeld => ?_)
  refine tkI 0 ?_
  simp only [Act.put, zq]
  refine tkI 1 ?_
  simp only [Act.put, zq]
  refine tkI 2 ?_
  simp only [Act.put, zq]
  refine tkI 3 ?_
  simp only [Act.put, zq]
  refine tkI 4 ?_
  simp only [Act.put, zq]
  refine tkI 6 ?_
  simp only [Act.put, zq]
  refine tkI 7 ?_
  simp only [Act.put, zq]
  refine tkI 8 ?_
  simp only [Act.put, zq]
  refine tkI 9 ?_
  simp only [Act.put, zq]
  refine tkI 10 ?_
  simp only [Act.put, zq]
  refine tkI 11 ?_
  simp only [Act.put, zq]
  refine tkI 12 ?_
  simp only [Act.put, zq]
  refine tkI 13 ?_
  simp only [Act.put, zq]
  refine rdH 5 (fun K hK => ?_)
  go_simp
  refine (HP2.out).mono ?_
  rintro e w2 ⟨a2, cc2, rfl, hT2⟩
  have hB2 := HB.out _ hT2.bel
  obtain ⟨d0, d1, d2, d3, d4, d5, df⟩ := hB2.at
  have h2S := HS2.out _ hT2.bel
  have h6S := HK.out _ 5 (.string (txt e0)) (HK.out _ 4 (.string (txt u)) (HK.out _ 3 (.string ⟨#[]⟩) (HK.out _ 2 (.slice a2 ss.length cc2) (HK.out _ 1 (.int .i64 (wd : Int)) (HK.out _ 0 (.int .i64 4) h2S)))))
  refine hK.out _ _ (h2S) (fun hHeld => ?_)
  clear hK K
  refine tkI 14 ?_
  simp only [Act.put, zq]
  refine rdH 15 (fun K hK => ?_)
  go_simp
  refine hK.out _ _ (h6S) (fun hHeld => ?_)
  clear hK K
  refine wpAnyH_done (by kernel_rfl) ?_ _
  have hB3 := hB2.all 4 (wd : Int) a2 ss.length cc2 ⟨#[]⟩ (txt u) (txt e0)
  have hT3 := (hT2.up hbe1).set6 hB2 hgl 4 (wd : Int) a2 ss.length cc2 ⟨#[]⟩ (txt u) (txt e0)
  clear c2 c3 c4
  go_wp2_with fail
  exact retS Tryz.results81 rfl rfl hB3 ⟨a2, cc2, rfl, hT3⟩
 | go ad =>
  rw [hR] at HS
  go_enter func81, ntmps81
  go_upto_region 2 with (go_at_call 123; refine HS.mono ?_; rintro e w1 ⟨gs, sa, ra, base, bs, rfl, hS1, hT1, hL1, hU1⟩)
  obtain ⟨hb1, hB1, hbe1⟩ := HX.out _ _ hL1 hU1
  obtain ⟨hG1, ⟨a1, cc1, hA1⟩, hsm⟩ := hS1
  have c1 := ZC hG1 1
  have c2 := ZC hG1 2
  have c3 := ZC hA1.blk 0
  have HP2 : Hid (Calls prog 124 #[.pointer (some ⟨so, 0, none⟩), .slice a1 ad.length cc1] w1 fun e w' => ∃ a' c', e = .returned (.agg #[.int .i64 (wd : Int), .slice a' (ss ++ ad).length c']) /\ OwnT w1 (ss ++ ad) a' (ss ++ ad).length c' w') := poolOf_any so ro bo wd ss ao co ad a1 cc1 w1 (hOld.out _ hb1) hs1 hs2 (own_sarg hA1.own (by have := hsm.1; omega) hsm.2) hsm.1
  have HRt : Hid (∀ W, Below w1.heap.size w1 W -> Calls prog 55 #[.pointer p] W fun e w' => e = .returned (.string (rootT wd t)) /\ w' = W) := fun W hW => root_any wd t p W (hT1.below hW (Nat.le_refl _))
  have HB : Hid (∀ W, Below w1.heap.size w1 W -> SB gr 0 0 none 0 0 ⟨#[]⟩ ⟨#[]⟩ ⟨#[]⟩ W) := fun W hW => (hW.block gr (Array.getElem?_eq_some_iff.1 hB1).1).trans hB1
  have hfin : Hid (∀ a2 cc2 W, OwnT we (ss ++ ad) a2 (ss ++ ad).length cc2 W -> SavedIs (svOut wd ss (rootT wd t) (.go ad)) we (.returned (svV 0 (wd : Int) a2 (ss ++ ad).length cc2 (rootT wd t) ⟨#[]⟩ ⟨#[]⟩)) W) := fun a2 cc2 W h => ⟨a2, cc2, rfl, h⟩
  obtain ⟨M, hM⟩ : ∃ M, (ss ++ ad).length = M := ⟨_, rfl⟩
  rw [hM] at HP2 hfin
  clear hM
  clear hL1 hU1 hT1 HX HS hOld hKT ht ha hsz hA1 hG1
  go_wp2_with (first | (go_at_call 124; refine HP2.out.mono ?_; rintro e w2 ⟨a2, cc2, rfl, hT2⟩; have hB2 := HB.out _ hT2.bel; obtain ⟨d0, d1, d2, d3, d4, d5, df⟩ := hB2.at) | (go_at_call 55; refine (HRt.out _ hT2.bel).mono ?_; rintro e w3 ⟨rfl, rfl⟩))
  have hB3 := hB2.all 0 (wd : Int) a2 M cc2 (rootT wd t) ⟨#[]⟩ ⟨#[]⟩
  have hT3 := (hT2.up hbe1).set6 hB2 hgl 0 (wd : Int) a2 M cc2 (rootT wd t) ⟨#[]⟩ ⟨#[]⟩
  exact retS Tryz.results81 rfl rfl hB3 (hfin.out _ _ _ hT3)
def savO (wd : Nat) (ss : List ByteArray) (t : Tr PairT) : SvO := svOut wd ss (rootT wd t) (svAll wd ss (encsT wd t))
theorem SavedIs.code {c : Int} {w : World} {g : Nat} {W : World} (hb : Below w.heap.size w W) (hg : SB g 0 0 none 0 0 ⟨#[]⟩ ⟨#[]⟩ ⟨#[]⟩ W) (hge : w.heap.size <= g) : SavedIs (codeO c) w (.returned (svV c 0 none 0 0 ⟨#[]⟩ ⟨#[]⟩ ⟨#[]⟩)) (set6 W g c 0 none 0 0 ⟨#[]⟩ ⟨#[]⟩ ⟨#[]⟩) :=
 ⟨none, 0, rfl, (OwnT.nil hb).set6 hg hge c 0 none 0 0 ⟨#[]⟩ ⟨#[]⟩ ⟨#[]⟩⟩
theorem SavedIs.put {o : SvO} {w w1 W : World} {g : Nat} {e : Ending} (h : SavedIs o w1 e W) (hb : Below w.heap.size w w1) (hg : SB g 0 0 none 0 0 ⟨#[]⟩ ⟨#[]⟩ ⟨#[]⟩ w1) (hge : w.heap.size <= g) :
 ∃ a m c, e = .returned (svV o.cd o.n a m c o.root o.x o.y) /\ SB g 0 0 none 0 0 ⟨#[]⟩ ⟨#[]⟩ ⟨#[]⟩ W /\ SavedIs o w (.returned (svV o.cd o.n a m c o.root o.x o.y)) (set6 W g o.cd o.n a m c o.root o.x o.y) := by
 obtain ⟨a, c, h1, h2⟩ := h
 have hg2 : SB g 0 0 none 0 0 ⟨#[]⟩ ⟨#[]⟩ ⟨#[]⟩ W := (h2.bel.block g (Array.getElem?_eq_some_iff.1 hg).1).trans hg
 exact ⟨a, _, c, h1, hg2, a, c, rfl, (h2.up hb).set6 hg2 hge _ _ _ _ _ _ _ _⟩
theorem encsT_size (wd : Nat) : ∀ (t : Tr PairT), ∀ e ∈ encsT wd t, e.size <= 10000
 | .nil, e, h => by cases h
 | .node l x r, e, h => by
  rw [encsT, List.mem_append, List.mem_append] at h
  rcases h with (h | h) | h
  · exact encsT_size wd l e h
  · exact encsT_size wd r e h
  · rw [List.mem_singleton] at h
    rw [h]
    exact (encS_size x.1 x.2 (rootT wd l) (rootT wd r) wd).1
section
variable {w : World} {gp go ge wd : Nat} {a : Option Addr} {N c K ce : Nat} {es xs ys : List ByteArray} {gh ch : Nat} {ao : Option Addr} {co : Nat} {W : World}
end
theorem txt_list (e : ByteArray) : (txt e).data.toList = 78 :: e.data.toList := by unfold txt; rw [ByteArray.data_append]; simp
theorem ld_any (fnd : ByteArray -> FN) (wd : Nat) (hfo : FndOk wd fnd) (sb : Nat) (root : ByteArray) (v0 v2 : Value) (w : World) (hb : w.heap[sb]? = some (.cells #[v0, .int .i64 (wd : Int), v2] 178)) (hr : root.size <= 1048576)
 (HF : Hid (∀ (hash : ByteArray) w', hash.size = wd -> Below w.heap.size w w' -> Calls prog 176 #[.pointer (some ⟨sb, 0, none⟩), .string hash] w' fun e w'' => e = .returned (nodeT (fnd hash)) /\ Below w'.heap.size w' w''))
 (HR : Hid (∀ (k : ByteArray) w', okKey k = true -> Below w.heap.size w w' -> Calls prog 158 #[Value.string k] w' fun e w'' => e = .returned (.agg (rkL k).toArray) /\ Below w'.heap.size w' w'')) :
 Calls prog 69 #[.pointer (some ⟨sb, 0, none⟩), .string root] w (RangeAt (if hashOk root.size (wd : Int) = true then (if (goF fnd hgW ⟨#[]⟩ ⟨#[]⟩ 501 root ⟨#[]⟩ ⟨#[]⟩ ⟨#[]⟩ 0).1 = 0 then ((goF fnd hgW ⟨#[]⟩ ⟨#[]⟩ 501 root ⟨#[]⟩ ⟨#[]⟩ ⟨#[]⟩ 0).2.2, 0) else ([], (goF fnd hgW ⟨#[]⟩ ⟨#[]⟩ 501 root ⟨#[]⟩ ⟨#[]⟩ ⟨#[]⟩ 0).1)) else ([], 1)) w) := by
 have HP := pw_any fnd wd hfo sb ⟨#[]⟩ ⟨#[]⟩ root v0 v2 w hb hr HF HR
 generalize (if hashOk root.size (wd : Int) = true then (if (goF fnd hgW ⟨#[]⟩ ⟨#[]⟩ 501 root ⟨#[]⟩ ⟨#[]⟩ ⟨#[]⟩ 0).1 = 0 then ((goF fnd hgW ⟨#[]⟩ ⟨#[]⟩ 501 root ⟨#[]⟩ ⟨#[]⟩ ⟨#[]⟩ 0).2.2, (0 : Int)) else ([], (goF fnd hgW ⟨#[]⟩ ⟨#[]⟩ 501 root ⟨#[]⟩ ⟨#[]⟩ ⟨#[]⟩ 0).1)) else ([], 1)) = X at HP ⊢
 have HQ : Hid (∀ e w2, RangeAt X w e w2 -> ∃ a' c', e = .returned (.tuple #[.slice a' X.1.length c', .int .i64 X.2]) /\ RangeAt X w e w2) := fun e w2 hR => by
  obtain ⟨⟨a', c', he, ho⟩, hb2⟩ := hR
  exact ⟨a', c', he, ⟨⟨a', c', he, ho⟩, hb2⟩⟩
 clear HF HR hfo hb
 go_enter func69, ntmps69
 go_wp2_with (first | (go_at_call 77; refine HP.mono ?_; intro e w3 hR3; obtain ⟨a3, c3, rfl, hR3⟩ := HQ.out _ _ hR3))
 go_ret2
 exact hR3
theorem iload_any (HH : Hid (HashSaid KT)) (D : Dec) (n : Int) (HD : Hid (∀ wd : Nat, (wd : Int) = n -> 1 <= wd -> wd <= 32 -> DecSaid 181 wd D)) (hdo : ∀ wd : Nat, (wd : Int) = n -> DecOk wd D) (a : Option Addr) (ss : List ByteArray) (c : Nat) (root : ByteArray) (w : World) (h : SArg a ss w) (hK : KT w) (hr : root.size <= 1048576) :
 Calls prog 21 #[.agg #[.int .i64 n, .slice a ss.length c], .string root] w (RangeAt (rangeM (fndD D n.toNat ss) n ss.length root ⟨#[]⟩ ⟨#[]⟩) w) := by
 have HV := fun w' => validPool_any n a ss.length c w' h.le
 cases hp : poolOk n ss.length with
 | false =>
  rw [rangeM_bad (by rw [hp]; rfl)]
  rw [hp] at HV
  have HP : Hid (∀ w', Below w.heap.size w w' -> RangeAt ([], 1) w (.returned (.tuple #[.slice none 0 0, .int .i64 1])) w') := fun w' hw' => ⟨⟨none, 0, rfl, ⟨rfl, .inl ⟨rfl, rfl⟩⟩⟩, hw'⟩
  have hA : Below w.heap.size w (w.alloc (.cells #[.int .i64 n, .slice a ss.length c] 37)) := (Below.refl _ _).alloc (Nat.le_refl _) _
  clear HH HD h hK
  go_enter func21, ntmps21
  go_wp2_with (first | (go_at_call 68; refine (HV _).mono ?_; rintro e w1 ⟨rfl, hb1⟩))
  go_ret2
  exact HP.out _ (hA.trans (hb1.mono hA.size))
 | true =>
  rw [hp] at HV
  have hp' : 1 <= n /\ n <= 32 /\ ss.length <= 20000 := of_decide_eq_true hp
  obtain ⟨wd, rfl⟩ : ∃ wd : Nat, n = (wd : Int) := ⟨n.toNat, by omega⟩
  have hrM : Hid (rangeM (fndD D (wd : Int).toNat ss) (wd : Int) ss.length root ⟨#[]⟩ ⟨#[]⟩ = if hashOk root.size (wd : Int) = true then (if (goF (fndD D wd ss) hgW ⟨#[]⟩ ⟨#[]⟩ 501 root ⟨#[]⟩ ⟨#[]⟩ ⟨#[]⟩ 0).1 = 0 then ((goF (fndD D wd ss) hgW ⟨#[]⟩ ⟨#[]⟩ 501 root ⟨#[]⟩ ⟨#[]⟩ ⟨#[]⟩ 0).2.2, 0) else ([], (goF (fndD D wd ss) hgW ⟨#[]⟩ ⟨#[]⟩ 501 root ⟨#[]⟩ ⟨#[]⟩ ⟨#[]⟩ 0).1)) else ([], 1)) := by
   show _ = _
   unfold rangeM
   rw [hp, Bool.true_and, Int.toNat_natCast]
  rw [hrM.out]
  have HS : Hid (∀ w', Below w.heap.size w w' -> Calls prog 70 #[.agg #[.int .i64 (wd : Int), .slice a ss.length c]] w' fun e w'' => ∃ sb r a' c', e = .returned (.pointer (some ⟨sb, 0, none⟩)) /\ StockAt sb r (sb + 1) wd ss a' c' w'' /\ Below w'.heap.size w' w'') := fun w' hb => stockOf_any HH (fun w1 w2 h1 hb => KT.below h1 hb) wd a ss c w' (h.below hb) (hK.below hb) (by omega)
  have HW : Hid (∀ w1 sb r a' c', Below w.heap.size w w1 -> StockAt sb r (sb + 1) wd ss a' c' w1 -> Calls prog 69 #[.pointer (some ⟨sb, 0, none⟩), .string root] w1 (RangeAt (if hashOk root.size (wd : Int) = true then (if (goF (fndD D wd ss) hgW ⟨#[]⟩ ⟨#[]⟩ 501 root ⟨#[]⟩ ⟨#[]⟩ ⟨#[]⟩ 0).1 = 0 then ((goF (fndD D wd ss) hgW ⟨#[]⟩ ⟨#[]⟩ 501 root ⟨#[]⟩ ⟨#[]⟩ ⟨#[]⟩ 0).2.2, 0) else ([], (goF (fndD D wd ss) hgW ⟨#[]⟩ ⟨#[]⟩ 501 root ⟨#[]⟩ ⟨#[]⟩ ⟨#[]⟩ 0).1)) else ([], 1)) w1)) := fun w1 sb r a' c' hb1 hs =>
   ld_any (fndD D wd ss) wd (fndD_ok D wd ss (hdo wd rfl)) sb root _ _ w1 hs.blk hr (fun hash w' hh hb' => stockFind_any D sb r (sb + 1) wd (HD.out wd rfl (by omega) (by omega)) ss a' c' hash w' (hs.below hb') h.sz (by have := h.le; omega) (by omega) hh) (fun k w' hk hb' => rank_any k w' (by unfold okKey at hk; have := of_decide_eq_true hk; omega) ((hK.below hb1).below hb'))
  generalize (if hashOk root.size (wd : Int) = true then (if (goF (fndD D wd ss) hgW ⟨#[]⟩ ⟨#[]⟩ 501 root ⟨#[]⟩ ⟨#[]⟩ ⟨#[]⟩ 0).1 = 0 then ((goF (fndD D wd ss) hgW ⟨#[]⟩ ⟨#[]⟩ 501 root ⟨#[]⟩ ⟨#[]⟩ ⟨#[]⟩ 0).2.2, (0 : Int)) else ([], (goF (fndD D wd ss) hgW ⟨#[]⟩ ⟨#[]⟩ 501 root ⟨#[]⟩ ⟨#[]⟩ ⟨#[]⟩ 0).1)) else ([], 1)) = X at HW ⊢
  have hA : Below w.heap.size w (w.alloc (.cells #[.int .i64 (wd : Int), .slice a ss.length c] 37)) := (Below.refl _ _).alloc (Nat.le_refl _) _
  have nA := heap_alloc_new w (.cells #[.int .i64 (wd : Int), .slice a ss.length c] 37)
  have HP : Hid (∀ w1 e w2, Below w.heap.size w w1 -> RangeAt X w1 e w2 -> ∃ a' c', e = .returned (.tuple #[.slice a' X.1.length c', .int .i64 X.2]) /\ RangeAt X w e w2) := fun w1 e w2 hb hR => by
   obtain ⟨⟨a', c', he, ho⟩, hb2⟩ := hR
   exact ⟨a', c', he, ⟨⟨a', c', he, own2_mono ho hb.size⟩, hb.trans (hb2.mono hb.size)⟩⟩
  clear HH HD h hK hrM hp hp'
  go_enter func21, ntmps21
  go_wp2_with (first | (go_at_call 68; refine (HV _).mono ?_; rintro e w1 ⟨rfl, hb1⟩; have nA1 := (hb1.block w.heap.size (by simp)).trans nA; have d0 := ZC nA1 0; have d1 := ZC nA1 1; clear nA1; replace hb1 := hA.trans (hb1.mono hA.size)) | (go_at_call 70; refine (HS.out _ hb1).mono ?_; rintro e w2 ⟨sb, r, a2, c2, rfl, hs2, hb2⟩; replace hb2 := hb1.trans (hb2.mono hb1.size)) | (go_at_call 69; refine (HW.out _ _ _ _ _ hb2 hs2).mono ?_; intro e w3 hR3; obtain ⟨a3, c3, rfl, hR3⟩ := HP.out _ _ _ hb2 hR3))
  go_ret2
  exact hR3
end Go.Proofs.YtfmpjlpakldheaaGreatDoor
