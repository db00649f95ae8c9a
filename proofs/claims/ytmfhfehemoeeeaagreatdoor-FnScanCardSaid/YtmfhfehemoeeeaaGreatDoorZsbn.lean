import Derived.Test.YtmfhfehemoeeeaaGreatDoorZsbc
import Derived.Test.YtmfhfehemoeeeaaGreatDoorZsbm
import Derived.Test.YtmfhfehemoeeeaaGreatDoorZsbi
import Derived.Test.YtmfhfehemoeeeaaGreatDoorZsbf
import Derived.Test.YtmfhfehemoeeeaaGreatDoorZsbj
set_option maxRecDepth 100000
set_option maxHeartbeats 1000000
namespace Go.Proofs.YtmfhfehemoeeeaaGreatDoor
open Go.RowKit Go.Proofs.Sha

/-- What Save, Put and Del answer. -/
structure SvO where
  cd : Int
  n : Int
  xs : List ByteArray
  root : ByteArray
  x : ByteArray
  y : ByteArray
/-- A code alone. -/
def codeO (c : Int) : SvO := ⟨c, 0, [], ⟨#[]⟩, ⟨#[]⟩, ⟨#[]⟩⟩
def svOut (wd : Nat) (ss : List ByteArray) (root : ByteArray) : SvR → SvO
  | .go ad => ⟨0, (wd : Int), ss ++ ad, root, ⟨#[]⟩, ⟨#[]⟩⟩
  | .full => codeO 1
  | .clash u e => ⟨4, (wd : Int), ss, ⟨#[]⟩, txt u, txt e⟩
def SavedIs (o : SvO) (we : World) (e : Ending) (w' : World) : Prop := ∃ a c, e = .returned (svV o.cd o.n a o.xs.length c o.root o.x o.y) ∧ OwnT we o.xs a o.xs.length c w'
theorem OwnT.nil {w W : World} (h : Below w.heap.size w W) : OwnT w [] none 0 0 W := ⟨World.ownsRow_nil _ _ _ _, h, rfl⟩
theorem retS {fn : Func} {R : Ending → World → Prop} {A : Act} {p : Tmp} {gb : Nat} {cd n : Int} {a : Option Addr} {m c : Nat} {root x y : ByteArray} {W : World} (hres : fn.results = #[.cell p 34]) (hp : A.tmps.getD p undef = .pointer (some ⟨gb, 0, none⟩)) (hd : A.defers = []) (hn : W.heap[gb]? = some (.cells #[.int .i64 cd, .int .i64 n, .slice a m c, .string root, .string x, .string y] 34))
    (h : R (.returned (svV cd n a m c root x y)) W) : bodyPost Tryz.prog fn R Exit.ret A W := by
  have c0 := Lib.cell_of_heap hn 0
  have c1 := Lib.cell_of_heap hn 1
  have c2 := Lib.cell_of_heap hn 2
  have c3 := Lib.cell_of_heap hn 3
  have c4 := Lib.cell_of_heap hn 4
  have c5 := Lib.cell_of_heap hn 5
  have hp' : A.tmps[p]?.getD undef = .pointer (some ⟨gb, 0, none⟩) := by simpa using hp
  refine bodyPost_ret (v := svV cd n a m c root x y) ?_ hd h
  simp [results, hres, go_sem, asAddr, hp', c0, c1, c2, c3, c4, c5]
/-- The block of a Saved. -/
def SB (g : Nat) (cd n : Int) (a : Option Addr) (m c : Nat) (root x y : ByteArray) (W : World) : Prop := W.heap[g]? = some (.cells #[.int .i64 cd, .int .i64 n, .slice a m c, .string root, .string x, .string y] 34)
/-- Six stores into it. -/
def set6 (W : World) (g : Nat) (cd n : Int) (a : Option Addr) (m c : Nat) (root x y : ByteArray) : World := (((((W.setCell ⟨g, 0, none⟩ (.int .i64 cd)).setCell ⟨g, 1, none⟩ (.int .i64 n)).setCell ⟨g, 2, none⟩ (.slice a m c)).setCell ⟨g, 3, none⟩ (.string root)).setCell ⟨g, 4, none⟩ (.string x)).setCell ⟨g, 5, none⟩ (.string y)
theorem SB.all {g : Nat} {cd n : Int} {a : Option Addr} {m c : Nat} {root x y : ByteArray} {W : World} (h : SB g cd n a m c root x y W) (cd' n' : Int) (a' : Option Addr) (m' c' : Nat) (root' x' y' : ByteArray) : SB g cd' n' a' m' c' root' x' y' (set6 W g cd' n' a' m' c' root' x' y') :=
  heap_setCell_same _ g 5 _ 34 (.string y') (heap_setCell_same _ g 4 _ 34 (.string x') (heap_setCell_same _ g 3 _ 34 (.string root') (heap_setCell_same _ g 2 _ 34 (.slice a' m' c') (heap_setCell_same _ g 1 _ 34 (.int .i64 n') (heap_setCell_same _ g 0 _ 34 (.int .i64 cd') h)))))
theorem SB.at {g : Nat} {cd n : Int} {a : Option Addr} {m c : Nat} {root x y : ByteArray} {W : World} (h : SB g cd n a m c root x y W) : W.cell? ⟨g, 0, none⟩ = some (.int .i64 cd) ∧ W.cell? ⟨g, 1, none⟩ = some (.int .i64 n) ∧ W.cell? ⟨g, 2, none⟩ = some (.slice a m c) ∧ W.cell? ⟨g, 3, none⟩ = some (.string root) ∧ W.cell? ⟨g, 4, none⟩ = some (.string x) ∧ W.cell? ⟨g, 5, none⟩ = some (.string y) ∧ ∀ j, W.frozen? ⟨g, j, none⟩ = false :=
  ⟨Lib.cell_of_heap h 0, Lib.cell_of_heap h 1, Lib.cell_of_heap h 2, Lib.cell_of_heap h 3, Lib.cell_of_heap h 4, Lib.cell_of_heap h 5, fun j => by rw [World.frozen?, show W.heap[g]? = _ from h]; rfl⟩
theorem OwnT.set6 {w W : World} {xs : List ByteArray} {a0 : Option Addr} {m0 c0 : Nat} {g : Nat} {cs : Array Value} (h : OwnT w xs a0 m0 c0 W) (hg : W.heap[g]? = some (.cells cs 34)) (hge : w.heap.size ≤ g) (cd n : Int) (a : Option Addr) (m c : Nat) (root x y : ByteArray) : OwnT w xs a0 m0 c0 (set6 W g cd n a m c root x y) := by
  refine ⟨ownG_kept h.own (fun q hv hq => ?_), (((((h.bel.setCell (p := ⟨g, 0, none⟩) hge _).setCell (p := ⟨g, 1, none⟩) hge _).setCell (p := ⟨g, 2, none⟩) hge _).setCell (p := ⟨g, 3, none⟩) hge _).setCell (p := ⟨g, 4, none⟩) hge _).setCell (p := ⟨g, 5, none⟩) hge _, h.len⟩
  have hne : q ≠ g := by
    intro e; subst e; obtain ⟨_, _, cur, h9⟩ := ownG_cells h.own hv; rw [hg] at h9; simp at h9
  unfold Proofs.YtmfhfehemoeeeaaGreatDoor.set6
  rw [Below.heap_setCell _ _ _ _ (by show q ≠ g; exact hne), Below.heap_setCell _ _ _ _ (by show q ≠ g; exact hne), Below.heap_setCell _ _ _ _ (by show q ≠ g; exact hne), Below.heap_setCell _ _ _ _ (by show q ≠ g; exact hne), Below.heap_setCell _ _ _ _ (by show q ≠ g; exact hne), Below.heap_setCell _ _ _ _ (by show q ≠ g; exact hne)]
theorem saved_any (HH : Hid (HashSaid KTab)) (so ro bo wd : Nat) (ss : List ByteArray) (ao : Option Addr) (co : Nat) (t : Tr PairT) (p : Option Addr) (n0 : Nat) (we w : World) (hbe : Below we.heap.size we w) (hne : we.heap.size ≤ n0)
    (hOld : Hid (∀ W, Below n0 w W → StockAt so ro bo wd ss ao co W)) (hKT : Hid (∀ W, Below n0 w W → KTab W)) (hn0 : n0 ≤ w.heap.size) (ht : TA n0 bare t p w) (ha : Apart t.inord) (hsz : ∀ x ∈ t.inord, x.1.size ≤ 1048576 ∧ x.2.size ≤ 1048576)
    (hs1 : ss.length ≤ 20000) (hs2 : ∀ j, (ss.getD j ⟨#[]⟩).size ≤ 1048576) (hw1 : 1 ≤ wd) (hw2 : wd ≤ 32) :
    Calls Tryz.prog 25 #[.pointer (some ⟨so, 0, none⟩), .pointer p] w (SavedIs (svOut wd ss (rootT wd t) (svAll wd ss (encsT wd t))) we) := by
  have hA : Below w.heap.size w (w.alloc (.cells #[.int .i64 0, .int .i64 0, .slice none 0 0, .string ⟨#[]⟩, .string ⟨#[]⟩, .string ⟨#[]⟩] 34)) := (Below.refl _ _).alloc (Nat.le_refl _) _
  have nA := heap_alloc_new w (.cells #[.int .i64 0, .int .i64 0, .slice none 0 0, .string ⟨#[]⟩, .string ⟨#[]⟩, .string ⟨#[]⟩] 34)
  have hA0 := hA.mono hn0
  have HS := save_any HH so ro bo wd ss ao co t p n0 _ (fun W hW => hOld.out W (hA0.trans hW)) (fun W hW => hKT.out W (hA0.trans hW)) (Nat.le_trans hn0 hA.size) (ht.below hA (Nat.le_refl _)) ha hsz hs1 hs2 hw1 hw2
  have HX : Hid (∀ w1 bs, TAL n0 bare t p bs (w.alloc (.cells #[.int .i64 0, .int .i64 0, .slice none 0 0, .string ⟨#[]⟩, .string ⟨#[]⟩, .string ⟨#[]⟩] 34)) → Upd (fun k => k ∈ bs) (w.alloc (.cells #[.int .i64 0, .int .i64 0, .slice none 0 0, .string ⟨#[]⟩, .string ⟨#[]⟩, .string ⟨#[]⟩] 34)) w1 → Below n0 w w1 ∧ SB w.heap.size 0 0 none 0 0 ⟨#[]⟩ ⟨#[]⟩ ⟨#[]⟩ w1 ∧ Below we.heap.size we w1) := fun w1 bs hL hU => by
    have hb1 : Below n0 w w1 := hA0.trans (hU.below (Nat.le_trans hn0 hA.size) (fun k hk => hL.ge k hk))
    have hnb : w.heap.size ∉ bs := hL.notin _ (Lib.cell_of_heap nA 0) (fun s => by simp)
    exact ⟨hb1, (hU.block _ (by simp) hnb).trans nA, hbe.trans (hb1.mono hne)⟩
  obtain ⟨gr, hgr⟩ : ∃ g, w.heap.size = g := ⟨_, rfl⟩
  have hgl : we.heap.size ≤ gr := by omega
  rw [hgr] at HX
  cases hR : svAll wd ss (encsT wd t) with
  | full =>
    rw [hR] at HS
    go_enter Tryz.func25, Tryz.ntmps25
    go_upto_region 2 with (go_at_call 49; refine HS.mono ?_; rintro e w1 ⟨gs, sa, ra, base, bs, rfl, hS1, hT1, hL1, hU1⟩)
    obtain ⟨hb1, hB1, hbe1⟩ := HX.out _ _ hL1 hU1
    have c2 := Lib.cell_of_heap (show w1.heap[gs]? = _ from hS1) 2
    obtain ⟨d0, d1, d2, d3, d4, d5, df⟩ := hB1.at
    have hB2 := hB1.all 1 0 none 0 0 ⟨#[]⟩ ⟨#[]⟩ ⟨#[]⟩
    have hT2 := (OwnT.nil hbe1).set6 hB1 hgl 1 0 none 0 0 ⟨#[]⟩ ⟨#[]⟩ ⟨#[]⟩
    clear hL1 hU1 hT1 hbe1 hb1
    go_wp2_with fail
    exact retS Tryz.results25 rfl rfl hB2 ⟨none, 0, rfl, hT2⟩
  | clash u e0 =>
    rw [hR] at HS
    have HP : Hid (∀ w1, Below n0 w w1 → Calls Tryz.prog 50 #[.pointer (some ⟨so, 0, none⟩), .slice none 0 0] w1 fun e w' => ∃ a' c', e = .returned (.agg #[.int .i64 (wd : Int), .slice a' ss.length c']) ∧ OwnT w1 ss a' ss.length c' w') := fun w1 hb => by
      have := poolOf_any so ro bo wd ss ao co [] none 0 w1 (hOld.out _ hb) hs1 hs2 ⟨Nat.zero_le _, fun j => Nat.zero_le _, fun h => absurd h (Nat.lt_irrefl _)⟩ (Nat.zero_le _)
      rw [List.append_nil] at this
      exact this
    go_enter Tryz.func25, Tryz.ntmps25
    go_upto_region 2 with (go_at_call 49; refine HS.mono ?_; rintro e w1 ⟨gs, sa, ra, base, bs, rfl, hS1, hT1, hL1, hU1⟩)
    obtain ⟨hb1, hB1, hbe1⟩ := HX.out _ _ hL1 hU1
    have hS1' : SVb gs so sa 4 (txt u) (txt e0) w1 := hS1
    have c2 := Lib.cell_of_heap hS1' 2
    have c3 := Lib.cell_of_heap hS1' 3
    have c4 := Lib.cell_of_heap hS1' 4
    have HP1 := HP.out w1 hb1
    have hbd : Below w1.heap.size w1 w1.drew := (Below.refl _ _).drew
    have HP2 : Hid (Calls Tryz.prog 50 #[.pointer (some ⟨so, 0, none⟩), .slice none 0 0] w1.drew fun e w' => ∃ a' c', e = .returned (.agg #[.int .i64 (wd : Int), .slice a' ss.length c']) ∧ OwnT w1 ss a' ss.length c' w') := (HP.out w1.drew (hb1.trans (hbd.mono (Nat.le_trans hn0 hb1.size)))).mono (by
      rintro e w' ⟨a', c', he, hT⟩
      exact ⟨a', c', he, hT.up hbd⟩)
    clear hL1 hU1 hT1 HP HP1 hS1 HX HS hOld hKT ht ha hsz
    go_upto_region 6 with fail
    have hne2 : gs ≠ gr := ne_of_type hS1' hB1 (by decide)
    have HK : Hid (∀ (W : World) (o : Nat) (v : Value), (W.cell? ⟨gs, 2, none⟩ = some (.int .i64 4) ∧ W.cell? ⟨gs, 3, none⟩ = some (.string (txt u)) ∧ W.cell? ⟨gs, 4, none⟩ = some (.string (txt e0))) → (W.setCell ⟨gr, o, none⟩ v).cell? ⟨gs, 2, none⟩ = some (.int .i64 4) ∧ (W.setCell ⟨gr, o, none⟩ v).cell? ⟨gs, 3, none⟩ = some (.string (txt u)) ∧ (W.setCell ⟨gr, o, none⟩ v).cell? ⟨gs, 4, none⟩ = some (.string (txt e0))) := fun W o v h => by
      have hl := World.block_lt_of_cell? W _ h.1
      have hf : ∀ j, (W.setCell ⟨gr, o, none⟩ v).cell? ⟨gs, j, none⟩ = W.cell? ⟨gs, j, none⟩ := fun j => (grownBy_setCell W gr o v).cell_far ⟨gs, j, none⟩ hl (by intro e; exact hne2 (Option.some.inj e))
      rw [hf, hf, hf]
      exact h
    have HS2 : Hid (∀ W, Below w1.heap.size w1 W → W.cell? ⟨gs, 2, none⟩ = some (.int .i64 4) ∧ W.cell? ⟨gs, 3, none⟩ = some (.string (txt u)) ∧ W.cell? ⟨gs, 4, none⟩ = some (.string (txt e0))) := fun W hW => ⟨Lib.cell_of_heap (hS1'.below hW) 2, Lib.cell_of_heap (hS1'.below hW) 3, Lib.cell_of_heap (hS1'.below hW) 4⟩
    have HB : Hid (∀ W, Below w1.heap.size w1 W → SB gr 0 0 none 0 0 ⟨#[]⟩ ⟨#[]⟩ ⟨#[]⟩ W) := fun W hW => (hW.block gr (Array.getElem?_eq_some_iff.1 hB1).1).trans hB1
    clear hS1'
    refine wp_region_held_drew (S := fun W => W.cell? ⟨gs, 2, none⟩ = some (.int .i64 4) ∧ W.cell? ⟨gs, 3, none⟩ = some (.string (txt u)) ∧ W.cell? ⟨gs, 4, none⟩ = some (.string (txt e0))) (by kernel_rfl) (⟨c2, c3, c4⟩) (fun hHeld => ?_)
    refine tkI 0 ?_
    simp only [Act.put, zq]
    refine tkI 1 ?_
    simp only [Act.put, zq]
    refine tkI 2 ?_
    simp only [Act.put, zq]
    refine tkI 3 ?_
    simp only [Act.put, zq]
    refine tkI 4 ?_
    simp only [Act.put, zq]
    refine tkI 6 ?_
    simp only [Act.put, zq]
    refine tkI 7 ?_
    simp only [Act.put, zq]
    refine tkI 8 ?_
    simp only [Act.put, zq]
    refine tkI 9 ?_
    simp only [Act.put, zq]
    refine tkI 10 ?_
    simp only [Act.put, zq]
    refine tkI 11 ?_
    simp only [Act.put, zq]
    refine tkI 12 ?_
    simp only [Act.put, zq]
    refine tkI 13 ?_
    simp only [Act.put, zq]
    refine rdH 5 (fun K hK => ?_)
    go_simp
    refine (HP2.out).mono ?_
    rintro e w2 ⟨a2, cc2, rfl, hT2⟩
    have hB2 := HB.out _ hT2.bel
    obtain ⟨d0, d1, d2, d3, d4, d5, df⟩ := hB2.at
    have h2S := HS2.out _ hT2.bel
    have h6S := HK.out _ 5 (.string (txt e0)) (HK.out _ 4 (.string (txt u)) (HK.out _ 3 (.string ⟨#[]⟩) (HK.out _ 2 (.slice a2 ss.length cc2) (HK.out _ 1 (.int .i64 (wd : Int)) (HK.out _ 0 (.int .i64 4) h2S)))))
    refine hK.out _ _ (h2S) (fun hHeld => ?_)
    clear hK K
    refine tkI 14 ?_
    simp only [Act.put, zq]
    refine rdH 15 (fun K hK => ?_)
    go_simp
    refine hK.out _ _ (h6S) (fun hHeld => ?_)
    clear hK K
    refine wpAnyH_done (by kernel_rfl) ?_ _
    have hB3 := hB2.all 4 (wd : Int) a2 ss.length cc2 ⟨#[]⟩ (txt u) (txt e0)
    have hT3 := (hT2.up hbe1).set6 hB2 hgl 4 (wd : Int) a2 ss.length cc2 ⟨#[]⟩ (txt u) (txt e0)
    clear c2 c3 c4
    go_wp2_with fail
    exact retS Tryz.results25 rfl rfl hB3 ⟨a2, cc2, rfl, hT3⟩
  | go ad =>
    rw [hR] at HS
    go_enter Tryz.func25, Tryz.ntmps25
    go_upto_region 2 with (go_at_call 49; refine HS.mono ?_; rintro e w1 ⟨gs, sa, ra, base, bs, rfl, hS1, hT1, hL1, hU1⟩)
    obtain ⟨hb1, hB1, hbe1⟩ := HX.out _ _ hL1 hU1
    obtain ⟨hG1, ⟨a1, cc1, hA1⟩, hsm⟩ := hS1
    have c1 := Lib.cell_of_heap hG1 1
    have c2 := Lib.cell_of_heap hG1 2
    have c3 := Lib.cell_of_heap hA1.blk 0
    have HP2 : Hid (Calls Tryz.prog 50 #[.pointer (some ⟨so, 0, none⟩), .slice a1 ad.length cc1] w1 fun e w' => ∃ a' c', e = .returned (.agg #[.int .i64 (wd : Int), .slice a' (ss ++ ad).length c']) ∧ OwnT w1 (ss ++ ad) a' (ss ++ ad).length c' w') := poolOf_any so ro bo wd ss ao co ad a1 cc1 w1 (hOld.out _ hb1) hs1 hs2 (own_sarg hA1.own (by have := hsm.1; omega) hsm.2) hsm.1
    have HRt : Hid (∀ W, Below w1.heap.size w1 W → Calls Tryz.prog 51 #[.pointer p] W fun e w' => e = .returned (.string (rootT wd t)) ∧ w' = W) := fun W hW => root_any wd t p W (hT1.below hW (Nat.le_refl _))
    have HB : Hid (∀ W, Below w1.heap.size w1 W → SB gr 0 0 none 0 0 ⟨#[]⟩ ⟨#[]⟩ ⟨#[]⟩ W) := fun W hW => (hW.block gr (Array.getElem?_eq_some_iff.1 hB1).1).trans hB1
    have hfin : Hid (∀ a2 cc2 W, OwnT we (ss ++ ad) a2 (ss ++ ad).length cc2 W → SavedIs (svOut wd ss (rootT wd t) (.go ad)) we (.returned (svV 0 (wd : Int) a2 (ss ++ ad).length cc2 (rootT wd t) ⟨#[]⟩ ⟨#[]⟩)) W) := fun a2 cc2 W h => ⟨a2, cc2, rfl, h⟩
    obtain ⟨M, hM⟩ : ∃ M, (ss ++ ad).length = M := ⟨_, rfl⟩
    rw [hM] at HP2 hfin
    clear hM
    clear hL1 hU1 hT1 HX HS hOld hKT ht ha hsz hA1 hG1
    go_wp2_with (first | (go_at_call 50; refine HP2.out.mono ?_; rintro e w2 ⟨a2, cc2, rfl, hT2⟩; have hB2 := HB.out _ hT2.bel; obtain ⟨d0, d1, d2, d3, d4, d5, df⟩ := hB2.at) | (go_at_call 51; refine (HRt.out _ hT2.bel).mono ?_; rintro e w3 ⟨rfl, rfl⟩))
    have hB3 := hB2.all 0 (wd : Int) a2 M cc2 (rootT wd t) ⟨#[]⟩ ⟨#[]⟩
    have hT3 := (hT2.up hbe1).set6 hB2 hgl 0 (wd : Int) a2 M cc2 (rootT wd t) ⟨#[]⟩ ⟨#[]⟩
    exact retS Tryz.results25 rfl rfl hB3 (hfin.out _ _ _ hT3)
/-- What Save of a map into a pool that is one answers. -/
def savO (wd : Nat) (ss : List ByteArray) (t : Tr PairT) : SvO := svOut wd ss (rootT wd t) (svAll wd ss (encsT wd t))
def saveO (n : Int) (ss : List ByteArray) (ps : List PairT) : SvO := if (poolOk n ss.length && isMapT ps) = true then savO n.toNat ss (cutTree ps) else codeO 1
theorem SavedIs.code {c : Int} {w : World} {g : Nat} {W : World} (hb : Below w.heap.size w W) (hg : SB g 0 0 none 0 0 ⟨#[]⟩ ⟨#[]⟩ ⟨#[]⟩ W) (hge : w.heap.size ≤ g) : SavedIs (codeO c) w (.returned (svV c 0 none 0 0 ⟨#[]⟩ ⟨#[]⟩ ⟨#[]⟩)) (set6 W g c 0 none 0 0 ⟨#[]⟩ ⟨#[]⟩ ⟨#[]⟩) :=
  ⟨none, 0, rfl, (OwnT.nil hb).set6 hg hge c 0 none 0 0 ⟨#[]⟩ ⟨#[]⟩ ⟨#[]⟩⟩
theorem SavedIs.put {o : SvO} {w w1 W : World} {g : Nat} {e : Ending} (h : SavedIs o w1 e W) (hb : Below w.heap.size w w1) (hg : SB g 0 0 none 0 0 ⟨#[]⟩ ⟨#[]⟩ ⟨#[]⟩ w1) (hge : w.heap.size ≤ g) :
    ∃ a m c, e = .returned (svV o.cd o.n a m c o.root o.x o.y) ∧ SB g 0 0 none 0 0 ⟨#[]⟩ ⟨#[]⟩ ⟨#[]⟩ W ∧ SavedIs o w (.returned (svV o.cd o.n a m c o.root o.x o.y)) (set6 W g o.cd o.n a m c o.root o.x o.y) := by
  obtain ⟨a, c, h1, h2⟩ := h
  have hg2 : SB g 0 0 none 0 0 ⟨#[]⟩ ⟨#[]⟩ ⟨#[]⟩ W := (h2.bel.block g (Array.getElem?_eq_some_iff.1 hg).1).trans hg
  exact ⟨a, _, c, h1, hg2, a, c, rfl, (h2.up hb).set6 hg2 hge _ _ _ _ _ _ _ _⟩
theorem psz {a : Option Addr} {ps : List PairT} {w : World} (h : PArg a ps w) : ∀ x ∈ ps, x.1.size ≤ 1048576 ∧ x.2.size ≤ 1048576 := by
  intro x hx
  obtain ⟨i, hi, rfl⟩ := List.getElem_of_mem hx
  have := h.sz i
  rw [getD_lt ps i hi] at this
  exact this
theorem isave_any (HH : Hid (HashSaid KTab)) (n : Int) (a : Option Addr) (ss : List ByteArray) (c : Nat) (a2 : Option Addr) (ps : List PairT) (c2 : Nat) (w : World) (h : SArg a ss w) (h2 : PArg a2 ps w) (hK : KTab w) :
    Calls Tryz.prog 8 #[.agg #[.int .i64 n, .slice a ss.length c], .slice a2 ps.length c2] w (SavedIs (saveO n ss ps) w) := by
  have HV : Hid (∀ w', Calls Tryz.prog 23 #[.agg #[.int .i64 n, .slice a ss.length c]] w' fun e w'' => e = .returned (.bool (poolOk n ss.length)) ∧ Below w'.heap.size w' w'') := fun w' => validPool_any n a ss.length c w' h.le
  have HM : Hid (∀ w', Below w.heap.size w w' → Calls Tryz.prog 24 #[.slice a2 ps.length c2] w' fun e w'' => e = .returned (.bool (isMapT ps)) ∧ Below w'.heap.size w' w'') := fun w' hb => isMap_any a2 ps c2 w' (h2.below hb)
  have hbA : Below w.heap.size w ((w.alloc (.cells #[.int .i64 n, .slice a ss.length c] 29)).alloc (.cells #[.int .i64 0, .int .i64 0, .slice none 0 0, .string ⟨#[]⟩, .string ⟨#[]⟩, .string ⟨#[]⟩] 34)) := ((Below.refl _ _).alloc (Nat.le_refl _) _).alloc (by simp) _
  have nB := heap_alloc_new (w.alloc (.cells #[.int .i64 n, .slice a ss.length c] 29)) (.cells #[.int .i64 0, .int .i64 0, .slice none 0 0, .string ⟨#[]⟩, .string ⟨#[]⟩, .string ⟨#[]⟩] 34)
  have nA := (Below.heap_alloc (w.alloc (.cells #[.int .i64 n, .slice a ss.length c] 29)) (.cells #[.int .i64 0, .int .i64 0, .slice none 0 0, .string ⟨#[]⟩, .string ⟨#[]⟩, .string ⟨#[]⟩] 34) w.heap.size (by simp)).trans (heap_alloc_new w _)
  rw [World.size_alloc] at nB
  have HB : Hid (∀ W, Below ((w.alloc (.cells #[.int .i64 n, .slice a ss.length c] 29)).alloc (.cells #[.int .i64 0, .int .i64 0, .slice none 0 0, .string ⟨#[]⟩, .string ⟨#[]⟩, .string ⟨#[]⟩] 34)).heap.size ((w.alloc (.cells #[.int .i64 n, .slice a ss.length c] 29)).alloc (.cells #[.int .i64 0, .int .i64 0, .slice none 0 0, .string ⟨#[]⟩, .string ⟨#[]⟩, .string ⟨#[]⟩] 34)) W → Below w.heap.size w W ∧ SB (w.heap.size + 1) 0 0 none 0 0 ⟨#[]⟩ ⟨#[]⟩ ⟨#[]⟩ W ∧ W.cell? ⟨w.heap.size, 0, none⟩ = some (.int .i64 n) ∧ W.cell? ⟨w.heap.size, 1, none⟩ = some (.slice a ss.length c)) := fun W hW => by
    have e1 := (hW.block w.heap.size (Array.getElem?_eq_some_iff.1 nA).1).trans nA
    exact ⟨hbA.trans (hW.mono hbA.size), (hW.block _ (Array.getElem?_eq_some_iff.1 nB).1).trans nB, Lib.cell_of_heap e1 0, Lib.cell_of_heap e1 1⟩
  have hge : w.heap.size ≤ w.heap.size + 1 := Nat.le_succ _
  clear nA nB
  obtain ⟨gp, hgp⟩ : ∃ g, w.heap.size = g := ⟨_, rfl⟩
  go_enter Tryz.func8, Tryz.ntmps8
  go_upto_region 1 with fail
  generalize (w.alloc (.cells #[.int .i64 n, .slice a ss.length c] 29)).alloc (.cells #[.int .i64 0, .int .i64 0, .slice none 0 0, .string ⟨#[]⟩, .string ⟨#[]⟩, .string ⟨#[]⟩] 34) = wA at hbA HB ⊢
  try rw [hgp]
  obtain ⟨_, _, p0, p1⟩ := HB.out wA (Below.refl _ _)
  rw [hgp] at HB hge p0 p1
  cases hp : poolOk n ss.length with
  | false =>
    have ho : Hid (saveO n ss ps = codeO 1) := by show _ = _; unfold saveO; rw [hp]; rfl
    rw [hp] at HV
    clear h h2 hK HM HH
    go_wp2_with (first | (go_at_call 23; refine (HV.out _).mono ?_; rintro e w1 ⟨rfl, hb1⟩; obtain ⟨hbw, hB1, _, _⟩ := HB.out _ hb1; obtain ⟨d0, d1, d2, d3, d4, d5, df⟩ := hB1.at))
    have hge' : w.heap.size ≤ gp + 1 := by omega
    exact retS Tryz.results8 rfl rfl (hB1.all 1 0 none 0 0 ⟨#[]⟩ ⟨#[]⟩ ⟨#[]⟩) (by rw [ho.out]; exact SavedIs.code (by rw [hgp]; exact hbw) hB1 hge')
  | true =>
    rw [hp] at HV
    cases hm : isMapT ps with
    | false =>
      have ho : Hid (saveO n ss ps = codeO 1) := by show _ = _; unfold saveO; rw [hp, hm]; rfl
      rw [hm] at HM
      clear h h2 hK HH
      go_wp2_with (first | (go_at_call 23; refine (HV.out _).mono ?_; rintro e w1 ⟨rfl, hb1⟩) | (go_at_call 24; refine (HM.out _ (hbA.trans (hb1.mono hbA.size))).mono ?_; rintro e w2 ⟨rfl, hb2⟩; obtain ⟨hbw, hB1, _, _⟩ := HB.out _ (hb1.trans (hb2.mono hb1.size)); obtain ⟨d0, d1, d2, d3, d4, d5, df⟩ := hB1.at))
      have hge' : w.heap.size ≤ gp + 1 := by omega
      exact retS Tryz.results8 rfl rfl (hB1.all 1 0 none 0 0 ⟨#[]⟩ ⟨#[]⟩ ⟨#[]⟩) (by rw [ho.out]; exact SavedIs.code (by rw [hgp]; exact hbw) hB1 hge')
    | true =>
      have hp' : 1 ≤ n ∧ n ≤ 32 ∧ ss.length ≤ 20000 := of_decide_eq_true hp
      obtain ⟨wd, rfl⟩ : ∃ wd : Nat, n = (wd : Int) := ⟨n.toNat, by omega⟩
      have ho : Hid (saveO (wd : Int) ss ps = savO wd ss (cutTree ps)) := by show _ = _; unfold saveO; rw [hp, hm]; rfl
      rw [hm] at HM
      have ha := isMapT_apart ps hm
      have hin := cutTree_inord ps
      have hsz : ∀ x ∈ (cutTree ps).inord, x.1.size ≤ 1048576 ∧ x.2.size ≤ 1048576 := by rw [hin]; exact psz h2
      have HS : Hid (∀ w', Below w.heap.size w w' → Calls Tryz.prog 26 #[.agg #[.int .i64 (wd : Int), .slice a ss.length c]] w' fun e w'' => ∃ sb r a' c', e = .returned (.pointer (some ⟨sb, 0, none⟩)) ∧ StockAt sb r (sb + 1) wd ss a' c' w'' ∧ Below w'.heap.size w' w'') := fun w' hb => stockOf_any HH (fun w1 w2 h1 hb => KTab.below h1 hb) wd a ss c w' (h.below hb) (hK.below hb) (by omega)
      have HT : Hid (∀ w', Below w.heap.size w w' → Calls Tryz.prog 27 #[.slice a2 ps.length c2] w' fun e w'' => ∃ p, e = .returned (.pointer p) ∧ TA w'.heap.size bare (cutTree ps) p w'' ∧ Below w'.heap.size w' w'') := fun w' hb => by
        have := treeOf_any rank_said (fun w1 w2 k hb => KTab.below k hb) a2 ps c2 w' (h2.below hb) (hK.below hb)
        rw [merged_cut ps ha] at this
        exact this
      have HX : Hid (∀ w3 w4 sb r a' c' p, Below w.heap.size w w3 → SB (gp + 1) 0 0 none 0 0 ⟨#[]⟩ ⟨#[]⟩ ⟨#[]⟩ w3 → StockAt sb r (sb + 1) wd ss a' c' w3 → TA w3.heap.size bare (cutTree ps) p w4 → Below w3.heap.size w3 w4 → Calls Tryz.prog 25 #[.pointer (some ⟨sb, 0, none⟩), .pointer p] w4 fun e W => ∃ a m c, e = .returned (svV (savO wd ss (cutTree ps)).cd (savO wd ss (cutTree ps)).n a m c (savO wd ss (cutTree ps)).root (savO wd ss (cutTree ps)).x (savO wd ss (cutTree ps)).y) ∧ SB (gp + 1) 0 0 none 0 0 ⟨#[]⟩ ⟨#[]⟩ ⟨#[]⟩ W ∧ SavedIs (savO wd ss (cutTree ps)) w (.returned (svV (savO wd ss (cutTree ps)).cd (savO wd ss (cutTree ps)).n a m c (savO wd ss (cutTree ps)).root (savO wd ss (cutTree ps)).x (savO wd ss (cutTree ps)).y)) (set6 W (gp + 1) (savO wd ss (cutTree ps)).cd (savO wd ss (cutTree ps)).n a m c (savO wd ss (cutTree ps)).root (savO wd ss (cutTree ps)).x (savO wd ss (cutTree ps)).y)) := fun w3 w4 sb r a' c' p hb3 hB3 hS3 hT4 hb4 => by
        refine (saved_any HH sb r (sb + 1) wd ss a' c' (cutTree ps) p w3.heap.size w3 w4 hb4 (Nat.le_refl _) (fun W hW => hS3.below (hb4.trans hW)) (fun W hW => (hK.below hb3).below (hb4.trans hW)) hb4.size hT4 (by rw [hin]; exact ha) hsz hp'.2.2 h.sz (by omega) (by omega)).mono ?_
        intro e W hE
        exact SavedIs.put hE hb3 hB3 (by omega)
      clear h h2 hK HH ha hin hsz hp'
      generalize savO wd ss (cutTree ps) = O at HX ho
      obtain ⟨cd, n, xs, root, x, y⟩ := O
      dsimp only at HX
      go_wp2_with (first | (go_at_call 23; refine (HV.out _).mono ?_; rintro e w1 ⟨rfl, hb1⟩) | (go_at_call 24; refine (HM.out _ (hbA.trans (hb1.mono hbA.size))).mono ?_; rintro e w2 ⟨rfl, hb2'⟩; obtain ⟨hbw2, hB2, q0, q1⟩ := HB.out _ (hb1.trans (hb2'.mono hb1.size)); replace hbw2 : Below w.heap.size w w2 := by (rw [hgp]; exact hbw2)) | (go_at_call 26; refine (HS.out _ hbw2).mono ?_; rintro e w3 ⟨sb, r, a3, c3, rfl, hS3, hb3'⟩; have hB3 : SB (gp + 1) 0 0 none 0 0 ⟨#[]⟩ ⟨#[]⟩ ⟨#[]⟩ w3 := (hb3'.block _ (Array.getElem?_eq_some_iff.1 hB2).1).trans hB2; have hbw3 := hbw2.trans (hb3'.mono hbw2.size); clear q0 q1) | (go_at_call 27; refine (HT.out _ hbw3).mono ?_; rintro e w4 ⟨p, rfl, hT4, hb4⟩) | (go_at_call 25; refine (HX.out _ _ _ _ _ _ _ hbw3 hB3 hS3 hT4 hb4).mono ?_; rintro e w5 ⟨a5, m5, c5, rfl, hB5, hF5⟩; obtain ⟨d0, d1, d2, d3, d4, d5, df⟩ := hB5.at))
      exact retS Tryz.results8 rfl rfl (hB5.all cd n a5 m5 c5 root x y) (by rw [ho.out]; exact hF5)
theorem encsT_size (wd : Nat) : ∀ (t : Tr PairT), ∀ e ∈ encsT wd t, e.size ≤ 10000
  | .nil, e, h => by cases h
  | .node l x r, e, h => by
    rw [encsT, List.mem_append, List.mem_append] at h
    rcases h with (h | h) | h
    · exact encsT_size wd l e h
    · exact encsT_size wd r e h
    · rw [List.mem_singleton] at h
      rw [h]
      exact (encS_size x.1 x.2 (rootT wd l) (rootT wd r) wd).1
section
variable {w : World} {gp go ge wd : Nat} {a : Option Addr} {N c K ce : Nat} {es xs ys : List ByteArray} {gh ch : Nat} {ao : Option Addr} {co : Nat} {W : World}
end
theorem txt_size (e : ByteArray) : (txt e).size = e.size + 1 := by unfold txt; rw [ByteArray.size_append]; show 1 + e.size = _; omega
theorem txt_list (e : ByteArray) : (txt e).data.toList = 78 :: e.data.toList := by unfold txt; rw [ByteArray.data_append]; simp
end Go.Proofs.YtmfhfehemoeeeaaGreatDoor
