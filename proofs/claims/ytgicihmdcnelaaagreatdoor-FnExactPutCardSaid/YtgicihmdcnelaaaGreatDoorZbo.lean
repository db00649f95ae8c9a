import Derived.Test.YtgicihmdcnelaaaGreatDoorZbl
import Derived.Test.YtgicihmdcnelaaaGreatDoorZbn
import Derived.ProofKit
import Derived.OpenShut
import Derived.ChangeSlices
import Derived.Deep.Strs
import Derived.Lib.SmallJoins
namespace Go.Proofs.YtgicihmdcnelaaaGreatDoor
open Go.RowKit Go.Proofs.Sha

/-- What a law of Save, Put or Del keeps: what it was handed, and the model's answer. -/
structure LW (w : World) (ga : Nat) (n : Int) (a : Option Addr) (N c gw : Nat) (cd nn : Int) (xs : List ByteArray) (root x y : ByteArray) (aw : Option Addr) (m cw : Nat) (W : World) : Prop where
  par : W.heap[ga]? = some (.cells #[.int .i64 n, .slice a N c] 24)
  sw : SB gw cd nn aw m cw root x y W
  arg : SArg aw xs W
  bel : Below w.heap.size w W
theorem SArg.grown {a : Option Addr} {ss : List ByteArray} {w w' : World} {row : Option Nat} (h : SArg a ss w) (hg : w.grownBy w' row) (hn : ∀ b off, a = some ⟨b, off, none⟩ → 0 < ss.length → some b ≠ row) : SArg a ss w' := by
  refine ⟨h.le, h.sz, fun hp => ?_⟩
  obtain ⟨b, off, e, hb, hc⟩ := h.at_ hp
  exact ⟨b, off, e, Nat.lt_of_lt_of_le hb hg.size, fun j hj => (hg.cell_far ⟨b, off + j, none⟩ hb (hn b off e hp)).trans (hc j hj)⟩
section
variable {w : World} {ga : Nat} {n : Int} {a : Option Addr} {N c gw : Nat} {cd nn : Int} {xs : List ByteArray} {root x y : ByteArray} {aw : Option Addr} {m cw : Nat} {W W' : World}
theorem LW.below (h : LW w ga n a N c gw cd nn xs root x y aw m cw W) (hb : Below W.heap.size W W') : LW w ga n a N c gw cd nn xs root x y aw m cw W' :=
  ⟨pblk_below hb h.par, pblk_below hb h.sw, h.arg.below hb, h.bel.trans (hb.mono h.bel.size)⟩
theorem LW.grown (h : LW w ga n a N c gw cd nn xs root x y aw m cw W) {row : Option Nat} (hg : W.grownBy W' row) (h1 : ∀ q, row = some q → ga < q ∧ gw < q ∧ w.heap.size ≤ q) (h2 : ∀ b off, aw = some ⟨b, off, none⟩ → b < gw) : LW w ga n a N c gw cd nn xs root x y aw m cw W' := by
  refine ⟨(hg.block ga (Array.getElem?_eq_some_iff.1 h.par).1 (fun e => ?_)).trans h.par, (hg.block gw (Array.getElem?_eq_some_iff.1 (show W.heap[gw]? = _ from h.sw)).1 (fun e => ?_)).trans h.sw, h.arg.grown hg (fun b off e _ q => ?_), h.bel.grown hg h.bel.size (fun q hq => (h1 q hq).2.2)⟩
  · have := h1 ga e.symm; omega
  · have := h1 gw e.symm; omega
  · have := h1 b q.symm; have := h2 b off e; omega
end
theorem OwnT.sarg {w W : World} {xs : List ByteArray} {a : Option Addr} {m c : Nat} (h : OwnT w xs a m c W) (hl : xs.length ≤ 1048576) (hs : ∀ j, (xs.getD j ⟨#[]⟩).size ≤ 1048576) : SArg a xs W := by
  have := h.own
  have hm := h.len
  subst hm
  exact own_sarg this hl hs
theorem OwnT.lt {w W : World} {xs : List ByteArray} {a : Option Addr} {m c : Nat} (h : OwnT w xs a m c W) : ∀ b off, a = some ⟨b, off, none⟩ → w.heap.size ≤ b ∧ b < W.heap.size := fun b off e => by
  subst e
  have := ownG_cells h.own (g := b) rfl
  exact ⟨this.1, this.2.1⟩
/-- The program's answer. -/
structure LG (base gg : Nat) (cd nn : Int) (xs : List ByteArray) (root x y : ByteArray) (ag : Option Addr) (m cg : Nat) (W : World) : Prop where
  blk : SB gg cd nn ag m cg root x y W
  arg : SArg ag xs W
  row : SRow W base ag m cg (xs.map Value.string)
  lt : ∀ b off, ag = some ⟨b, off, none⟩ → base ≤ b ∧ b < gg
  ge : base ≤ gg
section
variable {base gg : Nat} {cd nn : Int} {xs : List ByteArray} {root x y : ByteArray} {ag : Option Addr} {m cg : Nat} {W W' : World}
theorem LG.below (h : LG base gg cd nn xs root x y ag m cg W) (hb : Below W.heap.size W W') : LG base gg cd nn xs root x y ag m cg W' :=
  ⟨pblk_below hb h.blk, h.arg.below hb, h.row.below hb, h.lt, h.ge⟩
theorem LG.grown (h : LG base gg cd nn xs root x y ag m cg W) {row : Option Nat} (hg : W.grownBy W' row) (h1 : ∀ q, row = some q → q < base) : LG base gg cd nn xs root x y ag m cg W' := by
  have hge := h.ge
  refine ⟨(hg.block gg (Array.getElem?_eq_some_iff.1 (show W.heap[gg]? = _ from h.blk)).1 (fun e => ?_)).trans h.blk, h.arg.grown hg (fun b off e _ q => ?_), h.row.kept hg (fun g e q => ?_), h.lt, h.ge⟩
  · have := h1 gg e.symm; omega
  · have := h1 b q.symm; have := h.lt b off e; omega
  · have := h1 g q.symm; have := h.lt g 0 e; omega
end
theorem SB.load {g : Nat} {cd n : Int} {a : Option Addr} {m c : Nat} {root x y : ByteArray} {W : World} (h : SB g cd n a m c root x y W) : W.cell? ⟨g, 0, none⟩ = some (.int .i64 cd) ∧ W.cell? ⟨g, 1, none⟩ = some (.int .i64 n) ∧ W.cell? ⟨g, 2, none⟩ = some (.slice a m c) ∧ W.cell? ⟨g, 3, none⟩ = some (.string root) ∧ W.cell? ⟨g, 4, none⟩ = some (.string x) ∧ W.cell? ⟨g, 5, none⟩ = some (.string y) :=
  ⟨Lib.cell_of_heap h 0, Lib.cell_of_heap h 1, Lib.cell_of_heap h 2, Lib.cell_of_heap h 3, Lib.cell_of_heap h 4, Lib.cell_of_heap h 5⟩
set_option maxRecDepth 100000 in
set_option maxHeartbeats 4000000 in
theorem law_sv (O : SvO) (hO1 : O.xs.length ≤ 1048576) (hO2 : ∀ j, (O.xs.getD j ⟨#[]⟩).size ≤ 1048576) (n : Int) (a : Option Addr) (ss : List ByteArray) (c : Nat) (a2 : Option Addr) (ps : List PairT) (c2 : Nat) (w : World) (h : RArg a ss w) (hN : ss.length ≤ maxLen) (hM : ∀ j, (ss.getD j ⟨#[]⟩).size ≤ maxLen) (h2 : QArg a2 ps w) (hN2 : ps.length ≤ maxLen) (hM2 : ∀ j, (ps.getD j noPair).1.size ≤ maxLen ∧ (ps.getD j noPair).2.size ≤ maxLen) (hK : KTab w)
    (H8 : Hid (SmallS ss → ∀ g g' w', SArg (some ⟨g, 0, none⟩) ss w' → PArg (some ⟨g', 0, none⟩) ps w' → Calls Tryz.prog 8 #[.agg #[.int .i64 n, .slice (some ⟨g, 0, none⟩) ss.length ss.length], .slice (some ⟨g', 0, none⟩) ps.length ps.length] w' (SavedIs O w')))
    (H11 : Hid (SmallS ss → ∀ g g' w', SArg (some ⟨g, 0, none⟩) ss w' → PArg (some ⟨g', 0, none⟩) ps w' → KTab w' → Calls Tryz.prog 11 #[.agg #[.int .i64 n, .slice (some ⟨g, 0, none⟩) ss.length ss.length], .slice (some ⟨g', 0, none⟩) ps.length ps.length] w' (SavedIs O w'))) :
    Calls Tryz.prog 3 #[.agg #[.int .i64 n, .slice a ss.length c], .slice a2 ps.length c2] w fun e w' => e = .returned (.bool true) ∧ Below w.heap.size w w' := by
  have hb0 : Below w.heap.size w (w.alloc (.cells #[.int .i64 n, .slice a ss.length c] 24)) := (Below.refl _ _).alloc (Nat.le_refl _) _
  have HS : Hid (∀ w', RArg a ss w' → Calls Tryz.prog 6 #[.agg #[.int .i64 n, .slice a ss.length c], .int .i64 1048576] w' fun e w'' => ∃ r : Int, e = .returned (.int .i64 r) ∧ Hid (0 ≤ r → SmallS ss) ∧ r ≤ 1048576 ∧ Below w'.heap.size w' w'') := fun w' h' => szPool_le n a ss c w' h' hN hM
  have HS2 : Hid (∀ (l0 : Nat) w', QArg a2 ps w' → l0 ≤ 1048576 → Calls Tryz.prog 7 #[.slice a2 ps.length c2, .int .i64 (l0 : Int)] w' fun e w'' => ∃ r : Int, e = .returned (.int .i64 r) ∧ Hid (r ≤ l0) ∧ Hid (0 ≤ r → SmallP ps) ∧ Below w'.heap.size w' w'') := fun l0 w' h' hl => szPairS_any a2 ps c2 l0 w' h' hl hN2 hM2
  have HT : Hid (SmallS ss → ∀ w', RArg a ss w' → Calls Tryz.prog 9 #[.agg #[.int .i64 n, .slice a ss.length c]] w' fun e w'' => ∃ g, e = .returned (.agg #[.int .i64 n, .slice (some ⟨g, 0, none⟩) ss.length ss.length]) ∧ Row w'' w'.heap.size g ss.length ss.length (ss.map Value.string) ∧ SArg (some ⟨g, 0, none⟩) ss w'' ∧ Below w'.heap.size w' w'') := fun hs w' h' => by
    refine (toPool_row n a ss c w' (h'.sarg hs)).mono ?_
    rintro e w'' ⟨g, he, hrow, hb⟩
    exact ⟨g, he, hrow, Row.sarg hrow hs, hb⟩
  have HT2 : Hid (SmallP ps → ∀ w', QArg a2 ps w' → Calls Tryz.prog 10 #[.slice a2 ps.length c2] w' fun e w'' => ∃ g, e = .returned (.slice (some ⟨g, 0, none⟩) ps.length ps.length) ∧ Row w'' w'.heap.size g (ps.length * 2) (ps.length * 2) (flatP ps) ∧ PArg (some ⟨g, 0, none⟩) ps w'' ∧ Below w'.heap.size w' w'') := fun hs w' h' => by
    refine (toPairS_row a2 ps c2 w' (h'.parg hs)).mono ?_
    rintro e w'' ⟨g, he, hrow, hb⟩
    exact ⟨g, he, hrow, Row.parg hrow hs, hb⟩
  have HQ : Hid (∀ g g2 w', SArg (some ⟨g, 0, none⟩) ss w' → SArg (some ⟨g2, 0, none⟩) ss w' → Calls Tryz.prog 13 #[.agg #[.int .i64 n, .slice (some ⟨g, 0, none⟩) ss.length ss.length], .agg #[.int .i64 n, .slice (some ⟨g2, 0, none⟩) ss.length ss.length]] w' fun e w'' => e = .returned (.bool true) ∧ Below w'.heap.size w' w'') := fun g g2 w' hw hw2 => eqPool_same n _ _ ss _ _ w' hw hw2
  have HQ2 : Hid (∀ g g2 w', PArg (some ⟨g, 0, none⟩) ps w' → PArg (some ⟨g2, 0, none⟩) ps w' → Calls Tryz.prog 14 #[.slice (some ⟨g, 0, none⟩) ps.length ps.length, .slice (some ⟨g2, 0, none⟩) ps.length ps.length] w' fun e w'' => e = .returned (.bool true) ∧ Below w'.heap.size w' w'') := fun g g2 w' hw hw2 => eqPairS_any _ _ ps _ _ w' hw hw2
  obtain ⟨M, hMM⟩ := mark_ex
  have HM : Hid (MarkSaid M) := hMM
  obtain ⟨cd, nn, xs, root, x, y⟩ := O
  simp only at hO1 hO2
  have HE : Hid (∀ a1 c1 a2 c2 w', SArg a1 xs w' → SArg a2 xs w' → Calls Tryz.prog 12 #[svV cd nn a1 xs.length c1 root x y, svV cd nn a2 xs.length c2 root x y] w' fun e w'' => e = .returned (.bool true) ∧ Below w'.heap.size w' w'') := fun a1 c1 a2 c2 w' q1 q2 => eqSaved_same cd nn a1 a2 xs c1 c2 root x y w' q1 q2
  unfold SavedIs at H8 H11
  simp only at H8 H11
  obtain ⟨m, hm⟩ : ∃ m, xs.length = m := ⟨_, rfl⟩
  rw [hm] at H8 H11 HE hO1
  clear hMM hM hN hM2 hN2
  go_enter Tryz.func3, Tryz.ntmps3
  go_wp2_with fail
  refine (HS.out _ (h.below hb0)).mono ?_
  rintro e w1 ⟨x1, rfl, HX, hx1, hb1⟩
  have hn1 := pblk_below hb1 (heap_alloc_new w (.cells #[.int .i64 n, .slice a ss.length c] 24))
  have hw1 : Below w.heap.size w w1 := hb0.trans (hb1.mono (by simp))
  clear hb1 hb0
  by_cases hx : x1 < 0
  · have zx : decide (x1 < 0) = true := decide_eq_true hx
    clear hx
    go_wp2_with fail
    go_ret
    exact ⟨rfl, hw1⟩
  have hs := HX.out (by omega)
  have zx : decide (x1 < 0) = false := decide_eq_false hx
  obtain ⟨l0, rfl⟩ : ∃ l0 : Nat, x1 = (l0 : Int) := ⟨x1.toNat, by omega⟩
  go_wp2_with fail
  refine (HS2.out l0 _ (h2.below hw1) (by omega)).mono ?_
  rintro e w2 ⟨x2, rfl, _, HX2, hb2⟩
  have hn2 := pblk_below hb2 hn1
  have hw2 : Below w.heap.size w w2 := hw1.trans (hb2.mono hw1.size)
  clear hb2 hn1 hw1 hx hx1 HX zx
  by_cases hx : x2 < 0
  · have zx : decide (x2 < 0) = true := decide_eq_true hx
    clear hx
    go_wp2_with fail
    go_ret
    exact ⟨rfl, hw2⟩
  have hs2 := HX2.out (by omega)
  have zx : decide (x2 < 0) = false := decide_eq_false hx
  have H8' := H8.out hs
  have H11' := H11.out hs
  clear H11
  have H11 : Hid _ := H11'
  clear H11'
  have HT' := HT.out hs
  have HT2' := HT2.out hs2
  have hsl : ss.length ≤ 1048576 := hs.1
  have hsl2 : ps.length ≤ 1048576 := hs2.1
  replace H8' : Hid _ := H8'
  replace HT' : Hid _ := HT'
  replace HT2' : Hid _ := HT2'
  obtain ⟨N, hN⟩ : ∃ N, ss.length = N := ⟨_, rfl⟩
  obtain ⟨K, hKK⟩ : ∃ K, ps.length = K := ⟨_, rfl⟩
  rw [hN] at HT' H8' H11 HQ hn2 hsl
  rw [hKK] at HT2' H8' H11 HQ2 hsl2
  clear H8 HT HT2 HX2 hx hs hs2 HS HS2
  obtain ⟨ga, hga⟩ : ∃ ga, w.heap.size = ga := ⟨_, rfl⟩
  rw [hga] at hn2
  try rw [hga]
  have hgaH : Hid (w.heap.size = ga) := hga
  clear hga
  have c0 := Lib.cell_of_heap hn2 0
  have c1 := Lib.cell_of_heap hn2 1
  go_wp2_with fail
  refine (HT'.out _ (h.below hw2)).mono ?_
  rintro e w3 ⟨g3, rfl, _, hi3, hb3⟩
  have hn3 := pblk_below hb3 hn2
  have hw3 := hw2.trans (hb3.mono hw2.size)
  clear hb3 hn2 hw2 c0 c1
  go_wp2_with fail
  refine (HT2'.out _ (h2.below hw3)).mono ?_
  rintro e w4 ⟨g4, rfl, _, hp4, hb4⟩
  have hn4 := pblk_below hb4 hn3
  have hi4 := hi3.below hb4
  have hw4 := hw3.trans (hb4.mono hw3.size)
  clear hb4 hn3 hw3 hi3
  go_wp2_with fail
  refine (H8'.out _ _ _ hi4 hp4).mono ?_
  rintro e w5 ⟨aw, cw, rfl, ow⟩
  have hn5 := pblk_below ow.bel hn4
  have hw5 := hw4.trans (ow.bel.mono hw4.size)
  have sw5 := ow.sarg (by omega) hO2
  have lw5 : ∀ b off, aw = some ⟨b, off, none⟩ → b < w5.heap.size := fun b off e => (ow.lt b off e).2
  clear ow hn4 hw4 hi4 hp4
  go_upto_region 9 with fail
  have al5 : Below w5.heap.size w5 (w5.alloc (.cells #[.int .i64 cd, .int .i64 nn, .slice aw m cw, .string root, .string x, .string y] 30)) := (Below.refl _ _).alloc (Nat.le_refl _) _
  have hL : LW w ga n a N c w5.heap.size cd nn xs root x y aw m cw (w5.alloc (.cells #[.int .i64 cd, .int .i64 nn, .slice aw m cw, .string root, .string x, .string y] 30)) := ⟨pblk_below al5 hn5, heap_alloc_new w5 _, sw5.below al5, hw5.trans (al5.mono hw5.size)⟩
  have hsz6 : (w5.alloc (.cells #[.int .i64 cd, .int .i64 nn, .slice aw m cw, .string root, .string x, .string y] 30)).heap.size = w5.heap.size + 1 := by simp
  have hgw : ga < w5.heap.size := (Array.getElem?_eq_some_iff.1 hn5).1
  generalize w5.alloc (.cells #[.int .i64 cd, .int .i64 nn, .slice aw m cw, .string root, .string x, .string y] 30) = w6 at hL hsz6 ⊢
  clear al5 hn5 hw5 sw5
  obtain ⟨gw, hgw'⟩ : ∃ g, w5.heap.size = g := ⟨_, rfl⟩
  rw [hgw'] at hL hsz6 hgw lw5
  try rw [hgw']
  clear hgw'
  have c0 := Lib.cell_of_heap hL.par 0
  have c1 := Lib.cell_of_heap hL.par 1
  go_wp2_with fail
  refine (HT'.out _ (h.below hL.bel)).mono ?_
  rintro e w7 ⟨g7, rfl, rx7, hi7, hb7⟩
  have hL7 := hL.below hb7
  have hg7 := rx7.ge
  clear c0 c1
  go_upto_region 10 with fail
  have al7 : Below w7.heap.size w7 (w7.alloc (.cells #[.int .i64 n, .slice (some ⟨g7, 0, none⟩) N N] 28)) := (Below.refl _ _).alloc (Nat.le_refl _) _
  have hL8 := hL7.below al7
  have nX := heap_alloc_new w7 (.cells #[.int .i64 n, .slice (some ⟨g7, 0, none⟩) N N] 28)
  have hi8 := hi7.below al7
  have rx8 := (rx7.mono hL.bel.size).below al7
  have hsz8 : (w7.alloc (.cells #[.int .i64 n, .slice (some ⟨g7, 0, none⟩) N N] 28)).heap.size = w7.heap.size + 1 := by simp
  have hgx7 : g7 < w7.heap.size := rx7.lt
  generalize w7.alloc (.cells #[.int .i64 n, .slice (some ⟨g7, 0, none⟩) N N] 28) = w8 at hL8 nX hi8 rx8 hsz8 ⊢
  obtain ⟨gx, hgx⟩ : ∃ g, w7.heap.size = g := ⟨_, rfl⟩
  rw [hgx] at nX hsz8 hgx7
  try rw [hgx]
  clear hgx al7 hL7 hi7 rx7 hL hb7
  go_wp2_with fail
  refine (HT2'.out _ (h2.below hL8.bel)).mono ?_
  rintro e w9 ⟨g9, rfl, rp9, hp9, hb9⟩
  have hL9 := hL8.below hb9
  have nX9 := pblk_below hb9 nX
  have hi9 := hi8.below hb9
  have rx9 := rx8.below hb9
  have hg9 := rp9.ge
  have hg9l := rp9.lt
  have rp9' := rp9.mono hL8.bel.size
  clear hL8 nX hi8 rx8 rp9 hb9
  have d0 := Lib.cell_of_heap nX9 0
  have d1 := Lib.cell_of_heap nX9 1
  go_wp2_with fail
  refine (H11.out _ _ _ hi9 hp9 (hK.below hL9.bel)).mono ?_
  rintro e w10 ⟨ag, cg, rfl, og⟩
  go_upto_region 12 with fail
  have al10 : Below w10.heap.size w10 (w10.alloc (.cells #[.int .i64 cd, .int .i64 nn, .slice ag m cg, .string root, .string x, .string y] 30)) := (Below.refl _ _).alloc (Nat.le_refl _) _
  have hb911 : Below w9.heap.size w9 (w10.alloc (.cells #[.int .i64 cd, .int .i64 nn, .slice ag m cg, .string root, .string x, .string y] 30)) := og.bel.trans (al10.mono og.bel.size)
  have hG11 : LG w9.heap.size w10.heap.size cd nn xs root x y ag m cg (w10.alloc (.cells #[.int .i64 cd, .int .i64 nn, .slice ag m cg, .string root, .string x, .string y] 30)) := ⟨heap_alloc_new w10 _, (og.sarg (by omega) hO2).below al10, (own_srow og.own).below al10, og.lt, og.bel.size⟩
  have hL11 := hL9.below hb911
  have nX11 := pblk_below hb911 nX9
  have hi11 := hi9.below hb911
  have rx11 := rx9.below hb911
  have rp11 := rp9'.below hb911
  have hp11 := hp9.below hb911
  generalize w10.alloc (.cells #[.int .i64 cd, .int .i64 nn, .slice ag m cg, .string root, .string x, .string y] 30) = w11 at hb911 hG11 hL11 nX11 hi11 rx11 rp11 hp11 ⊢
  obtain ⟨gg, hgg⟩ : ∃ g, w10.heap.size = g := ⟨_, rfl⟩
  rw [hgg] at hG11
  try rw [hgg]
  obtain ⟨bs, hbs⟩ : ∃ b, w9.heap.size = b := ⟨_, rfl⟩
  rw [hbs] at hG11 hg9l
  clear hgg og al10 hb911 hL9 nX9 hi9 rx9 rp9' hp9 d0 d1 hbs
  obtain ⟨e0, e1, e2, e3, e4, e5⟩ := hG11.blk.load
  obtain ⟨f0, f1, f2, f3, f4, f5⟩ := hL11.sw.load
  go_wp2_with fail
  refine (HE.out _ _ _ _ _ hG11.arg hL11.arg).mono ?_
  rintro e w12 ⟨rfl, hb12⟩
  have hL12 := hL11.below hb12
  have hG12 := hG11.below hb12
  have nX12 := pblk_below hb12 nX11
  have hi12 := hi11.below hb12
  have rx12 := rx11.below hb12
  have rp12 := rp11.below hb12
  have hp12 := hp11.below hb12
  clear hL11 hG11 nX11 hi11 rx11 rp11 hp11 hb12 e0 e1 e2 e3 e4 e5 f0 f1 f2 f3 f4 f5
  have c0 := Lib.cell_of_heap hL12.par 0
  have c1 := Lib.cell_of_heap hL12.par 1
  have d0 := Lib.cell_of_heap nX12 0
  have d1 := Lib.cell_of_heap nX12 1
  go_upto_region 14 with fail
  have hC : Hid (∀ W : World, Below w12.heap.size w12 W → W.cell? ⟨ga, 0, none⟩ = some (.int .i64 n) ∧ W.cell? ⟨ga, 1, none⟩ = some (.slice a N c) ∧ W.cell? ⟨gx, 0, none⟩ = some (.int .i64 n) ∧ W.cell? ⟨gx, 1, none⟩ = some (.slice (some ⟨g7, 0, none⟩) N N)) := fun W hW => ⟨Lib.cell_of_heap (pblk_below hW hL12.par) 0, Lib.cell_of_heap (pblk_below hW hL12.par) 1, Lib.cell_of_heap (pblk_below hW nX12) 0, Lib.cell_of_heap (pblk_below hW nX12) 1⟩
  go_region_held3 (fun W => W.cell? ⟨ga, 0, none⟩ = some (.int .i64 n) ∧ W.cell? ⟨ga, 1, none⟩ = some (.slice a N c) ∧ W.cell? ⟨gx, 0, none⟩ = some (.int .i64 n) ∧ W.cell? ⟨gx, 1, none⟩ = some (.slice (some ⟨g7, 0, none⟩) N N)) (first | exact ⟨c0, c1, d0, d1⟩ | exact hC.out _ hx13 | exact hC.out _ hx14) (first | (go_at_call 9; refine (HT'.out _ ((h.below hL12.bel).below (Below.refl w12.heap.size w12).drew)).mono ?_; rintro e w13 ⟨g13, rfl, _, hi13, hb13⟩; have hx13 : Below w12.heap.size w12 w13 := (Below.refl w12.heap.size w12).drew.trans hb13; have hi13' := hi12.below hx13; clear hb13) | (go_at_call 13; refine (HQ.out _ _ _ hi13' hi13).mono ?_; rintro e w14 ⟨rfl, hb14⟩; have hx14 : Below w12.heap.size w12 w14 := hx13.trans (hb14.mono hx13.size)))
  have hL14 := hL12.below hx14
  have hG14 := hG12.below hx14
  have nX14 := pblk_below hx14 nX12
  have rx14 := rx12.below hx14
  have rp14 := rp12.below hx14
  have hp14 := hp12.below hx14
  clear hL12 hG12 nX12 hi12 rx12 rp12 hp12 hx13 hx14 hb14 hi13 hi13' c0 c1 d0 d1 hC HQ
  go_wp2_with fail
  refine (HT2'.out _ (h2.below hL14.bel)).mono ?_
  rintro e w15 ⟨g15, rfl, _, hp15, hb15⟩
  have hL15 := hL14.below hb15
  have hG15 := hG14.below hb15
  have nX15 := pblk_below hb15 nX14
  have rx15 := rx14.below hb15
  have rp15 := rp14.below hb15
  have hp15' := hp14.below hb15
  clear hL14 hG14 nX14 rx14 rp14 hp14 hb15
  go_wp2_with fail
  refine (HQ2.out _ _ _ hp15' hp15).mono ?_
  rintro e w16 ⟨rfl, hb16⟩
  have hL16 := hL15.below hb16
  have hG16 := hG15.below hb16
  have nX16 := pblk_below hb16 nX15
  have rx16 := rx15.below hb16
  have rp16 := rp15.below hb16
  clear hL15 hG15 nX15 rx15 rp15 hp15 hp15' hb16 HQ2
  have d0 := Lib.cell_of_heap nX16 0
  have d1 := Lib.cell_of_heap nX16 1
  have HMk := markPool_any M HM w.heap.size g7 N 1 n _ w16 rx16 (Nat.le_refl _) (by omega) hL16.bel.size
  have hw7 : w.heap.size ≤ g7 := rx16.ge
  have hw9 : w.heap.size ≤ g9 := rp16.ge
  obtain ⟨p, hp⟩ : ∃ p : Nat, 1 + N = p := ⟨_, rfl⟩
  rw [hp] at HMk
  go_wp2_with fail
  refine HMk.mono ?_
  rintro e w17 ⟨rfl, hg17⟩
  have hL17 := hL16.grown hg17 (fun q hq => by have := Option.some.inj hq; omega) (fun b off e => lw5 b off e)
  have hG17 := hG16.grown hg17 (fun q hq => by have := Option.some.inj hq; omega)
  have rp17 := rp16.kept hg17 (fun q => by have := Option.some.inj q; omega)
  clear hL16 hG16 nX16 rx16 rp16 hg17 HMk d0 d1
  have HMp := markP_any M HM w.heap.size K K p (some ⟨g9, 0, none⟩) _ w17 (.inr ⟨g9, rfl, rp17⟩) (by omega) (by omega)
  obtain ⟨p2, hp2⟩ : ∃ p2 : Nat, p + K * 2 = p2 := ⟨_, rfl⟩
  rw [hp2] at HMp
  have zp : decide ((p2 : Int) < 0) = false := by rw [decide_eq_false_iff_not]; omega
  clear hp hp2
  obtain ⟨row, hrow⟩ : ∃ row, (if K = 0 then none else (Value.slice (some ⟨g9, 0, none⟩) K K).ownBlock) = row := ⟨_, rfl⟩
  rw [hrow] at HMp
  have hrow' : ∀ q, row = some q → q = g9 := fun q hq => by
    rw [← hrow] at hq
    split at hq
    · cases hq
    · exact (Option.some.inj hq).symm
  clear hrow
  go_wp2_with fail
  refine HMp.mono ?_
  rintro e w18 ⟨rfl, _, hg18⟩
  have hL18 := hL17.grown hg18 (fun q hq => by have := hrow' q hq; omega) (fun b off e => lw5 b off e)
  have hG18 := hG17.grown hg18 (fun q hq => by have := hrow' q hq; omega)
  clear hL17 hG17 rp17 hg18 HMp hrow'
  obtain ⟨e0, e1, e2, e3, e4, e5⟩ := hG18.blk.load
  obtain ⟨f0, f1, f2, f3, f4, f5⟩ := hL18.sw.load
  go_wp2_with fail
  refine (HE.out _ _ _ _ _ hG18.arg hL18.arg).mono ?_
  rintro e w19 ⟨rfl, hb19⟩
  have hL19 := hL18.below hb19
  have hG19 := hG18.below hb19
  clear hL18 hG18 hb19 e0 e1 e2 e3 e4 e5 f0 f1 f2 f3 f4 f5
  obtain ⟨e0, e1, e2, e3, e4, e5⟩ := hG19.blk.load
  have hbs19 : bs ≤ w19.heap.size := Nat.le_trans hG19.ge (Nat.le_of_lt (Array.getElem?_eq_some_iff.1 (show w19.heap[gg]? = _ from hG19.blk)).1)
  have HMs := markSaved_any cd nn ag m cg root x y 1 (1 + m) (fun W => SRow W bs ag m cg (marksV M 1 m) ∧ w19.grownBy W (if m = 0 then none else (Value.slice ag m cg).ownBlock)) w19 (fun w' hb' => (markPool_s M HM bs m cg 1 nn ag _ w' (hG19.row.below hb') (Nat.le_refl _) (by omega) (Nat.le_trans hbs19 hb'.size)).mono (by
    rintro e w'' ⟨he, h1, h2⟩
    exact ⟨he, h1, grownBy_trans (grownBy_of_below hb' _) h2⟩))
  have HHd : Hid (∀ w', SRow w' bs ag m cg (marksV M 1 m) → Calls Tryz.prog 18 #[svV cd nn ag m cg root x y, .int .i64 ((1 : Nat) : Int)] w' fun e w'' => e = .returned (.int .i64 ((1 + m : Nat) : Int)) ∧ Below w'.heap.size w' w'') := fun w' hw' => heldSaved_any cd nn ag m cg root x y 1 (1 + m) w' (fun w2 hb2 => heldPool_any M HM bs m cg 1 nn ag w2 (hw'.below hb2) (Nat.le_refl _) (by omega))
  generalize marksV M 1 m = mV at HMs HHd
  obtain ⟨z, hz⟩ : ∃ z : Nat, 1 + m = z := ⟨_, rfl⟩
  rw [hz] at HMs HHd
  have zm : decide ((z : Int) < 0) = false := by rw [decide_eq_false_iff_not]; omega
  have zm2 : ((z : Int) != (z : Int)) = false := by simp
  clear hz
  obtain ⟨row, hrow⟩ : ∃ row, (if m = 0 then none else (Value.slice ag m cg).ownBlock) = row := ⟨_, rfl⟩
  rw [hrow] at HMs
  have hrow' : ∀ q, row = some q → bs ≤ q ∧ q < gg := fun q hq => by
    rw [← hrow] at hq
    split at hq
    · cases hq
    · cases ag with
      | none => cases hq
      | some A =>
        obtain ⟨b, o, el⟩ := A
        obtain rfl : b = q := Option.some.inj hq
        rcases hG19.row with h0 | ⟨g, e, hr⟩
        · omega
        · cases e
          exact hG19.lt b 0 rfl
  clear hrow
  go_wp2_with fail
  refine HMs.mono ?_
  rintro e w20 ⟨rfl, hS20, hg20⟩
  have hL20 := hL19.grown hg20 (fun q hq => by have := hrow' q hq; omega) (fun b off e => lw5 b off e)
  have hB20 : SB gg cd nn ag m cg root x y w20 := (hg20.block gg (Array.getElem?_eq_some_iff.1 (show w19.heap[gg]? = _ from hG19.blk)).1 (fun e => by have := hrow' gg e.symm; omega)).trans hG19.blk
  clear hL19 hG19 hg20 HMs e0 e1 e2 e3 e4 e5 hrow'
  obtain ⟨e0, e1, e2, e3, e4, e5⟩ := hB20.load
  go_wp2_with fail
  refine (HHd.out _ hS20).mono ?_
  rintro e w21 ⟨rfl, hb21⟩
  have hL21 := hL20.below hb21
  clear hL20 hB20 hS20 hb21 HHd e0 e1 e2 e3 e4 e5
  have c0 := Lib.cell_of_heap hL21.par 0
  have c1 := Lib.cell_of_heap hL21.par 1
  go_wp2_with fail
  refine (HT'.out _ (h.below hL21.bel)).mono ?_
  rintro e w22 ⟨g22, rfl, _, hi22, hb22⟩
  have hL22 := hL21.below hb22
  clear hL21 hb22 c0 c1
  go_wp2_with fail
  refine (HT2'.out _ (h2.below hL22.bel)).mono ?_
  rintro e w23 ⟨g23, rfl, _, hp23, hb23⟩
  have hL23 := hL22.below hb23
  have hi23 := hi22.below hb23
  clear hL22 hb23 hi22
  go_wp2_with fail
  refine (H11.out _ _ _ hi23 hp23 (hK.below hL23.bel)).mono ?_
  rintro e w24 ⟨ah, ch, rfl, oh⟩
  have sh24 := oh.sarg (by omega) hO2
  have hL24 := hL23.below oh.bel
  clear oh hL23 hi23 hp23
  have al24 : Below w24.heap.size w24 (w24.alloc (.cells #[.int .i64 cd, .int .i64 nn, .slice ah m ch, .string root, .string x, .string y] 30)) := (Below.refl _ _).alloc (Nat.le_refl _) _
  have nH : SB w24.heap.size cd nn ah m ch root x y (w24.alloc (.cells #[.int .i64 cd, .int .i64 nn, .slice ah m ch, .string root, .string x, .string y] 30)) := heap_alloc_new w24 _
  have hL25 := hL24.below al24
  have sh25 := sh24.below al24
  clear hL24 sh24
  obtain ⟨e0, e1, e2, e3, e4, e5⟩ := nH.load
  obtain ⟨f0, f1, f2, f3, f4, f5⟩ := hL25.sw.load
  go_wp2_with fail
  refine (HE.out _ _ _ _ _ sh25 hL25.arg).mono ?_
  rintro e w26 ⟨rfl, hb26⟩
  have hfin := (hL25.below hb26).bel
  clear hL25 e0 e1 e2 e3 e4 e5 f0 f1 f2 f3 f4 f5 sh25 nH
  go_wp2_with fail
  go_ret
  exact ⟨rfl, hfin⟩
theorem law_save (n : Int) (a : Option Addr) (ss : List ByteArray) (c : Nat) (a2 : Option Addr) (ps : List PairT) (c2 : Nat) (w : World) (hN : ss.length ≤ maxLen) (hM : ∀ j, (ss.getD j ⟨#[]⟩).size ≤ maxLen)
    (h : 0 < ss.length → ∃ b off : Nat, a = some ⟨b, off, none⟩ ∧ b < w.heap.size ∧ ∀ j, j < ss.length → w.cell? ⟨b, off + j, none⟩ = some (.string (ss.getD j ⟨#[]⟩)))
    (hN2 : ps.length ≤ maxLen) (hM2 : ∀ j, (ps.getD j noPair).1.size ≤ maxLen ∧ (ps.getD j noPair).2.size ≤ maxLen)
    (h2 : 0 < ps.length → ∃ b off : Nat, a2 = some ⟨b, off, none⟩ ∧ b < w.heap.size ∧ ∀ j, j < ps.length → w.cell? ⟨b, off + j * 2, none⟩ = some (.string (ps.getD j noPair).1) ∧ w.cell? ⟨b, off + j * 2 + 1, none⟩ = some (.string (ps.getD j noPair).2))
    (hK : ∀ j, j < 64 → w.cell? ⟨0, j, none⟩ = some (.int .u32 ((kTab.getD j 0).toNat : Int))) :
    Calls Tryz.prog 3 #[.agg #[.int .i64 n, .slice a ss.length c], .slice a2 ps.length c2] w fun e w' => e = .returned (.bool true) ∧ Below w.heap.size w w' := by
  by_cases hs : SmallS ss
  · have hsz : ∀ j, (ss.getD j ⟨#[]⟩).size ≤ 1048576 := fun j => Nat.le_trans (hs.2 j) (by decide)
    have hO := saveO_small n ss ps hsz
    refine law_sv (saveO n ss ps) (Nat.le_trans hO.1 (by decide)) hO.2 n a ss c a2 ps c2 w ⟨h⟩ hN hM ⟨h2⟩ hN2 hM2 hK ?_ ?_
    · intro _ g g' w' q1 q2
      exact ssave_any (fun t k w' ht h1 h2 => sdig_yes t k w' ht h1 h2) n _ ss _ _ ps _ w' q1 hs.2 q2 (Nat.le_refl _)
    · intro _ g g' w' q1 q2 q3
      exact isave_any (fun s w' hs hk => ehash_any s w' hs hk) n _ ss _ _ ps _ w' q1 q2 q3
  · exact law_sv (codeO 0) (Nat.zero_le _) (fun _ => Nat.zero_le _) n a ss c a2 ps c2 w ⟨h⟩ hN hM ⟨h2⟩ hN2 hM2 hK (fun q => absurd q hs) (fun q => absurd q hs)
end Go.Proofs.YtgicihmdcnelaaaGreatDoor
namespace Go.Proofs.Pools
open Go Go.ChangeShapes Go.WideShapes Go.ChangeAt Go.RowKit

/-- A struct of a number and a slice of texts that is handed in: what it holds, and that it reads so in every world in which what was there is as it was. -/
theorem open_pool {P : Program} {H : Type} {enc : TypeId × Value → H} {W : World} {b0 : Nat} {t e : TypeId} {f0 f1 : Field} {v : Value} {d : DataW H} {p : List MemPlace} (hs : P.underlying t = some (.struct #[f0, f1])) (hone : Go.Deep.oneCellFields P #[f0, f1] = true) (hC : P.cellsOf t = 2)
    (h0 : P.underlying f0.type = some (.int .i64)) (ht : P.underlying f1.type = some (.slice e)) (he : P.underlying e = some .string) (hc : P.cellsOf e = 1)
    (hv : Value.okWide P W .any b0 t v) (h : DataW.Trod enc P W 0 (fun _ => true) true t v d p) :
    ∃ (n : Int) (a : Option Addr) (c : Nat) (ss : List ByteArray), v = .agg #[.int .i64 n, .slice a ss.length c] ∧ ss.length ≤ maxLen ∧ (∀ j, (ss.getD j ⟨#[]⟩).size ≤ maxLen) ∧
      (0 < ss.length → ∃ b off : Nat, a = some ⟨b, off, none⟩ ∧ b < W.heap.size ∧ ∀ j, j < ss.length → W.cell? ⟨b, off + j, none⟩ = some (.string (ss.getD j ⟨#[]⟩))) ∧
      (∀ W' : World, Below W.heap.size W W' → DataW.Trod enc P W' 0 (fun b => decide (b < W.heap.size)) true t v d p) := by
  obtain ⟨v0, v1, y0, y1, m, rfl, rfl, rfl, hy0, hy1⟩ := Joins.open_agg2 hs hone hC hv h
  obtain ⟨n, e0, rfl, wn⟩ := DataW.trod_int h0 hy0
  simp only [List.cons.injEq, and_true] at e0
  subst e0
  rcases Deep.open_strs ht he hc hy1 with ⟨hc0, rfl⟩ | ⟨a, len, cap, q, Sx, hcs, _, hl, hm, hq, rfl, hx⟩
  · simp only [List.cons.injEq, and_true] at hc0
    subst hc0
    refine ⟨n, none, 0, [], rfl, Nat.zero_le _, fun _ => Nat.zero_le _, fun hx => absurd hx (Nat.lt_irrefl 0), fun W' _ => ?_⟩
    exact Joins.shut_agg2 hs hone hC (shut_int h0 wn) (shut_slice_nil ht)
  · simp only [List.cons.injEq, and_true] at hcs
    subst hcs
    simp only [if_true] at hq
    subst hq
    obtain ⟨b, off, spot⟩ := a
    have hcells : 0 < q → spot = none ∧ b < W.heap.size := fun h => by
      have h1 := (hx 0 (by omega)).1
      have hsp : spot = none := by simpa [Addr.add] using World.cell?_spot h1
      subst hsp
      rw [add_plain] at h1
      exact ⟨rfl, World.block_lt_of_cell? _ _ h1⟩
    have hlen : ((List.range len).map Sx).length = len := by rw [List.length_map, List.length_range]
    have hget : ∀ j, j < len → ((List.range len).map Sx).getD j ⟨#[]⟩ = Sx j := fun j hj => by
      rw [List.getD_eq_getElem?_getD, List.getElem?_map, List.getElem?_range hj]
      rfl
    refine ⟨n, some ⟨b, off, spot⟩, q, (List.range len).map Sx, by rw [hlen], by rw [hlen]; omega, fun j => ?_, fun hpos => ?_, fun W' hb => ?_⟩
    · by_cases hj : j < len
      · rw [hget j hj]; exact (hx j (by omega)).2
      · rw [List.getD_eq_getElem?_getD, List.getElem?_eq_none (by rw [hlen]; omega)]; exact Nat.zero_le _
    · rw [hlen] at hpos
      obtain ⟨rfl, hlt⟩ := hcells (by omega)
      refine ⟨b, off, rfl, hlt, fun j hj => ?_⟩
      rw [hlen] at hj
      rw [hget j hj, ← add_plain]
      exact (hx j (by omega)).1
    · refine Joins.shut_agg2 hs hone hC (shut_int h0 wn) ?_
      by_cases h0 : 0 < q
      · obtain ⟨rfl, hlt⟩ := hcells h0
        refine Deep.shut_strs_whole ht he hc (Nat.zero_le _) hl hm (by simpa using hlt) Sx (fun i hi => ?_) (fun i hi => (hx i hi).2)
        rw [hb.cell hlt, ← add_plain]
        exact (hx i hi).1
      · obtain rfl : q = 0 := by omega
        obtain rfl : len = 0 := by omega
        by_cases hlt : b < W.heap.size
        · have := Deep.shut_slice_whole_cells (enc := enc) (w := W') (base := 0) (spare := fun b => decide (b < W.heap.size)) (held := true) (a := ⟨b, off, spot⟩) (len := 0) (cap := 0) ht (Nat.zero_le _) hl hm (by simpa using hlt) (fun i => .lit (.string (Sx i).data.toList)) (fun _ => []) (fun i hi => absurd hi (Nat.not_lt_zero i))
          rwa [hc, Nat.mul_one, Deep.flatMap_nils, List.append_nil] at this
        · have := Deep.shut_slice_cells (enc := enc) (w := W') (base := 0) (spare := fun b => decide (b < W.heap.size)) (held := true) (a := ⟨b, off, spot⟩) (len := 0) (cap := 0) ht (Nat.zero_le _) hl hm (by simpa using hlt) (fun i => .lit (.string (Sx i).data.toList)) (fun _ => []) (fun i hi => absurd hi (Nat.not_lt_zero i))
          rwa [hc, Nat.mul_one, Deep.flatMap_nils, List.append_nil] at this
end Go.Proofs.Pools
