import Derived.Test.YtdnbhejacpjgfaaGreatDoorZi
import Derived.Test.YtdnbhejacpjgfaaGreatDoorZc
import Derived.Test.YtdnbhejacpjgfaaGreatDoorZh
import Derived.Test.YtdnbhejacpjgfaaGreatDoorZg
import Derived.Deep.RegionLaw
namespace Go.Proofs.YtdnbhejacpjgfaaGreatDoor
open Go.RowKit Go.Proofs.Sha

theorem go_all (fnd : ByteArray → FN) (wd : Nat) (hfo : FndOk wd fnd) (a : Option Addr) (n c g c' : Nat) (lo hi : ByteArray) (hlo : lo.size ≤ 1048576) (hhi : hi.size ≤ 1048576) (w0 : World)
    (HF : Hid (∀ (w' : World) (hash : ByteArray), Below w0.heap.size w0 w' → Calls Tryz.prog 28 #[.agg #[.int .i64 (wd : Int), .slice a n c], .slice (some ⟨g, 0, none⟩) n c', .string hash] w' fun e w'' => e = .returned (nodeT (fnd hash)) ∧ Below w'.heap.size w' w'')) :
    ∀ (f : Nat) (hash over under par : ByteArray) (cnt : Nat) (w : World), 500 < cnt + f → cnt ≤ 500 → Below w0.heap.size w0 w → over.size ≤ 1048576 → under.size ≤ 1048576 → par.size ≤ 1048576 →
    Calls Tryz.prog 16 #[.agg #[.int .i64 (wd : Int), .slice a n c], .slice (some ⟨g, 0, none⟩) n c', .string hash, .string par, .agg #[.string over, .string under], .string lo, .string hi, .int .i64 (cnt : Int)] w (GoPost (goF fnd hgW lo hi f hash over under par cnt) w)
  | 0, _, _, _, _, cnt, _, h, hc, _, _, _, _ => by omega
  | f + 1, hash, over, under, par, cnt, w, h, hc, hw, ho, hu, hp =>
    go_step fnd wd hfo a n c g c' lo hi hlo hhi w0 HF f hash over under par cnt (fun hash over under par cnt' w' h1 h2 hb ho hu hp => go_all fnd wd hfo a n c g c' lo hi hlo hhi w0 HF f hash over under par cnt' w' (by omega) h2 hb ho hu hp) w hw hc ho hu hp
/-- What a pool's look-up answers. -/
def fndD (D : Dec) (wd : Nat) (ss : List ByteArray) (hash : ByteArray) : FN := foundR D ss (firstI (hitB wd ss hash) ss.length)
/-- What is decoded is a node. -/
def DecOk (wd : Nat) (D : Dec) : Prop := ∀ s, D.ok s = true → okKey (D.k s) = true ∧ okVal (D.v s) = true ∧ ((D.l s).size = 0 ∨ (D.l s).size = wd) ∧ ((D.r s).size = 0 ∨ (D.r s).size = wd)
theorem fndD_ok (D : Dec) (wd : Nat) (ss : List ByteArray) (h : DecOk wd D) : FndOk wd (fndD D wd ss) := by
  have key : ∀ o, ((foundR D ss o).2 = 0 ∨ (foundR D ss o).2 = 2 ∨ (foundR D ss o).2 = 3) ∧ ((foundR D ss o).2 = 0 → okKey (foundR D ss o).1.1 = true ∧ okVal (foundR D ss o).1.2.1 = true ∧ ((foundR D ss o).1.2.2.1.size = 0 ∨ (foundR D ss o).1.2.2.1.size = wd) ∧ ((foundR D ss o).1.2.2.2.size = 0 ∨ (foundR D ss o).1.2.2.2.size = wd)) := by
    intro o
    cases o with
    | none =>
      rw [show foundR D ss none = ((⟨#[]⟩, ⟨#[]⟩, ⟨#[]⟩, ⟨#[]⟩), 2) from rfl]
      exact ⟨.inr (.inl rfl), fun e => absurd e (by decide)⟩
    | some i =>
      by_cases q : D.ok (ss.getD i ⟨#[]⟩) = true
      · rw [show foundR D ss (some i) = _ from if_pos q]
        exact ⟨.inl rfl, fun _ => h _ q⟩
      · rw [show foundR D ss (some i) = _ from if_neg q]
        exact ⟨.inr (.inr rfl), fun e => absurd e (by decide)⟩
  exact ⟨fun hash => (key _).1, fun hash => (key _).2⟩
/-- A range of a pool's tree: the pairs, the code. -/
def rangeM (fnd : ByteArray → FN) (n : Int) (m : Nat) (root lo hi : ByteArray) : List PairT × Int :=
  if (poolOk n m && hashOk root.size n) = true then
    if (goF fnd hgW lo hi 501 root ⟨#[]⟩ ⟨#[]⟩ ⟨#[]⟩ 0).1 = 0 then ((goF fnd hgW lo hi 501 root ⟨#[]⟩ ⟨#[]⟩ ⟨#[]⟩ 0).2.2, 0) else ([], (goF fnd hgW lo hi 501 root ⟨#[]⟩ ⟨#[]⟩ ⟨#[]⟩ 0).1)
  else ([], 1)
theorem rangeM_bad {fnd : ByteArray → FN} {n : Int} {m : Nat} {root lo hi : ByteArray} (h : (poolOk n m && hashOk root.size n) = false) : rangeM fnd n m root lo hi = ([], 1) := by unfold rangeM; rw [if_neg (by rw [h]; decide)]
theorem rangeM_ok {fnd : ByteArray → FN} {n : Int} {m : Nat} {root lo hi : ByteArray} (h : (poolOk n m && hashOk root.size n) = true) {R : Int × Nat × List PairT} (hR : goF fnd hgW lo hi 501 root ⟨#[]⟩ ⟨#[]⟩ ⟨#[]⟩ 0 = R) : rangeM fnd n m root lo hi = if R.1 = 0 then (R.2.2, 0) else ([], R.1) := by unfold rangeM; rw [if_pos h, hR]
/-- What a range answers: the row is the call's own. -/
def RangeAt (X : List PairT × Int) (w : World) (e : Ending) (w' : World) : Prop :=
  (∃ a c, e = .returned (.tuple #[.slice a X.1.length c, .int .i64 X.2]) ∧ w'.ownsRow w.heap.size 53 2 (.slice a X.1.length c) X.1.length (flatP X.1)) ∧ Below w.heap.size w w'

/-- The blocks that the model's Range has of its own. -/
structure SR (w : World) (ga gz : Nat) (n : Int) (a : Option Addr) (m c : Nat) (W : World) : Prop where
  sz : w.heap.size = ga
  o1 : ga < gz
  bl : Below w.heap.size w W
  na : W.heap[ga]? = some (.cells #[.int .i64 n, .slice a m c] 29)
  nz : W.heap[gz]? = some (.cells #[] 53)
section
variable {w : World} {ga gz : Nat} {n : Int} {a : Option Addr} {m c : Nat} {W W' : World}
theorem SR.mk0 (w : World) (n : Int) (a : Option Addr) (m c : Nat) : SR w w.heap.size (w.heap.size + 1) n a m c ((w.alloc (.cells #[.int .i64 n, .slice a m c] 29)).alloc (.cells #[] 53)) := by
  have e2 := heap_alloc_new (w.alloc (.cells #[.int .i64 n, .slice a m c] 29)) (.cells #[] 53)
  rw [World.size_alloc] at e2
  exact ⟨rfl, Nat.lt_succ_self _, ((Below.refl _ _).alloc (Nat.le_refl _) _).alloc (by simp) _, by rw [Below.heap_alloc _ _ _ (by simp)]; exact heap_alloc_new w _, e2⟩
theorem SR.lt (h : SR w ga gz n a m c W) : gz < W.heap.size := (Array.getElem?_eq_some_iff.1 h.nz).1
theorem SR.below (h : SR w ga gz n a m c W) (hb : Below W.heap.size W W') : SR w ga gz n a m c W' :=
  ⟨h.sz, h.o1, h.bl.trans (hb.mono h.bl.size), (hb.block _ (Nat.lt_trans h.o1 h.lt)).trans h.na, (hb.block _ h.lt).trans h.nz⟩
theorem SR.nil (h : SR w ga gz n a m c W) (i : Int) : RangeAt ([], i) w (.returned (.tuple #[.slice (some ⟨gz, 0, none⟩) 0 0, .int .i64 i])) W := by
  have h1 := h.sz
  have h2 := h.o1
  exact ⟨⟨some ⟨gz, 0, none⟩, 0, rfl, own2_nil (by omega) h.nz⟩, h.bl⟩
theorem SR.set3 (h : SR w ga gz n a m c W) {gw : Nat} (hg : gz < gw) (x y z : Value) : SR w ga gz n a m c (((W.setCell ⟨gw, 0, none⟩ x).setCell ⟨gw, 1, none⟩ y).setCell ⟨gw, 2, none⟩ z) := by
  have h1 := h.sz
  have h2 := h.o1
  have hb : w.heap.size ≤ gw := by omega
  refine ⟨h.sz, h.o1, ((h.bl.setCell hb _).setCell hb _).setCell hb _, ?_, ?_⟩
  · rw [Below.heap_setCell _ _ _ _ (by show ga ≠ gw; omega), Below.heap_setCell _ _ _ _ (by show ga ≠ gw; omega), Below.heap_setCell _ _ _ _ (by show ga ≠ gw; omega)]; exact h.na
  · rw [Below.heap_setCell _ _ _ _ (by show gz ≠ gw; omega), Below.heap_setCell _ _ _ _ (by show gz ≠ gw; omega), Below.heap_setCell _ _ _ _ (by show gz ≠ gw; omega)]; exact h.nz
/-- A walk's answer in its block. -/
def WB (gw : Nat) (x y z : Value) (W : World) : Prop := W.heap[gw]? = some (.cells #[x, y, z] 40)
theorem WB.below {gw : Nat} {x y z : Value} (h : WB gw x y z W) (hb : Below W.heap.size W W') : WB gw x y z W' := (hb.block _ (Array.getElem?_eq_some_iff.1 h).1).trans h
theorem WB.set3 {gw : Nat} {x y z : Value} (h : WB gw x y z W) (x' y' z' : Value) : WB gw x' y' z' (((W.setCell ⟨gw, 0, none⟩ x').setCell ⟨gw, 1, none⟩ y').setCell ⟨gw, 2, none⟩ z') := heap_setCell_same _ gw 2 _ 40 _ (heap_setCell_same _ gw 1 _ 40 _ (heap_setCell_same _ gw 0 _ 40 _ h))
theorem WB.at {gw : Nat} {x y z : Value} (h : WB gw x y z W) : W.cell? ⟨gw, 0, none⟩ = some x ∧ W.cell? ⟨gw, 1, none⟩ = some y ∧ W.cell? ⟨gw, 2, none⟩ = some z ∧ W.frozen? ⟨gw, 0, none⟩ = false ∧ W.frozen? ⟨gw, 1, none⟩ = false ∧ W.frozen? ⟨gw, 2, none⟩ = false :=
  ⟨Lib.cell_of_heap h 0, Lib.cell_of_heap h 1, Lib.cell_of_heap h 2, by rw [World.frozen?, h]; rfl, by rw [World.frozen?, h]; rfl, by rw [World.frozen?, h]; rfl⟩
end

set_option maxRecDepth 100000 in
set_option maxHeartbeats 2000000 in
theorem srange_bad (n : Int) (a : Option Addr) (m c : Nat) (root lo hi : ByteArray) (w : World) (hm : m ≤ 1048576) (hr : root.size ≤ 1048576) (h : (poolOk n m && hashOk root.size n) = false) :
    Calls Tryz.prog 5 #[.agg #[.int .i64 n, .slice a m c], .string root, .string lo, .string hi] w (RangeAt ([], 1) w) := by
  have HP := fun w' => poolOk_any n a m c w' hm
  have HH := fun w' => hashOk_any root n w' hr
  have hS := SR.mk0 w n a m c
  cases h1 : poolOk n m with
  | false =>
    rw [h1] at HP
    clear h h1
    go_enter Tryz.func5, Tryz.ntmps5
    go_upto_region 2 with fail
    generalize (w.alloc (.cells #[.int .i64 n, .slice a m c] 29)).alloc (.cells #[] 53) = W at hS ⊢
    obtain ⟨gz, hgz⟩ : ∃ x, w.heap.size + 1 = x := ⟨_, rfl⟩
    rw [hgz] at hS ⊢
    obtain ⟨ga, hga⟩ : ∃ x, w.heap.size = x := ⟨_, rfl⟩
    rw [show SR w w.heap.size = SR w ga by rw [hga]] at hS
    rw [hga]
    clear hga hgz
    have k0 := Lib.cell_of_heap hS.na 0
    have k1 := Lib.cell_of_heap hS.na 1
    go_wp2_with (first | (go_at_call 14; refine (HP _).mono ?_; rintro e w1 ⟨rfl, hb1⟩; have hS1 := hS.below hb1; have k0 := Lib.cell_of_heap hS1.na 0; have k1 := Lib.cell_of_heap hS1.na 1) | (go_at_call 15; refine (HH _).mono ?_; rintro e w2 ⟨rfl, rfl⟩))
    go_ret2
    exact hS1.nil 1
  | true =>
    have h2 : hashOk root.size n = false := by rw [h1] at h; exact h
    rw [h1] at HP
    rw [h2] at HH
    clear h h1 h2
    go_enter Tryz.func5, Tryz.ntmps5
    go_upto_region 2 with fail
    generalize (w.alloc (.cells #[.int .i64 n, .slice a m c] 29)).alloc (.cells #[] 53) = W at hS ⊢
    obtain ⟨gz, hgz⟩ : ∃ x, w.heap.size + 1 = x := ⟨_, rfl⟩
    rw [hgz] at hS ⊢
    obtain ⟨ga, hga⟩ : ∃ x, w.heap.size = x := ⟨_, rfl⟩
    rw [show SR w w.heap.size = SR w ga by rw [hga]] at hS
    rw [hga]
    clear hga hgz
    have k0 := Lib.cell_of_heap hS.na 0
    have k1 := Lib.cell_of_heap hS.na 1
    go_wp2_with (first | (go_at_call 14; refine (HP _).mono ?_; rintro e w1 ⟨rfl, hb1⟩; have hS1 := hS.below hb1; have k0 := Lib.cell_of_heap hS1.na 0; have k1 := Lib.cell_of_heap hS1.na 1) | (go_at_call 15; refine (HH _).mono ?_; rintro e w2 ⟨rfl, rfl⟩))
    go_ret2
    exact hS1.nil 1
end Go.Proofs.YtdnbhejacpjgfaaGreatDoor
namespace Go.Proofs.YtdnbhejacpjgfaaGreatDoor
open Go.RowKit Go.Proofs.Sha

set_option maxRecDepth 100000 in
set_option maxHeartbeats 1000000 in
theorem toPool_row (n : Int) (a : Option Addr) (ss : List ByteArray) (c : Nat) (w : World) (h : SArg a ss w) :
    Calls Tryz.prog 6 #[.agg #[.int .i64 n, .slice a ss.length c]] w fun e w' => ∃ g, e = .returned (.agg #[.int .i64 n, .slice (some ⟨g, 0, none⟩) ss.length ss.length]) ∧ Row w' w.heap.size g ss.length ss.length (ss.map Value.string) ∧ Below w.heap.size w w' := by
  have HT : Hid (∀ w', SArg a ss w' → Calls Tryz.prog 18 #[.slice a ss.length c] w' fun e w'' => ∃ g, e = .returned (.slice (some ⟨g, 0, none⟩) ss.length ss.length) ∧ Row w'' w'.heap.size g ss.length ss.length (ss.map Value.string) ∧ Below w'.heap.size w' w'') := fun w' h' => toStringS_any a ss c w' h'
  go_enter Tryz.func6, Tryz.ntmps6
  obtain ⟨o1, ho1⟩ : ∃ o : Obj, .cells #[.int .i64 n, .slice a ss.length c] 24 = o := ⟨_, rfl⟩
  have hW : Below w.heap.size w (((w.alloc o1).alloc (.cells #[.int .i64 0, .slice none 0 0] 29)).alloc (.cells #[.int .i64 n, .slice none 0 0] 29)) := ((((Below.refl _ w).alloc (Nat.le_refl _) _).alloc (by simp) _).alloc (by simp; omega) _)
  have m2 := heap_alloc_new ((w.alloc o1).alloc (.cells #[.int .i64 0, .slice none 0 0] 29)) (.cells #[.int .i64 n, .slice none 0 0] 29)
  have m1 := pblk_below ((Below.refl _ _).alloc (Nat.le_refl _) (.cells #[.int .i64 n, .slice none 0 0] 29)) (heap_alloc_new (w.alloc o1) (.cells #[.int .i64 0, .slice none 0 0] 29))
  have hsz3 : (((w.alloc o1).alloc (.cells #[.int .i64 0, .slice none 0 0] 29)).alloc (.cells #[.int .i64 n, .slice none 0 0] 29)).heap.size = w.heap.size + 3 := by simp
  rw [World.size_alloc] at m1
  rw [World.size_alloc, World.size_alloc] at m2
  subst ho1
  go_wp2_with fail
  refine (HT.out _ (h.below hW)).mono ?_
  rintro e w1 ⟨g, rfl, hrow, hb1⟩
  have n1 := pblk_below hb1 m1
  have n2 := pblk_below hb1 m2
  have hge := hrow.ge
  have hB1 := hW.trans (hb1.mono hW.size)
  rw [hsz3] at hge
  replace hrow := hrow.mono (show w.heap.size ≤ _ by rw [hsz3]; omega)
  clear hb1 m1 m2 hW hsz3
  obtain ⟨g1, hg1⟩ : ∃ g1, w.heap.size + 1 = g1 := ⟨_, rfl⟩
  obtain ⟨g2, hg2⟩ : ∃ g2, w.heap.size + 1 + 1 = g2 := ⟨_, rfl⟩
  rw [hg1] at n1
  rw [hg2] at n2
  rw [hg2, hg1]
  have hle1 : w.heap.size ≤ g1 := by omega
  have hle2 : w.heap.size ≤ g2 := by omega
  have hne1 : g1 ≠ g := by omega
  have hne2 : g2 ≠ g := by omega
  have hne : g2 ≠ g1 := by omega
  clear hge hg1 hg2
  have c0 := Lib.cell_of_heap n2 0
  have c1 := Lib.cell_of_heap n2 1
  have fr2 : ∀ j, w1.frozen? ⟨g2, j, none⟩ = false := fun j => by rw [World.frozen?, n2]; rfl
  have f1 := fr2 1
  obtain ⟨W, hWW⟩ : ∃ W, w1.setCell ⟨g2, 1, none⟩ (.slice (some ⟨g, 0, none⟩) ss.length ss.length) = W := ⟨_, rfl⟩
  have p2 : W.heap[g2]? = some (.cells #[.int .i64 n, .slice (some ⟨g, 0, none⟩) ss.length ss.length] 29) := by rw [← hWW]; exact heap_setCell_same _ g2 1 _ 29 _ n2
  have p1 : W.heap[g1]? = some (.cells #[.int .i64 0, .slice none 0 0] 29) := by
    rw [← hWW]
    exact ((grownBy_setCell _ _ _ _).block g1 (Array.getElem?_eq_some_iff.1 n1).1 (fun e => hne (Option.some.inj e).symm)).trans n1
  have hrW : Row W w.heap.size g ss.length ss.length (ss.map Value.string) := by rw [← hWW]; exact hrow.kept (grownBy_setCell _ _ _ _) (fun e => hne2 (Option.some.inj e).symm)
  have hBW : Below w.heap.size w W := by rw [← hWW]; exact hB1.setCell hle2 _
  go_upto_region 4 with fail
  clear hWW n1 n2 c0 c1 f1 fr2 hrow hB1
  have c0 := Lib.cell_of_heap p2 0
  have c1 := Lib.cell_of_heap p2 1
  have e0 := Lib.cell_of_heap p1 0
  have e1 := Lib.cell_of_heap p1 1
  have fr1 : ∀ j, W.frozen? ⟨g1, j, none⟩ = false := fun j => by rw [World.frozen?, p1]; rfl
  have f0 := fr1 0
  have f1 := fr1 1
  go_wp2_with fail
  have q1 := heap_setCell_same _ g1 1 _ 29 (.slice (some ⟨g, 0, none⟩) ss.length ss.length) (heap_setCell_same _ g1 0 _ 29 (.int .i64 n) p1)
  refine retP Tryz.results6 rfl rfl q1 ⟨g, rfl, (hrW.kept (grownBy_setCell _ _ _ _) (fun e => hne1 (Option.some.inj e).symm)).kept (grownBy_setCell _ _ _ _) (fun e => hne1 (Option.some.inj e).symm), (hBW.setCell hle1 _).setCell hle1 _⟩
theorem PArg.grown {a : Option Addr} {ps : List PairT} {w w' : World} {row : Option Nat} (h : PArg a ps w) (hg : w.grownBy w' row) (hn : ∀ b off, a = some ⟨b, off, none⟩ → 0 < ps.length → some b ≠ row) : PArg a ps w' := by
  refine ⟨h.le, h.sz, fun h0 => ?_⟩
  obtain ⟨b, off, ha, hlt, hc⟩ := h.at_ h0
  have hne := hn b off ha h0
  exact ⟨b, off, ha, Nat.lt_of_lt_of_le hlt hg.size, fun j hj => ⟨(hg.cell_far ⟨b, off + j * 2, none⟩ hlt hne).trans (hc j hj).1, (hg.cell_far ⟨b, off + j * 2 + 1, none⟩ hlt hne).trans (hc j hj).2⟩⟩
theorem own_parg {w : World} {base c : Nat} {a : Option Addr} {ps : List PairT} (h : w.ownsRow base 53 2 (.slice a ps.length c) ps.length (flatP ps)) (hs : SmallP ps) : PArg a ps w := by
  rcases own_prow h with h0 | ⟨g, rfl, hr⟩
  · exact ⟨hs.1, hs.2, fun q => by omega⟩
  · exact Row.parg hr hs
theorem own_in {w : World} {base n c : Nat} {a : Option Addr} {xs : List Value} (h : w.ownsRow base 53 2 (.slice a n c) n xs) (b off : Nat) (e : a = some ⟨b, off, none⟩) : base ≤ b ∧ b < w.heap.size := by
  obtain ⟨q1, q2, _⟩ := own2_cells h (g := b) (by rw [e]; rfl)
  exact ⟨q1, q2⟩
set_option maxRecDepth 100000 in
theorem markPool_any (M : Nat → ByteArray) (HM : Hid (MarkSaid M)) (base g m k0 : Nat) (n : Int) (xs : List Value) (w : World) (h : Row w base g m m xs) (h1 : 1 ≤ k0) (h2 : k0 + m ≤ 4000000) (hb : base ≤ w.heap.size) :
    Calls Tryz.prog 10 #[.agg #[.int .i64 n, .slice (some ⟨g, 0, none⟩) m m], .int .i64 (k0 : Int)] w fun e w' => e = .returned (.int .i64 ((k0 + m : Nat) : Int)) ∧ w.grownBy w' (some g) := by
  have HR := fun w' h' hb' => mark_row M HM base g m m k0 xs w' h' h1 h2 hb'
  have hA : Below w.heap.size w (w.alloc (.cells #[.int .i64 n, .slice (some ⟨g, 0, none⟩) m m] 29)) := (Below.refl _ _).alloc (Nat.le_refl _) _
  have HR2 : Hid (Calls Tryz.prog 24 #[.slice (some ⟨g, 0, none⟩) m m, .int .i64 (k0 : Int)] (w.alloc (.cells #[.int .i64 n, .slice (some ⟨g, 0, none⟩) m m] 29)) fun e w' => e = .returned (.int .i64 ((k0 + m : Nat) : Int)) ∧ w.grownBy w' (some g)) := by
    refine (HR _ (h.below hA) (Nat.le_trans hb hA.size)).mono ?_
    rintro e w' ⟨rfl, _, hg⟩
    exact ⟨rfl, grownBy_trans (grownBy_of_below hA _) hg⟩
  obtain ⟨z, hz⟩ : ∃ z : Int, ((k0 + m : Nat) : Int) = z := ⟨_, rfl⟩
  rw [hz] at HR2 ⊢
  clear HR hz
  go_enter Tryz.func10, Tryz.ntmps10
  go_wp2_with (first | (go_at_call 24; refine HR2.out.mono ?_; rintro e w2 ⟨rfl, hg2⟩))
  go_ret
  exact ⟨rfl, hg2⟩
end Go.Proofs.YtdnbhejacpjgfaaGreatDoor
namespace Go.Proofs.YtdnbhejacpjgfaaGreatDoor
open Go.RowKit Go.Proofs.Sha

set_option maxRecDepth 100000 in
set_option maxHeartbeats 2000000 in
theorem law_rg {K : World → Prop} (keep : Hid (∀ w1 w2, K w1 → Below w1.heap.size w1 w2 → K w2)) (n : Int) (a : Option Addr) (ss : List ByteArray) (c : Nat) (root lo hi : ByteArray) (w : World) (h : RArg a ss w) (hN : ss.length ≤ maxLen) (hM : ∀ j, (ss.getD j ⟨#[]⟩).size ≤ maxLen) (hr : root.size ≤ maxLen) (hlo : lo.size ≤ maxLen) (hhi : hi.size ≤ maxLen) (hK : K w)
    (P : List PairT) (xc : Int) (hP5 : P.length ≤ 500) (hPs : SmallP P)
    (H5 : Hid (root.size ≤ 1048576 → lo.size ≤ 1048576 → hi.size ≤ 1048576 → SmallS ss → ∀ g w', SArg (some ⟨g, 0, none⟩) ss w' → Calls Tryz.prog 5 #[.agg #[.int .i64 n, .slice (some ⟨g, 0, none⟩) ss.length ss.length], .string root, .string lo, .string hi] w' (RangeAt (P, xc) w')))
    (H7 : Hid (root.size ≤ 1048576 → ∀ g w', SArg (some ⟨g, 0, none⟩) ss w' → K w' → Calls Tryz.prog 7 #[.agg #[.int .i64 n, .slice (some ⟨g, 0, none⟩) ss.length ss.length], .string root, .string lo, .string hi] w' (RangeAt (P, xc) w'))) :
    Calls Tryz.prog 3 #[.agg #[.int .i64 n, .slice a ss.length c], .string root, .string lo, .string hi] w fun e w' => e = .returned (.bool true) ∧ Below w.heap.size w w' := by
  unfold maxLen at hr hlo hhi
  have hb0 : Below w.heap.size w (w.alloc (.cells #[.int .i64 n, .slice a ss.length c] 24)) := (Below.refl _ _).alloc (Nat.le_refl _) _
  by_cases hx0 : 1048576 < root.size
  · have z1 : decide ((1048576 : Int) < (root.size : Int)) = true := by rw [decide_eq_true_eq]; omega
    go_enter Tryz.func3, Tryz.ntmps3
    go_wp2_with fail
    go_ret
    exact ⟨rfl, hb0⟩
  have z1 : decide ((1048576 : Int) < (root.size : Int)) = false := by rw [decide_eq_false_iff_not]; omega
  by_cases hx1 : 1048576 < lo.size
  · have z2 : decide ((1048576 : Int) < (lo.size : Int)) = true := by rw [decide_eq_true_eq]; omega
    go_enter Tryz.func3, Tryz.ntmps3
    go_wp2_with fail
    go_ret
    exact ⟨rfl, hb0⟩
  have z2 : decide ((1048576 : Int) < (lo.size : Int)) = false := by rw [decide_eq_false_iff_not]; omega
  by_cases hx2 : 1048576 < hi.size
  · have z3 : decide ((1048576 : Int) < (hi.size : Int)) = true := by rw [decide_eq_true_eq]; omega
    go_enter Tryz.func3, Tryz.ntmps3
    go_wp2_with fail
    go_ret
    exact ⟨rfl, hb0⟩
  have z3 : decide ((1048576 : Int) < (hi.size : Int)) = false := by rw [decide_eq_false_iff_not]; omega
  have HS : Hid (∀ w', RArg a ss w' → Calls Tryz.prog 4 #[.agg #[.int .i64 n, .slice a ss.length c], .int .i64 1048576] w' fun e w'' => ∃ r : Int, e = .returned (.int .i64 r) ∧ Hid (0 ≤ r → SmallS ss) ∧ Below w'.heap.size w' w'') := fun w' h' => szPool_any n a ss c w' h' hN hM
  have HT : Hid (SmallS ss → ∀ w', RArg a ss w' → Calls Tryz.prog 6 #[.agg #[.int .i64 n, .slice a ss.length c]] w' fun e w'' => ∃ g, e = .returned (.agg #[.int .i64 n, .slice (some ⟨g, 0, none⟩) ss.length ss.length]) ∧ Row w'' w'.heap.size g ss.length ss.length (ss.map Value.string) ∧ SArg (some ⟨g, 0, none⟩) ss w'' ∧ Below w'.heap.size w' w'') := fun hs w' h' => by
    refine (toPool_row n a ss c w' (h'.sarg hs)).mono ?_
    rintro e w'' ⟨g, he, hrow, hb⟩
    exact ⟨g, he, hrow, Row.sarg hrow hs, hb⟩
  have HQ : Hid (∀ g g2 w', SArg (some ⟨g, 0, none⟩) ss w' → SArg (some ⟨g2, 0, none⟩) ss w' → Calls Tryz.prog 9 #[.agg #[.int .i64 n, .slice (some ⟨g, 0, none⟩) ss.length ss.length], .agg #[.int .i64 n, .slice (some ⟨g2, 0, none⟩) ss.length ss.length]] w' fun e w'' => e = .returned (.bool true) ∧ Below w'.heap.size w' w'') := fun g g2 w' hw hw2 => eqPool_same n _ _ ss _ _ w' hw hw2
  have HE : Hid (∀ a1 c1 a2 c2 w', PArg a1 P w' → PArg a2 P w' → Calls Tryz.prog 8 #[.slice a1 P.length c1, .slice a2 P.length c2] w' fun e w'' => e = .returned (.bool true) ∧ Below w'.heap.size w' w'') := fun a1 c1 a2 c2 w' q1 q2 => eqPairS_any a1 a2 P c1 c2 w' q1 q2
  obtain ⟨M, hMM⟩ := mark_ex
  have HM : Hid (MarkSaid M) := hMM
  clear hMM hM hN
  go_enter Tryz.func3, Tryz.ntmps3
  go_wp2_with fail
  refine (HS.out _ (h.below hb0)).mono ?_
  rintro e w1 ⟨x1, rfl, HX, hb1⟩
  have hn1 := pblk_below hb1 (heap_alloc_new w (.cells #[.int .i64 n, .slice a ss.length c] 24))
  have hw1 : Below w.heap.size w w1 := hb0.trans (hb1.mono (by simp))
  clear hb1 hb0
  by_cases hx : x1 < 0
  · have zx : decide (x1 < 0) = true := decide_eq_true hx
    clear hx
    go_wp2_with fail
    go_ret
    exact ⟨rfl, hw1⟩
  have hs := HX.out (by omega)
  have zx : decide (x1 < 0) = false := decide_eq_false hx
  have H5' : Hid (∀ g w', SArg (some ⟨g, 0, none⟩) ss w' → Calls Tryz.prog 5 #[.agg #[.int .i64 n, .slice (some ⟨g, 0, none⟩) ss.length ss.length], .string root, .string lo, .string hi] w' (RangeAt (P, xc) w')) := H5.out (by omega) (by omega) (by omega) hs
  have H7' : Hid (∀ g w', SArg (some ⟨g, 0, none⟩) ss w' → K w' → Calls Tryz.prog 7 #[.agg #[.int .i64 n, .slice (some ⟨g, 0, none⟩) ss.length ss.length], .string root, .string lo, .string hi] w' (RangeAt (P, xc) w')) := H7.out (by omega)
  have HT' : Hid (∀ w', RArg a ss w' → Calls Tryz.prog 6 #[.agg #[.int .i64 n, .slice a ss.length c]] w' fun e w'' => ∃ g, e = .returned (.agg #[.int .i64 n, .slice (some ⟨g, 0, none⟩) ss.length ss.length]) ∧ Row w'' w'.heap.size g ss.length ss.length (ss.map Value.string) ∧ SArg (some ⟨g, 0, none⟩) ss w'' ∧ Below w'.heap.size w' w'') := HT.out hs
  have hsl : ss.length ≤ 1048576 := hs.1
  clear H5 H7 HT HX hx hs HS hx0 hx1 hx2 hr hlo hhi
  obtain ⟨ga, hga⟩ : ∃ ga, w.heap.size = ga := ⟨_, rfl⟩
  rw [hga] at hn1
  rw [hga]
  have hgaH : Hid (w.heap.size = ga) := hga
  clear hga
  have c0 := Lib.cell_of_heap hn1 0
  have c1 := Lib.cell_of_heap hn1 1
  go_wp2_with fail
  refine (HT'.out _ (h.below hw1)).mono ?_
  rintro e w2 ⟨g2, rfl, _, hi2, hb2⟩
  have hn2 := pblk_below hb2 hn1
  have hw2 := hw1.trans (hb2.mono hw1.size)
  clear hb2 hn1 hw1 c0 c1
  go_wp2_with fail
  refine (H5'.out _ _ hi2).mono ?_
  rintro e w3 ⟨⟨aw, cw, rfl, ow⟩, hb3⟩
  simp only at ow
  have pw3 := own_parg ow hPs
  have lw3 : ∀ b off, aw = some ⟨b, off, none⟩ → b < w3.heap.size := fun b off e => (own_in ow b off e).2
  have hn3 := pblk_below hb3 hn2
  have hw3 := hw2.trans (hb3.mono hw2.size)
  clear hb3 hn2 hw2 hi2 ow
  have c0 := Lib.cell_of_heap hn3 0
  have c1 := Lib.cell_of_heap hn3 1
  go_wp2_with fail
  refine (HT'.out _ (h.below hw3)).mono ?_
  rintro e w5 ⟨g5, rfl, rx5, hi5, hb5⟩
  have hn5 := pblk_below hb5 hn3
  have pw5 := pw3.below hb5
  have hw5 := hw3.trans (hb5.mono hw3.size)
  have lw5 : ∀ b off, aw = some ⟨b, off, none⟩ → b < g5 := fun b off e => by have := lw3 b off e; have := rx5.ge; omega
  have hga5 : ga < g5 := by have := rx5.ge; have := (Array.getElem?_eq_some_iff.1 hn3).1; omega
  have rx5' := rx5.mono hw3.size
  clear hb5 hn3 hw3 c0 c1 pw3 lw3 rx5
  have al5 : Below w5.heap.size w5 (w5.alloc (.cells #[.int .i64 n, .slice (some ⟨g5, 0, none⟩) ss.length ss.length] 29)) := (Below.refl _ _).alloc (Nat.le_refl _) _
  have hw6 := hw5.trans (al5.mono hw5.size)
  have hn6 := pblk_below al5 hn5
  have pw6 := pw5.below al5
  have hi6 := hi5.below al5
  have rx6 := rx5'.below al5
  have nX := heap_alloc_new w5 (.cells #[.int .i64 n, .slice (some ⟨g5, 0, none⟩) ss.length ss.length] 29)
  have hg5 : g5 < w5.heap.size := rx5'.lt
  obtain ⟨gx, hgx⟩ : ∃ gx, w5.heap.size = gx := ⟨_, rfl⟩
  rw [hgx] at nX hg5
  clear al5 hn5 pw5 hw5 hi5 rx5'
  go_upto_region 13 with fail
  generalize w5.alloc (.cells #[.int .i64 n, .slice (some ⟨g5, 0, none⟩) ss.length ss.length] 29) = W6 at hw6 hn6 pw6 hi6 rx6 nX ⊢
  clear hgx
  have d0 := Lib.cell_of_heap nX 0
  have d1 := Lib.cell_of_heap nX 1
  have hgxl : gx < W6.heap.size := (Array.getElem?_eq_some_iff.1 nX).1
  go_wp2_with fail
  refine (H7'.out _ _ hi6 (keep.out _ _ hK hw6)).mono ?_
  rintro e w7 ⟨⟨ag, cg, rfl, og⟩, hb7⟩
  simp only at og
  have pg7 := own_parg og hPs
  have rg7 := own_prow og
  have lg7 : ∀ b off, ag = some ⟨b, off, none⟩ → W6.heap.size ≤ b := fun b off e => (own_in og b off e).1
  have hn7 := pblk_below hb7 hn6
  have nX7 := pblk_below hb7 nX
  have hi7 := hi6.below hb7
  have pw7 := pw6.below hb7
  have rx7 := rx6.below hb7
  have hw7 := hw6.trans (hb7.mono hw6.size)
  clear hb7 hn6 nX hi6 pw6 rx6 d0 d1 og
  have y : (xc != xc) = false := by simp
  have HE1 := HE.out ag cg aw cw w7 pg7 pw7
  go_upto_region 16 with (first | (go_at_call 8; refine HE1.mono ?_; rintro e w9 ⟨rfl, hb9⟩))
  have hn9 := pblk_below hb9 hn7
  have nX9 := pblk_below hb9 nX7
  have hi9 := hi7.below hb9
  have pw9 := pw7.below hb9
  have pg9 := pg7.below hb9
  have rg9 := rg7.below hb9
  have rx9 := rx7.below hb9
  have hw9 := hw7.trans (hb9.mono hw7.size)
  clear hb9 hn7 nX7 hi7 pw7 pg7 rg7 rx7 hw7 HE1
  have c0 := Lib.cell_of_heap hn9 0
  have c1 := Lib.cell_of_heap hn9 1
  have d0 := Lib.cell_of_heap nX9 0
  have d1 := Lib.cell_of_heap nX9 1
  have hC : Hid (∀ W : World, Below w9.heap.size w9 W → W.cell? ⟨ga, 0, none⟩ = some (.int .i64 n) ∧ W.cell? ⟨ga, 1, none⟩ = some (.slice a ss.length c) ∧ W.cell? ⟨gx, 0, none⟩ = some (.int .i64 n) ∧ W.cell? ⟨gx, 1, none⟩ = some (.slice (some ⟨g5, 0, none⟩) ss.length ss.length)) := fun W hW => ⟨Lib.cell_of_heap (pblk_below hW hn9) 0, Lib.cell_of_heap (pblk_below hW hn9) 1, Lib.cell_of_heap (pblk_below hW nX9) 0, Lib.cell_of_heap (pblk_below hW nX9) 1⟩
  go_region_held3 (fun W => W.cell? ⟨ga, 0, none⟩ = some (.int .i64 n) ∧ W.cell? ⟨ga, 1, none⟩ = some (.slice a ss.length c) ∧ W.cell? ⟨gx, 0, none⟩ = some (.int .i64 n) ∧ W.cell? ⟨gx, 1, none⟩ = some (.slice (some ⟨g5, 0, none⟩) ss.length ss.length)) (first | exact ⟨c0, c1, d0, d1⟩ | exact hC.out _ hx10 | exact hC.out _ hx11) (first | (go_at_call 6; refine (HT'.out _ ((h.below hw9).below (Below.refl w9.heap.size w9).drew)).mono ?_; rintro e w10 ⟨g10, rfl, _, hi10, hb10⟩; have hx10 : Below w9.heap.size w9 w10 := (Below.refl w9.heap.size w9).drew.trans hb10; have hi10' := hi9.below hx10; clear hb10) | (go_at_call 9; refine (HQ.out _ _ _ hi10' hi10).mono ?_; rintro e w11 ⟨rfl, hb11⟩; have hx11 : Below w9.heap.size w9 w11 := hx10.trans (hb11.mono hx10.size)))
  have hw11 := hw9.trans (hx11.mono hw9.size)
  have hn11 := pblk_below hx11 hn9
  have nX11 := pblk_below hx11 nX9
  have pw11 := pw9.below hx11
  have pg11 := pg9.below hx11
  have rg11 := rg9.below hx11
  have rx11 := rx9.below hx11
  clear hn9 nX9 hi9 pw9 pg9 rg9 rx9 hw9 c0 c1 d0 d1 hC hi10 hi10' hb11 hx10 hx11 HQ
  have d0 := Lib.cell_of_heap nX11 0
  have d1 := Lib.cell_of_heap nX11 1
  have HMk := markPool_any M HM w.heap.size g5 ss.length 1 n _ w11 rx11 (Nat.le_refl _) (by omega) hw11.size
  obtain ⟨p, hp⟩ : ∃ p : Nat, 1 + ss.length = p := ⟨_, rfl⟩
  rw [hp] at HMk
  have hgg : Hid (w.heap.size ≤ g5) := rx11.ge
  have zp : decide ((p : Int) < 0) = false := by rw [decide_eq_false_iff_not]; omega
  clear hp rx11
  go_upto_region 20 with (first | (go_at_call 10; refine HMk.mono ?_; rintro e w12 ⟨rfl, hg12⟩))
  have hw12 : Below w.heap.size w w12 := hw11.trans (below_of_grown hg12 hgg.out hw11.size)
  have hn12 := (hg12.block ga (Array.getElem?_eq_some_iff.1 hn11).1 (by intro e; have := Option.some.inj e; omega)).trans hn11
  have pw12 := pw11.grown hg12 (fun b off e _ q => by have := lw5 b off e; have := Option.some.inj q; omega)
  have pg12 := pg11.grown hg12 (fun b off e _ q => by have := lg7 b off e; have := Option.some.inj q; omega)
  have rg12 : PRow w12 W6.heap.size ag P.length cg (flatP P) := by
    rcases rg11 with h0 | ⟨g, e, hr⟩
    · exact .inl h0
    · exact .inr ⟨g, e, hr.kept hg12 (fun q => by have := lg7 g 0 e; have := Option.some.inj q; omega)⟩
  clear hn11 pw11 pg11 rg11 hw11 hg12 HMk nX11 d0 d1
  have HE2 := HE.out ag cg aw cw w12 pg12 pw12
  go_upto_region 23 with (first | (go_at_call 8; refine HE2.mono ?_; rintro e w13 ⟨rfl, hb13⟩))
  have hn13 := pblk_below hb13 hn12
  have pw13 := pw12.below hb13
  have rg13 := rg12.below hb13
  have hw13 := hw12.trans (hb13.mono hw12.size)
  clear hb13 hn12 pw12 pg12 rg12 hw12 HE2
  have HM2 := markP_any M HM W6.heap.size P.length cg 1 ag _ w13 rg13 (Nat.le_refl _) (by omega)
  have HH2 : Hid (∀ w', PRow w' W6.heap.size ag P.length cg (marksV M 1 (P.length * 2)) → Calls Tryz.prog 12 #[.slice ag P.length cg, .int .i64 1] w' fun e w'' => e = .returned (.int .i64 ((1 + P.length * 2 : Nat) : Int)) ∧ Below w'.heap.size w' w'') := fun w' q => heldP_any M HM W6.heap.size P.length cg 1 ag w' q (Nat.le_refl _) (by omega)
  generalize marksV M 1 (P.length * 2) = mV at HM2 HH2
  obtain ⟨m, hm⟩ : ∃ m : Nat, 1 + P.length * 2 = m := ⟨_, rfl⟩
  rw [hm] at HM2 HH2
  have zm : decide ((m : Int) < 0) = false := by rw [decide_eq_false_iff_not]; omega
  have zm2 : ((m : Int) != (m : Int)) = false := by simp
  clear hm
  go_upto_region 24 with (first | (go_at_call 11; refine HM2.mono ?_; rintro e w14 ⟨rfl, rg14, hg14⟩))
  have hrow : ∀ q, (if P.length = 0 then none else (Value.slice ag P.length cg).ownBlock) = some q → W6.heap.size ≤ q := fun q hq => by
    by_cases h0 : P.length = 0
    · rw [if_pos h0] at hq; cases hq
    · rw [if_neg h0] at hq
      cases ag with
      | none => cases hq
      | some x =>
        obtain ⟨b, o, el⟩ := x
        rcases rg13 with h | ⟨g, e, hr⟩
        · exact absurd h h0
        · cases e; cases hq; exact hr.ge
  have hw14 : Below w.heap.size w w14 := hw13.grown hg14 hw13.size (fun q hq => by have := hrow q hq; have := hw6.size; omega)
  have hn14 := (hg14.block ga (Array.getElem?_eq_some_iff.1 hn13).1 (by intro e; have := hrow ga e.symm; omega)).trans hn13
  have pw14 := pw13.grown hg14 (fun b off e _ q => by have := lw5 b off e; have := hrow b q.symm; omega)
  clear hn13 pw13 rg13 hw13 hg14 HM2 hrow
  go_upto_region 30 with (first | (go_at_call 12; refine (HH2.out _ rg14).mono ?_; rintro e w15 ⟨rfl, hb15⟩))
  have hn15 := pblk_below hb15 hn14
  have pw15 := pw14.below hb15
  have hw15 := hw14.trans (hb15.mono hw14.size)
  clear hb15 hn14 pw14 rg14 hw14 HH2
  have c0 := Lib.cell_of_heap hn15 0
  have c1 := Lib.cell_of_heap hn15 1
  go_wp2_with fail
  refine (HT'.out _ (h.below hw15)).mono ?_
  rintro e w16 ⟨g16, rfl, _, hi16, hb16⟩
  have pw16 := pw15.below hb16
  have hw16 := hw15.trans (hb16.mono hw15.size)
  clear hb16 pw15 hw15 c0 c1 hn15
  go_wp2_with fail
  refine (H7'.out _ _ hi16 (keep.out _ _ hK hw16)).mono ?_
  rintro e w17 ⟨⟨ah, ch, rfl, oh⟩, hb17⟩
  simp only at oh
  have ph17 := own_parg oh hPs
  have pw17 := pw16.below hb17
  have hw17 := hw16.trans (hb17.mono hw16.size)
  clear hb17 pw16 hw16 hi16 oh
  have HE3 := HE.out ah ch aw cw w17 ph17 pw17
  go_wp2_with (first | (go_at_call 8; refine HE3.mono ?_; rintro e w18 ⟨rfl, hb18⟩))
  go_ret
  exact ⟨rfl, hw17.trans (hb18.mono hw17.size)⟩
end Go.Proofs.YtdnbhejacpjgfaaGreatDoor
namespace Go.Proofs.YtdnbhejacpjgfaaGreatDoor
open Go.RowKit Go.Proofs.Sha

theorem subsB_any (b : Nat) (hash over under : ByteArray) (par : Option Addr) (k v l r : ByteArray) (pl pr : Option Addr) (w : World) (h : BF b hash over under par k v l r pl pr w) : Calls Tryz.prog 101 #[.pointer (some ⟨b, 0, none⟩)] w fun e w' => e = .returned (.tuple #[.pointer pl, .pointer pr]) ∧ Below w.heap.size w w' := by
  have c8 : w.cell? ⟨b, 8, none⟩ = some (.pointer pl) := Lib.cell_of_heap h 8
  have c9 : w.cell? ⟨b, 9, none⟩ = some (.pointer pr) := Lib.cell_of_heap h 9
  clear h
  go_enter Tryz.func101, Tryz.ntmps101
  go_wp2_with fail
  go_region_held3 (fun W => W.cell? ⟨b, 8, none⟩ = some (.pointer pl) ∧ W.cell? ⟨b, 9, none⟩ = some (.pointer pr)) (exact ⟨c8, c9⟩) (fail)
  go_wp2_with fail
  go_ret2
  exact ⟨rfl, (Below.refl _ _).drew⟩
theorem pairB_any (b : Nat) (hash over under : ByteArray) (par : Option Addr) (k v l r : ByteArray) (pl pr : Option Addr) (w : World) (h : BF b hash over under par k v l r pl pr w) : Calls Tryz.prog 39 #[.pointer (some ⟨b, 0, none⟩)] w fun e w' => e = .returned (.agg #[.string k, .string v]) ∧ Below w.heap.size w w' := by
  have hlt := (Array.getElem?_eq_some_iff.1 h).1
  have hA := (Below.heap_alloc w (.cells #[.string ⟨#[]⟩, .string ⟨#[]⟩] 53) b hlt).trans h
  have c4 : (w.alloc (.cells #[.string ⟨#[]⟩, .string ⟨#[]⟩] 53)).cell? ⟨b, 4, none⟩ = some (.string k) := Lib.cell_of_heap hA 4
  have c5 : (w.alloc (.cells #[.string ⟨#[]⟩, .string ⟨#[]⟩] 53)).cell? ⟨b, 5, none⟩ = some (.string v) := Lib.cell_of_heap hA 5
  have hN := heap_alloc_new w (.cells #[.string ⟨#[]⟩, .string ⟨#[]⟩] 53)
  have hb : Below w.heap.size w (w.alloc (.cells #[.string ⟨#[]⟩, .string ⟨#[]⟩] 53)) := (Below.refl _ _).alloc (Nat.le_refl _) _
  clear h hA
  go_enter Tryz.func39, Tryz.ntmps39
  go_wp2_with fail
  generalize w.alloc (.cells #[.string ⟨#[]⟩, .string ⟨#[]⟩] 53) = W at c4 c5 hN hb ⊢
  obtain ⟨gp, hgp⟩ : ∃ gp, w.heap.size = gp := ⟨_, rfl⟩
  rw [hgp] at hN ⊢
  have hgl : w.heap.size ≤ gp := Nat.le_of_eq hgp
  clear hgp
  have p0 : W.cell? ⟨gp, 0, none⟩ = some (.string ⟨#[]⟩) := Lib.cell_of_heap hN 0
  have p1 : W.cell? ⟨gp, 1, none⟩ = some (.string ⟨#[]⟩) := Lib.cell_of_heap hN 1
  have fp : ∀ j, W.frozen? ⟨gp, j, none⟩ = false := fun j => by rw [World.frozen?, hN]; rfl
  go_region
  have hN2 := heap_setCell_same _ gp 1 _ 53 (.string v) (heap_setCell_same _ gp 0 _ 53 (.string k) hN)
  have hb2 : Below w.heap.size w ((W.setCell ⟨gp, 0, none⟩ (.string k)).setCell ⟨gp, 1, none⟩ (.string v)).drew := ((hb.setCell hgl _).setCell hgl _).drew
  have hN3 : ((W.setCell ⟨gp, 0, none⟩ (.string k)).setCell ⟨gp, 1, none⟩ (.string v)).drew.heap[gp]? = some (.cells #[.string k, .string v] 53) := hN2
  generalize ((W.setCell ⟨gp, 0, none⟩ (.string k)).setCell ⟨gp, 1, none⟩ (.string v)).drew = W2 at hb2 hN3 ⊢
  have q0 : W2.cell? ⟨gp, 0, none⟩ = some (.string k) := Lib.cell_of_heap hN3 0
  have q1 : W2.cell? ⟨gp, 1, none⟩ = some (.string v) := Lib.cell_of_heap hN3 1
  clear c4 c5 p0 p1 fp hN hN2 hN3
  go_wp2_with fail
  exact bodyPost_ret (v := .agg #[.string k, .string v]) (by simp [results, Tryz.results39, go_sem, q0, q1]) rfl ⟨rfl, hb2⟩
theorem goInto_none (lo hi : ByteArray) (w : World) : Calls Tryz.prog 36 #[.agg #[.string lo, .string hi], .pointer none] w fun e w' => e = .returned (.bool false) ∧ Below w.heap.size w w' := by
  have hb : Below w.heap.size w (w.alloc (.cells #[.string lo, .string hi] 50)) := (Below.refl _ _).alloc (Nat.le_refl _) _
  have hN := heap_alloc_new w (.cells #[.string lo, .string hi] 50)
  have n0 : (w.alloc (.cells #[.string lo, .string hi] 50)).cell? ⟨w.heap.size, 0, none⟩ = some (.string lo) := Lib.cell_of_heap hN 0
  have n1 : (w.alloc (.cells #[.string lo, .string hi] 50)).cell? ⟨w.heap.size, 1, none⟩ = some (.string hi) := Lib.cell_of_heap hN 1
  have q : ∀ w', (binOp .neq 68 (.pointer none) (.pointer none)).run Tryz.prog w' = .ok (.bool false) w' := fun w' => by
    have := ptr_eqlB none none w' (.inl rfl) (.inl rfl)
    simp only [binOp] at this ⊢
    cases hq : (Op.equal 68 (.pointer none) (.pointer none)).run Tryz.prog w' <;> simp_all
  clear hN
  go_enter Tryz.func36, Tryz.ntmps36
  go_wp2_with fail
  go_quiet (first | fail)
  go_wp2_with fail
  go_ret
  exact ⟨rfl, draws_below _ hb⟩
theorem goInto_some (lo hi : ByteArray) (b : Nat) (hash over under : ByteArray) (par : Option Addr) (w : World) (h : BR b hash over under par w) : Calls Tryz.prog 36 #[.agg #[.string lo, .string hi], .pointer (some ⟨b, 0, none⟩)] w fun e w' => e = .returned (.bool (canW over under lo hi)) ∧ Below w.heap.size w w' := by
  have hlt := (Array.getElem?_eq_some_iff.1 h).1
  have hA := (Below.heap_alloc w (.cells #[.string lo, .string hi] 50) b hlt).trans h
  have hN := heap_alloc_new w (.cells #[.string lo, .string hi] 50)
  have hb : Below w.heap.size w (w.alloc (.cells #[.string lo, .string hi] 50)) := (Below.refl _ _).alloc (Nat.le_refl _) _
  have hP : Ptr (some ⟨b, 0, none⟩) (w.alloc (.cells #[.string lo, .string hi] 50)) := .inr ⟨b, _, _, rfl, hA⟩
  have HC := fun w' => can_any lo hi over under par w'
  go_enter Tryz.func36, Tryz.ntmps36
  go_wp2_with fail
  generalize w.alloc (.cells #[.string lo, .string hi] 50) = W at hA hN hb hP ⊢
  obtain ⟨ga, hga⟩ : ∃ ga, w.heap.size = ga := ⟨_, rfl⟩
  rw [hga] at hN ⊢
  have c1 : W.cell? ⟨b, 1, none⟩ = some (.string over) := Lib.cell_of_heap hA 1
  have c2 : W.cell? ⟨b, 2, none⟩ = some (.string under) := Lib.cell_of_heap hA 2
  have c3 : W.cell? ⟨b, 3, none⟩ = some (.pointer par) := Lib.cell_of_heap hA 3
  have n0 : W.cell? ⟨ga, 0, none⟩ = some (.string lo) := Lib.cell_of_heap hN 0
  have n1 : W.cell? ⟨ga, 1, none⟩ = some (.string hi) := Lib.cell_of_heap hN 1
  have q : (binOp .neq 68 (.pointer (some ⟨b, 0, none⟩)) (.pointer none)).run Tryz.prog W = .ok (.bool true) W := by
    have := ptr_eqlB (some ⟨b, 0, none⟩) none W hP (.inl rfl)
    simp only [binOp] at this ⊢
    cases hq : (Op.equal 68 (.pointer (some ⟨b, 0, none⟩)) (.pointer none)).run Tryz.prog W <;> simp_all
  have q2 : (binOp .neq 68 (.pointer (some ⟨b, 0, none⟩)) (.pointer none)).run Tryz.prog W.drew = .ok (.bool true) W.drew := by
    have hP2 : Ptr (some ⟨b, 0, none⟩) W.drew := .inr ⟨b, _, _, rfl, hA⟩
    have := ptr_eqlB (some ⟨b, 0, none⟩) none W.drew hP2 (.inl rfl)
    simp only [binOp] at this ⊢
    cases hq : (Op.equal 68 (.pointer (some ⟨b, 0, none⟩)) (.pointer none)).run Tryz.prog W.drew <;> simp_all
  clear hP hga h
  go_region_held3 (fun W => W.cell? ⟨b, 1, none⟩ = some (.string over) ∧ W.cell? ⟨b, 2, none⟩ = some (.string under) ∧ W.cell? ⟨b, 3, none⟩ = some (.pointer par) ∧ W.cell? ⟨ga, 0, none⟩ = some (.string lo) ∧ W.cell? ⟨ga, 1, none⟩ = some (.string hi)) (first | exact ⟨c1, c2, c3, n0, n1⟩ | exact ⟨Lib.cell_of_heap hA2 1, Lib.cell_of_heap hA2 2, Lib.cell_of_heap hA2 3, Lib.cell_of_heap hN2 0, Lib.cell_of_heap hN2 1⟩) (first | (go_at_call 49; refine (HC _).mono ?_; rintro e w2 ⟨rfl, hb2⟩; have hA2 := (hb2.block b (Array.getElem?_eq_some_iff.1 hA).1).trans hA; have hN2 := (hb2.block ga (Array.getElem?_eq_some_iff.1 hN).1).trans hN))
  go_wp2_with fail
  go_ret
  exact ⟨rfl, hb.trans (((Below.refl W.heap.size W).drew.trans hb2).mono hb.size)⟩
end Go.Proofs.YtdnbhejacpjgfaaGreatDoor
namespace Go.Proofs.YtdnbhejacpjgfaaGreatDoor
open Go.RowKit Go.Proofs.Sha

/-- A row of pairs. -/
def Is53 (k : Nat) (w : World) : Prop := ∃ cur t, w.heap[k]? = some (.cells cur 53 t)
/-- What may have turned: the blocks of 'N', rows of pairs from 'base' on, and what is new. -/
structure Fr (base : Nat) (N : Nat → Prop) (w w' : World) : Prop where
  os : w'.os = w.os
  tape : w'.tape = w.tape
  output : w'.output = w.output
  size : w.heap.size ≤ w'.heap.size
  block : ∀ k, k < w.heap.size → ¬ N k → ¬ (base ≤ k ∧ Is53 k w) → w'.heap[k]? = w.heap[k]?
section
variable {base : Nat} {N N' : Nat → Prop} {w w' w1 w2 : World}
theorem Fr.refl (base : Nat) (N : Nat → Prop) (w : World) : Fr base N w w := ⟨rfl, rfl, rfl, Nat.le_refl _, fun _ _ _ _ => rfl⟩
theorem Fr.trans (h : Fr base N w w1) (k : Fr base N' w1 w2) (hN : ∀ q, q < w.heap.size → N' q → N q) : Fr base N w w2 := by
  refine ⟨k.os.trans h.os, k.tape.trans h.tape, k.output.trans h.output, Nat.le_trans h.size k.size, fun q hq h1 h2 => ?_⟩
  have e := h.block q hq h1 h2
  refine (k.block q (Nat.lt_of_lt_of_le hq h.size) (fun x => h1 (hN q hq x)) (fun x => h2 ⟨x.1, ?_⟩)).trans e
  obtain ⟨cur, t, hx⟩ := x.2
  exact ⟨cur, t, e.symm.trans hx⟩
theorem Fr.mono (h : Fr base N w w1) (hN : ∀ q, q < w.heap.size → N q → N' q) : Fr base N' w w1 := ⟨h.os, h.tape, h.output, h.size, fun q hq h1 h2 => h.block q hq (fun x => h1 (hN q hq x)) h2⟩
theorem Fr.of_below (h : Below w.heap.size w w1) : Fr base N w w1 := ⟨h.os, h.tape, h.output, h.size, fun q hq _ _ => h.block q hq⟩
theorem Fr.of_grown {v : Value} {m : Nat} {xs : List Value} (h : w.grownBy w1 v.ownBlock) (ho : w.ownsRow base 53 2 v m xs) : Fr base N w w1 :=
  ⟨h.os, h.tape, h.output, h.size, fun q hq _ h2 => h.block q hq (fun e => h2 (by obtain ⟨e1, _, cur, e3⟩ := own2_cells ho e.symm; exact ⟨e1, cur, _, e3⟩))⟩
theorem Fr.setCell (h : Fr base N w w1) (g o : Nat) (v : Value) (hg : N g ∨ w.heap.size ≤ g) : Fr base N w (w1.setCell ⟨g, o, none⟩ v) := by
  have hb : Below g w1 (w1.setCell ⟨g, o, none⟩ v) := Below.setCell (p := ⟨g, o, none⟩) (Below.refl g w1) (Nat.le_refl g) v
  refine ⟨hb.os.trans h.os, hb.tape.trans h.tape, hb.output.trans h.output, Nat.le_trans h.size hb.size, fun q hq h1 h2 => ?_⟩
  rw [Below.heap_setCell _ _ _ _ (by show q ≠ g; intro e; subst e; rcases hg with hg | hg; exact h1 hg; omega)]
  exact h.block q hq h1 h2
theorem Fr.drew (h : Fr base N w w1) : Fr base N w w1.drew := ⟨h.os, h.tape, h.output, h.size, h.block⟩
theorem Fr.keep {q : Nat} {cs : Array Value} {t : TypeId} {z : Nat × Nat} (h : Fr base N w w1) (hq : w.heap[q]? = some (.cells cs t z)) (h1 : ¬ N q) (ht : t ≠ 53 ∨ q < base) : w1.heap[q]? = some (.cells cs t z) := by
  refine (h.block q (Array.getElem?_eq_some_iff.1 hq).1 h1 ?_).trans hq
  rintro ⟨h2, cur, z', h3⟩
  rw [hq] at h3
  rcases ht with ht | ht
  · simp only [Option.some.injEq, Obj.cells.injEq] at h3
    exact ht h3.2.1
  · omega
end
/-- The list that is put together, in the variable that is captured. -/
structure LS (c base : Nat) (ps : List PairT) (a : Option Addr) (cap : Nat) (w : World) : Prop where
  blk : w.heap[c]? = some (.cells #[.slice a ps.length cap] 26)
  own : w.ownsRow base 53 2 (.slice a ps.length cap) ps.length (flatP ps)
  hb : base ≤ w.heap.size
theorem LS.below {c base : Nat} {ps : List PairT} {a : Option Addr} {cap : Nat} {w w' : World} (h : LS c base ps a cap w) (hb : Below w.heap.size w w') : LS c base ps a cap w' :=
  ⟨(hb.block c (Array.getElem?_eq_some_iff.1 h.blk).1).trans h.blk, own2_kept h.own (fun g _ hg => hb.block g hg), Nat.le_trans h.hb hb.size⟩
end Go.Proofs.YtdnbhejacpjgfaaGreatDoor
