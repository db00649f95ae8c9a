import Derived.Test.YtmoajibmbppkjaeGreatDoorZbc
import Derived.Test.YtmoajibmbppkjaeGreatDoorZai
import Derived.Test.YtmoajibmbppkjaeGreatDoorZaj
import Derived.Test.YtmoajibmbppkjaeGreatDoorZba
namespace Go.Proofs.YtmoajibmbppkjaeGreatDoor
open Go.RowKit Go.Proofs.Sha

theorem go_all (fnd : ByteArray → FN) (wd : Nat) (hfo : FndOk wd fnd) (a : Option Addr) (n c g c' : Nat) (lo hi : ByteArray) (hlo : lo.size ≤ 1048576) (hhi : hi.size ≤ 1048576) (w0 : World)
    (HF : Hid (∀ (w' : World) (hash : ByteArray), Below w0.heap.size w0 w' → Calls Tryz.prog 149 #[.agg #[.int .i64 (wd : Int), .slice a n c], .slice (some ⟨g, 0, none⟩) n c', .string hash] w' fun e w'' => e = .returned (nodeT (fnd hash)) ∧ Below w'.heap.size w' w'')) :
    ∀ (f : Nat) (hash over under par : ByteArray) (cnt : Nat) (w : World), 500 < cnt + f → cnt ≤ 500 → Below w0.heap.size w0 w → over.size ≤ 1048576 → under.size ≤ 1048576 → par.size ≤ 1048576 →
    Calls Tryz.prog 107 #[.agg #[.int .i64 (wd : Int), .slice a n c], .slice (some ⟨g, 0, none⟩) n c', .string hash, .string par, .agg #[.string over, .string under], .string lo, .string hi, .int .i64 (cnt : Int)] w (GoPost (goF fnd hgW lo hi f hash over under par cnt) w)
  | 0, _, _, _, _, cnt, _, h, hc, _, _, _, _ => by omega
  | f + 1, hash, over, under, par, cnt, w, h, hc, hw, ho, hu, hp =>
    go_step fnd wd hfo a n c g c' lo hi hlo hhi w0 HF f hash over under par cnt (fun hash over under par cnt' w' h1 h2 hb ho hu hp => go_all fnd wd hfo a n c g c' lo hi hlo hhi w0 HF f hash over under par cnt' w' (by omega) h2 hb ho hu hp) w hw hc ho hu hp
/-- What a pool's look-up answers. -/
def fndD (D : Dec) (wd : Nat) (ss : List ByteArray) (hash : ByteArray) : FN := foundR D ss (firstI (hitB wd ss hash) ss.length)
/-- What is decoded is a node. -/
def DecOk (wd : Nat) (D : Dec) : Prop := ∀ s, D.ok s = true → okKey (D.k s) = true ∧ okVal (D.v s) = true ∧ ((D.l s).size = 0 ∨ (D.l s).size = wd) ∧ ((D.r s).size = 0 ∨ (D.r s).size = wd)
theorem fndD_ok (D : Dec) (wd : Nat) (ss : List ByteArray) (h : DecOk wd D) : FndOk wd (fndD D wd ss) := by
  have key : ∀ o, ((foundR D ss o).2 = 0 ∨ (foundR D ss o).2 = 2 ∨ (foundR D ss o).2 = 3) ∧ ((foundR D ss o).2 = 0 → okKey (foundR D ss o).1.1 = true ∧ okVal (foundR D ss o).1.2.1 = true ∧ ((foundR D ss o).1.2.2.1.size = 0 ∨ (foundR D ss o).1.2.2.1.size = wd) ∧ ((foundR D ss o).1.2.2.2.size = 0 ∨ (foundR D ss o).1.2.2.2.size = wd)) := by
    intro o
    cases o with
    | none =>
      rw [show foundR D ss none = ((⟨#[]⟩, ⟨#[]⟩, ⟨#[]⟩, ⟨#[]⟩), 2) from rfl]
      exact ⟨.inr (.inl rfl), fun e => absurd e (by decide)⟩
    | some i =>
      by_cases q : D.ok (ss.getD i ⟨#[]⟩) = true
      · rw [show foundR D ss (some i) = _ from if_pos q]
        exact ⟨.inl rfl, fun _ => h _ q⟩
      · rw [show foundR D ss (some i) = _ from if_neg q]
        exact ⟨.inr (.inr rfl), fun e => absurd e (by decide)⟩
  exact ⟨fun hash => (key _).1, fun hash => (key _).2⟩
/-- A range of a pool's tree: the pairs, the code. -/
def rangeM (fnd : ByteArray → FN) (n : Int) (m : Nat) (root lo hi : ByteArray) : List PairT × Int :=
  if (poolOk n m && hashOk root.size n) = true then
    if (goF fnd hgW lo hi 501 root ⟨#[]⟩ ⟨#[]⟩ ⟨#[]⟩ 0).1 = 0 then ((goF fnd hgW lo hi 501 root ⟨#[]⟩ ⟨#[]⟩ ⟨#[]⟩ 0).2.2, 0) else ([], (goF fnd hgW lo hi 501 root ⟨#[]⟩ ⟨#[]⟩ ⟨#[]⟩ 0).1)
  else ([], 1)
theorem rangeM_bad {fnd : ByteArray → FN} {n : Int} {m : Nat} {root lo hi : ByteArray} (h : (poolOk n m && hashOk root.size n) = false) : rangeM fnd n m root lo hi = ([], 1) := by unfold rangeM; rw [if_neg (by rw [h]; decide)]
theorem rangeM_ok {fnd : ByteArray → FN} {n : Int} {m : Nat} {root lo hi : ByteArray} (h : (poolOk n m && hashOk root.size n) = true) {R : Int × Nat × List PairT} (hR : goF fnd hgW lo hi 501 root ⟨#[]⟩ ⟨#[]⟩ ⟨#[]⟩ 0 = R) : rangeM fnd n m root lo hi = if R.1 = 0 then (R.2.2, 0) else ([], R.1) := by unfold rangeM; rw [if_pos h, hR]
/-- What a range answers: the row is the call's own. -/
def RangeAt (X : List PairT × Int) (w : World) (e : Ending) (w' : World) : Prop :=
  (∃ a c, e = .returned (.tuple #[.slice a X.1.length c, .int .i64 X.2]) ∧ w'.ownsRow w.heap.size 46 2 (.slice a X.1.length c) X.1.length (flatP X.1)) ∧ Below w.heap.size w w'

/-- The blocks that the model's Range has of its own. -/
structure SR (w : World) (ga gz : Nat) (n : Int) (a : Option Addr) (m c : Nat) (W : World) : Prop where
  sz : w.heap.size = ga
  o1 : ga < gz
  bl : Below w.heap.size w W
  na : W.heap[ga]? = some (.cells #[.int .i64 n, .slice a m c] 29)
  nz : W.heap[gz]? = some (.cells #[] 46)
section
variable {w : World} {ga gz : Nat} {n : Int} {a : Option Addr} {m c : Nat} {W W' : World}
theorem SR.mk0 (w : World) (n : Int) (a : Option Addr) (m c : Nat) : SR w w.heap.size (w.heap.size + 1) n a m c ((w.alloc (.cells #[.int .i64 n, .slice a m c] 29)).alloc (.cells #[] 46)) := by
  have e2 := heap_alloc_new (w.alloc (.cells #[.int .i64 n, .slice a m c] 29)) (.cells #[] 46)
  rw [World.size_alloc] at e2
  exact ⟨rfl, Nat.lt_succ_self _, ((Below.refl _ _).alloc (Nat.le_refl _) _).alloc (by simp) _, by rw [Below.heap_alloc _ _ _ (by simp)]; exact heap_alloc_new w _, e2⟩
theorem SR.lt (h : SR w ga gz n a m c W) : gz < W.heap.size := (Array.getElem?_eq_some_iff.1 h.nz).1
theorem SR.below (h : SR w ga gz n a m c W) (hb : Below W.heap.size W W') : SR w ga gz n a m c W' :=
  ⟨h.sz, h.o1, h.bl.trans (hb.mono h.bl.size), (hb.block _ (Nat.lt_trans h.o1 h.lt)).trans h.na, (hb.block _ h.lt).trans h.nz⟩
theorem SR.nil (h : SR w ga gz n a m c W) (i : Int) : RangeAt ([], i) w (.returned (.tuple #[.slice (some ⟨gz, 0, none⟩) 0 0, .int .i64 i])) W := by
  have h1 := h.sz
  have h2 := h.o1
  exact ⟨⟨some ⟨gz, 0, none⟩, 0, rfl, own2_nil (by omega) h.nz⟩, h.bl⟩
theorem SR.set3 (h : SR w ga gz n a m c W) {gw : Nat} (hg : gz < gw) (x y z : Value) : SR w ga gz n a m c (((W.setCell ⟨gw, 0, none⟩ x).setCell ⟨gw, 1, none⟩ y).setCell ⟨gw, 2, none⟩ z) := by
  have h1 := h.sz
  have h2 := h.o1
  have hb : w.heap.size ≤ gw := by omega
  refine ⟨h.sz, h.o1, ((h.bl.setCell hb _).setCell hb _).setCell hb _, ?_, ?_⟩
  · rw [Below.heap_setCell _ _ _ _ (by show ga ≠ gw; omega), Below.heap_setCell _ _ _ _ (by show ga ≠ gw; omega), Below.heap_setCell _ _ _ _ (by show ga ≠ gw; omega)]; exact h.na
  · rw [Below.heap_setCell _ _ _ _ (by show gz ≠ gw; omega), Below.heap_setCell _ _ _ _ (by show gz ≠ gw; omega), Below.heap_setCell _ _ _ _ (by show gz ≠ gw; omega)]; exact h.nz
/-- A walk's answer in its block. -/
def WB (gw : Nat) (x y z : Value) (W : World) : Prop := W.heap[gw]? = some (.cells #[x, y, z] 146)
theorem WB.below {gw : Nat} {x y z : Value} (h : WB gw x y z W) (hb : Below W.heap.size W W') : WB gw x y z W' := (hb.block _ (Array.getElem?_eq_some_iff.1 h).1).trans h
theorem WB.set3 {gw : Nat} {x y z : Value} (h : WB gw x y z W) (x' y' z' : Value) : WB gw x' y' z' (((W.setCell ⟨gw, 0, none⟩ x').setCell ⟨gw, 1, none⟩ y').setCell ⟨gw, 2, none⟩ z') := heap_setCell_same _ gw 2 _ 146 _ (heap_setCell_same _ gw 1 _ 146 _ (heap_setCell_same _ gw 0 _ 146 _ h))
theorem WB.at {gw : Nat} {x y z : Value} (h : WB gw x y z W) : W.cell? ⟨gw, 0, none⟩ = some x ∧ W.cell? ⟨gw, 1, none⟩ = some y ∧ W.cell? ⟨gw, 2, none⟩ = some z ∧ W.frozen? ⟨gw, 0, none⟩ = false ∧ W.frozen? ⟨gw, 1, none⟩ = false ∧ W.frozen? ⟨gw, 2, none⟩ = false :=
  ⟨Lib.cell_of_heap h 0, Lib.cell_of_heap h 1, Lib.cell_of_heap h 2, by rw [World.frozen?, h]; rfl, by rw [World.frozen?, h]; rfl, by rw [World.frozen?, h]; rfl⟩
end

set_option maxRecDepth 100000 in
set_option maxHeartbeats 2000000 in
theorem srange_bad (n : Int) (a : Option Addr) (m c : Nat) (root lo hi : ByteArray) (w : World) (hm : m ≤ 1048576) (hr : root.size ≤ 1048576) (h : (poolOk n m && hashOk root.size n) = false) :
    Calls Tryz.prog 49 #[.agg #[.int .i64 n, .slice a m c], .string root, .string lo, .string hi] w (RangeAt ([], 1) w) := by
  have HP := fun w' => poolOk_any n a m c w' hm
  have HH := fun w' => hashOk_any root n w' hr
  have hS := SR.mk0 w n a m c
  cases h1 : poolOk n m with
  | false =>
    rw [h1] at HP
    clear h h1
    go_enter Tryz.func49, Tryz.ntmps49
    go_upto_region 2 with fail
    generalize (w.alloc (.cells #[.int .i64 n, .slice a m c] 29)).alloc (.cells #[] 46) = W at hS ⊢
    obtain ⟨gz, hgz⟩ : ∃ x, w.heap.size + 1 = x := ⟨_, rfl⟩
    rw [hgz] at hS ⊢
    obtain ⟨ga, hga⟩ : ∃ x, w.heap.size = x := ⟨_, rfl⟩
    rw [show SR w w.heap.size = SR w ga by rw [hga]] at hS
    rw [hga]
    clear hga hgz
    have k0 := Lib.cell_of_heap hS.na 0
    have k1 := Lib.cell_of_heap hS.na 1
    go_wp2_with (first | (go_at_call 100; refine (HP _).mono ?_; rintro e w1 ⟨rfl, hb1⟩; have hS1 := hS.below hb1; have k0 := Lib.cell_of_heap hS1.na 0; have k1 := Lib.cell_of_heap hS1.na 1) | (go_at_call 106; refine (HH _).mono ?_; rintro e w2 ⟨rfl, rfl⟩))
    go_ret2
    exact hS1.nil 1
  | true =>
    have h2 : hashOk root.size n = false := by rw [h1] at h; exact h
    rw [h1] at HP
    rw [h2] at HH
    clear h h1 h2
    go_enter Tryz.func49, Tryz.ntmps49
    go_upto_region 2 with fail
    generalize (w.alloc (.cells #[.int .i64 n, .slice a m c] 29)).alloc (.cells #[] 46) = W at hS ⊢
    obtain ⟨gz, hgz⟩ : ∃ x, w.heap.size + 1 = x := ⟨_, rfl⟩
    rw [hgz] at hS ⊢
    obtain ⟨ga, hga⟩ : ∃ x, w.heap.size = x := ⟨_, rfl⟩
    rw [show SR w w.heap.size = SR w ga by rw [hga]] at hS
    rw [hga]
    clear hga hgz
    have k0 := Lib.cell_of_heap hS.na 0
    have k1 := Lib.cell_of_heap hS.na 1
    go_wp2_with (first | (go_at_call 100; refine (HP _).mono ?_; rintro e w1 ⟨rfl, hb1⟩; have hS1 := hS.below hb1; have k0 := Lib.cell_of_heap hS1.na 0; have k1 := Lib.cell_of_heap hS1.na 1) | (go_at_call 106; refine (HH _).mono ?_; rintro e w2 ⟨rfl, rfl⟩))
    go_ret2
    exact hS1.nil 1
end Go.Proofs.YtmoajibmbppkjaeGreatDoor
namespace Go.Proofs.YtmoajibmbppkjaeGreatDoor
open Go.RowKit Go.Proofs.Sha

set_option maxRecDepth 100000 in
set_option maxHeartbeats 1000000 in
theorem toPool_row (n : Int) (a : Option Addr) (ss : List ByteArray) (c : Nat) (w : World) (h : SArg a ss w) :
    Calls Tryz.prog 11 #[.agg #[.int .i64 n, .slice a ss.length c]] w fun e w' => ∃ g, e = .returned (.agg #[.int .i64 n, .slice (some ⟨g, 0, none⟩) ss.length ss.length]) ∧ Row w' w.heap.size g ss.length ss.length (ss.map Value.string) ∧ Below w.heap.size w w' := by
  have HT : Hid (∀ w', SArg a ss w' → Calls Tryz.prog 50 #[.slice a ss.length c] w' fun e w'' => ∃ g, e = .returned (.slice (some ⟨g, 0, none⟩) ss.length ss.length) ∧ Row w'' w'.heap.size g ss.length ss.length (ss.map Value.string) ∧ Below w'.heap.size w' w'') := fun w' h' => toStringS_any a ss c w' h'
  go_enter Tryz.func11, Tryz.ntmps11
  obtain ⟨o1, ho1⟩ : ∃ o : Obj, .cells #[.int .i64 n, .slice a ss.length c] 24 = o := ⟨_, rfl⟩
  have hW : Below w.heap.size w (((w.alloc o1).alloc (.cells #[.int .i64 0, .slice none 0 0] 29)).alloc (.cells #[.int .i64 n, .slice none 0 0] 29)) := ((((Below.refl _ w).alloc (Nat.le_refl _) _).alloc (by simp) _).alloc (by simp; omega) _)
  have m2 := heap_alloc_new ((w.alloc o1).alloc (.cells #[.int .i64 0, .slice none 0 0] 29)) (.cells #[.int .i64 n, .slice none 0 0] 29)
  have m1 := pblk_below ((Below.refl _ _).alloc (Nat.le_refl _) (.cells #[.int .i64 n, .slice none 0 0] 29)) (heap_alloc_new (w.alloc o1) (.cells #[.int .i64 0, .slice none 0 0] 29))
  have hsz3 : (((w.alloc o1).alloc (.cells #[.int .i64 0, .slice none 0 0] 29)).alloc (.cells #[.int .i64 n, .slice none 0 0] 29)).heap.size = w.heap.size + 3 := by simp
  rw [World.size_alloc] at m1
  rw [World.size_alloc, World.size_alloc] at m2
  subst ho1
  go_wp2_with fail
  refine (HT.out _ (h.below hW)).mono ?_
  rintro e w1 ⟨g, rfl, hrow, hb1⟩
  have n1 := pblk_below hb1 m1
  have n2 := pblk_below hb1 m2
  have hge := hrow.ge
  have hB1 := hW.trans (hb1.mono hW.size)
  rw [hsz3] at hge
  replace hrow := hrow.mono (show w.heap.size ≤ _ by rw [hsz3]; omega)
  clear hb1 m1 m2 hW hsz3
  obtain ⟨g1, hg1⟩ : ∃ g1, w.heap.size + 1 = g1 := ⟨_, rfl⟩
  obtain ⟨g2, hg2⟩ : ∃ g2, w.heap.size + 1 + 1 = g2 := ⟨_, rfl⟩
  rw [hg1] at n1
  rw [hg2] at n2
  rw [hg2, hg1]
  have hle1 : w.heap.size ≤ g1 := by omega
  have hle2 : w.heap.size ≤ g2 := by omega
  have hne1 : g1 ≠ g := by omega
  have hne2 : g2 ≠ g := by omega
  have hne : g2 ≠ g1 := by omega
  clear hge hg1 hg2
  have c0 := Lib.cell_of_heap n2 0
  have c1 := Lib.cell_of_heap n2 1
  have fr2 : ∀ j, w1.frozen? ⟨g2, j, none⟩ = false := fun j => by rw [World.frozen?, n2]; rfl
  have f1 := fr2 1
  obtain ⟨W, hWW⟩ : ∃ W, w1.setCell ⟨g2, 1, none⟩ (.slice (some ⟨g, 0, none⟩) ss.length ss.length) = W := ⟨_, rfl⟩
  have p2 : W.heap[g2]? = some (.cells #[.int .i64 n, .slice (some ⟨g, 0, none⟩) ss.length ss.length] 29) := by rw [← hWW]; exact heap_setCell_same _ g2 1 _ 29 _ n2
  have p1 : W.heap[g1]? = some (.cells #[.int .i64 0, .slice none 0 0] 29) := by
    rw [← hWW]
    exact ((grownBy_setCell _ _ _ _).block g1 (Array.getElem?_eq_some_iff.1 n1).1 (fun e => hne (Option.some.inj e).symm)).trans n1
  have hrW : Row W w.heap.size g ss.length ss.length (ss.map Value.string) := by rw [← hWW]; exact hrow.kept (grownBy_setCell _ _ _ _) (fun e => hne2 (Option.some.inj e).symm)
  have hBW : Below w.heap.size w W := by rw [← hWW]; exact hB1.setCell hle2 _
  go_upto_region 4 with fail
  clear hWW n1 n2 c0 c1 f1 fr2 hrow hB1
  have c0 := Lib.cell_of_heap p2 0
  have c1 := Lib.cell_of_heap p2 1
  have e0 := Lib.cell_of_heap p1 0
  have e1 := Lib.cell_of_heap p1 1
  have fr1 : ∀ j, W.frozen? ⟨g1, j, none⟩ = false := fun j => by rw [World.frozen?, p1]; rfl
  have f0 := fr1 0
  have f1 := fr1 1
  go_wp2_with fail
  have q1 := heap_setCell_same _ g1 1 _ 29 (.slice (some ⟨g, 0, none⟩) ss.length ss.length) (heap_setCell_same _ g1 0 _ 29 (.int .i64 n) p1)
  refine retP Tryz.results11 rfl rfl q1 ⟨g, rfl, (hrW.kept (grownBy_setCell _ _ _ _) (fun e => hne1 (Option.some.inj e).symm)).kept (grownBy_setCell _ _ _ _) (fun e => hne1 (Option.some.inj e).symm), (hBW.setCell hle1 _).setCell hle1 _⟩
theorem PArg.grown {a : Option Addr} {ps : List PairT} {w w' : World} {row : Option Nat} (h : PArg a ps w) (hg : w.grownBy w' row) (hn : ∀ b off, a = some ⟨b, off, none⟩ → 0 < ps.length → some b ≠ row) : PArg a ps w' := by
  refine ⟨h.le, h.sz, fun h0 => ?_⟩
  obtain ⟨b, off, ha, hlt, hc⟩ := h.at_ h0
  have hne := hn b off ha h0
  exact ⟨b, off, ha, Nat.lt_of_lt_of_le hlt hg.size, fun j hj => ⟨(hg.cell_far ⟨b, off + j * 2, none⟩ hlt hne).trans (hc j hj).1, (hg.cell_far ⟨b, off + j * 2 + 1, none⟩ hlt hne).trans (hc j hj).2⟩⟩
theorem own_parg {w : World} {base c : Nat} {a : Option Addr} {ps : List PairT} (h : w.ownsRow base 46 2 (.slice a ps.length c) ps.length (flatP ps)) (hs : SmallP ps) : PArg a ps w := by
  rcases own_prow h with h0 | ⟨g, rfl, hr⟩
  · exact ⟨hs.1, hs.2, fun q => by omega⟩
  · exact Row.parg hr hs
theorem own_in {w : World} {base n c : Nat} {a : Option Addr} {xs : List Value} (h : w.ownsRow base 46 2 (.slice a n c) n xs) (b off : Nat) (e : a = some ⟨b, off, none⟩) : base ≤ b ∧ b < w.heap.size := by
  obtain ⟨q1, q2, _⟩ := own2_cells h (g := b) (by rw [e]; rfl)
  exact ⟨q1, q2⟩
set_option maxRecDepth 100000 in
theorem markPool_any (M : Nat → ByteArray) (HM : Hid (MarkSaid M)) (base g m k0 : Nat) (n : Int) (xs : List Value) (w : World) (h : Row w base g m m xs) (h1 : 1 ≤ k0) (h2 : k0 + m ≤ 4000000) (hb : base ≤ w.heap.size) :
    Calls Tryz.prog 15 #[.agg #[.int .i64 n, .slice (some ⟨g, 0, none⟩) m m], .int .i64 (k0 : Int)] w fun e w' => e = .returned (.int .i64 ((k0 + m : Nat) : Int)) ∧ w.grownBy w' (some g) := by
  have HR := fun w' h' hb' => mark_row M HM base g m m k0 xs w' h' h1 h2 hb'
  have hA : Below w.heap.size w (w.alloc (.cells #[.int .i64 n, .slice (some ⟨g, 0, none⟩) m m] 29)) := (Below.refl _ _).alloc (Nat.le_refl _) _
  have HR2 : Hid (Calls Tryz.prog 56 #[.slice (some ⟨g, 0, none⟩) m m, .int .i64 (k0 : Int)] (w.alloc (.cells #[.int .i64 n, .slice (some ⟨g, 0, none⟩) m m] 29)) fun e w' => e = .returned (.int .i64 ((k0 + m : Nat) : Int)) ∧ w.grownBy w' (some g)) := by
    refine (HR _ (h.below hA) (Nat.le_trans hb hA.size)).mono ?_
    rintro e w' ⟨rfl, _, hg⟩
    exact ⟨rfl, grownBy_trans (grownBy_of_below hA _) hg⟩
  obtain ⟨z, hz⟩ : ∃ z : Int, ((k0 + m : Nat) : Int) = z := ⟨_, rfl⟩
  rw [hz] at HR2 ⊢
  clear HR hz
  go_enter Tryz.func15, Tryz.ntmps15
  go_wp2_with (first | (go_at_call 56; refine HR2.out.mono ?_; rintro e w2 ⟨rfl, hg2⟩))
  go_ret
  exact ⟨rfl, hg2⟩
end Go.Proofs.YtmoajibmbppkjaeGreatDoor
namespace Go.Proofs.YtmoajibmbppkjaeGreatDoor
open Go.RowKit Go.Proofs.Sha

end Go.Proofs.YtmoajibmbppkjaeGreatDoor
