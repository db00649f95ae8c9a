import Derived.Test.YtibjhkpgaaapaaaGreatDoorZkbp
import Derived.Test.YtibjhkpgaaapaaaGreatDoorZkbo
import Derived.Test.YtibjhkpgaaapaaaGreatDoorZkaf
import Derived.Test.YtibjhkpgaaapaaaGreatDoorZkbn
import Derived.Test.YtibjhkpgaaapaaaGreatDoorZkbk
namespace Go.Proofs.YtibjhkpgaaapaaaGreatDoor
open Go.RowKit Go.Proofs.Sha

theorem go_all (fnd : ByteArray → FN) (wd : Nat) (hfo : FndOk wd fnd) (a : Option Addr) (n c g c' : Nat) (lo hi : ByteArray) (hlo : lo.size ≤ 1048576) (hhi : hi.size ≤ 1048576) (w0 : World)
    (HF : Hid (∀ (w' : World) (hash : ByteArray), Below w0.heap.size w0 w' → Calls Tryz.prog 107 #[.agg #[.int .i64 (wd : Int), .slice a n c], .slice (some ⟨g, 0, none⟩) n c', .string hash] w' fun e w'' => e = .returned (nodeT (fnd hash)) ∧ Below w'.heap.size w' w'')) :
    ∀ (f : Nat) (hash over under par : ByteArray) (cnt : Nat) (w : World), 500 < cnt + f → cnt ≤ 500 → Below w0.heap.size w0 w → over.size ≤ 1048576 → under.size ≤ 1048576 → par.size ≤ 1048576 →
    Calls Tryz.prog 105 #[.agg #[.int .i64 (wd : Int), .slice a n c], .slice (some ⟨g, 0, none⟩) n c', .string hash, .string par, .agg #[.string over, .string under], .string lo, .string hi, .int .i64 (cnt : Int)] w (GoPost (goF fnd hgW lo hi f hash over under par cnt) w)
  | 0, _, _, _, _, cnt, _, h, hc, _, _, _, _ => by omega
  | f + 1, hash, over, under, par, cnt, w, h, hc, hw, ho, hu, hp =>
    go_step fnd wd hfo a n c g c' lo hi hlo hhi w0 HF f hash over under par cnt (fun hash over under par cnt' w' h1 h2 hb ho hu hp => go_all fnd wd hfo a n c g c' lo hi hlo hhi w0 HF f hash over under par cnt' w' (by omega) h2 hb ho hu hp) w hw hc ho hu hp
/-- What a pool's look-up answers. -/
def fndD (D : Dec) (wd : Nat) (ss : List ByteArray) (hash : ByteArray) : FN := foundR D ss (firstI (hitB wd ss hash) ss.length)
/-- What is decoded is a node. -/
def DecOk (wd : Nat) (D : Dec) : Prop := ∀ s, D.ok s = true → okKey (D.k s) = true ∧ okVal (D.v s) = true ∧ ((D.l s).size = 0 ∨ (D.l s).size = wd) ∧ ((D.r s).size = 0 ∨ (D.r s).size = wd)
theorem fndD_ok (D : Dec) (wd : Nat) (ss : List ByteArray) (h : DecOk wd D) : FndOk wd (fndD D wd ss) := by
  have key : ∀ o, ((foundR D ss o).2 = 0 ∨ (foundR D ss o).2 = 2 ∨ (foundR D ss o).2 = 3) ∧ ((foundR D ss o).2 = 0 → okKey (foundR D ss o).1.1 = true ∧ okVal (foundR D ss o).1.2.1 = true ∧ ((foundR D ss o).1.2.2.1.size = 0 ∨ (foundR D ss o).1.2.2.1.size = wd) ∧ ((foundR D ss o).1.2.2.2.size = 0 ∨ (foundR D ss o).1.2.2.2.size = wd)) := by
    intro o
    cases o with
    | none =>
      rw [show foundR D ss none = ((⟨#[]⟩, ⟨#[]⟩, ⟨#[]⟩, ⟨#[]⟩), 2) from rfl]
      exact ⟨.inr (.inl rfl), fun e => absurd e (by decide)⟩
    | some i =>
      by_cases q : D.ok (ss.getD i ⟨#[]⟩) = true
      · rw [show foundR D ss (some i) = _ from if_pos q]
        exact ⟨.inl rfl, fun _ => h _ q⟩
      · rw [show foundR D ss (some i) = _ from if_neg q]
        exact ⟨.inr (.inr rfl), fun e => absurd e (by decide)⟩
  exact ⟨fun hash => (key _).1, fun hash => (key _).2⟩
/-- A range of a pool's tree: the pairs, the code. -/
def rangeM (fnd : ByteArray → FN) (n : Int) (m : Nat) (root lo hi : ByteArray) : List PairT × Int :=
  if (poolOk n m && hashOk root.size n) = true then
    if (goF fnd hgW lo hi 501 root ⟨#[]⟩ ⟨#[]⟩ ⟨#[]⟩ 0).1 = 0 then ((goF fnd hgW lo hi 501 root ⟨#[]⟩ ⟨#[]⟩ ⟨#[]⟩ 0).2.2, 0) else ([], (goF fnd hgW lo hi 501 root ⟨#[]⟩ ⟨#[]⟩ ⟨#[]⟩ 0).1)
  else ([], 1)
theorem rangeM_bad {fnd : ByteArray → FN} {n : Int} {m : Nat} {root lo hi : ByteArray} (h : (poolOk n m && hashOk root.size n) = false) : rangeM fnd n m root lo hi = ([], 1) := by unfold rangeM; rw [if_neg (by rw [h]; decide)]
theorem rangeM_ok {fnd : ByteArray → FN} {n : Int} {m : Nat} {root lo hi : ByteArray} (h : (poolOk n m && hashOk root.size n) = true) {R : Int × Nat × List PairT} (hR : goF fnd hgW lo hi 501 root ⟨#[]⟩ ⟨#[]⟩ ⟨#[]⟩ 0 = R) : rangeM fnd n m root lo hi = if R.1 = 0 then (R.2.2, 0) else ([], R.1) := by unfold rangeM; rw [if_pos h, hR]
/-- What a range answers: the row is the call's own. -/
def RangeAt (X : List PairT × Int) (w : World) (e : Ending) (w' : World) : Prop :=
  (∃ a c, e = .returned (.tuple #[.slice a X.1.length c, .int .i64 X.2]) ∧ w'.ownsRow w.heap.size 81 2 (.slice a X.1.length c) X.1.length (flatP X.1)) ∧ Below w.heap.size w w'

/-- The blocks that the model's Range has of its own. -/
structure SR (w : World) (ga gz : Nat) (n : Int) (a : Option Addr) (m c : Nat) (W : World) : Prop where
  sz : w.heap.size = ga
  o1 : ga < gz
  bl : Below w.heap.size w W
  na : W.heap[ga]? = some (.cells #[.int .i64 n, .slice a m c] 31)
  nz : W.heap[gz]? = some (.cells #[] 81)
section
variable {w : World} {ga gz : Nat} {n : Int} {a : Option Addr} {m c : Nat} {W W' : World}
theorem SR.mk0 (w : World) (n : Int) (a : Option Addr) (m c : Nat) : SR w w.heap.size (w.heap.size + 1) n a m c ((w.alloc (.cells #[.int .i64 n, .slice a m c] 31)).alloc (.cells #[] 81)) := by
  have e2 := heap_alloc_new (w.alloc (.cells #[.int .i64 n, .slice a m c] 31)) (.cells #[] 81)
  rw [World.size_alloc] at e2
  exact ⟨rfl, Nat.lt_succ_self _, ((Below.refl _ _).alloc (Nat.le_refl _) _).alloc (by simp) _, by rw [Below.heap_alloc _ _ _ (by simp)]; exact heap_alloc_new w _, e2⟩
theorem SR.lt (h : SR w ga gz n a m c W) : gz < W.heap.size := (Array.getElem?_eq_some_iff.1 h.nz).1
theorem SR.below (h : SR w ga gz n a m c W) (hb : Below W.heap.size W W') : SR w ga gz n a m c W' :=
  ⟨h.sz, h.o1, h.bl.trans (hb.mono h.bl.size), (hb.block _ (Nat.lt_trans h.o1 h.lt)).trans h.na, (hb.block _ h.lt).trans h.nz⟩
theorem SR.nil (h : SR w ga gz n a m c W) (i : Int) : RangeAt ([], i) w (.returned (.tuple #[.slice (some ⟨gz, 0, none⟩) 0 0, .int .i64 i])) W := by
  have h1 := h.sz
  have h2 := h.o1
  exact ⟨⟨some ⟨gz, 0, none⟩, 0, rfl, own2_nil (by omega) h.nz⟩, h.bl⟩
theorem SR.set3 (h : SR w ga gz n a m c W) {gw : Nat} (hg : gz < gw) (x y z : Value) : SR w ga gz n a m c (((W.setCell ⟨gw, 0, none⟩ x).setCell ⟨gw, 1, none⟩ y).setCell ⟨gw, 2, none⟩ z) := by
  have h1 := h.sz
  have h2 := h.o1
  have hb : w.heap.size ≤ gw := by omega
  refine ⟨h.sz, h.o1, ((h.bl.setCell hb _).setCell hb _).setCell hb _, ?_, ?_⟩
  · rw [Below.heap_setCell _ _ _ _ (by show ga ≠ gw; omega), Below.heap_setCell _ _ _ _ (by show ga ≠ gw; omega), Below.heap_setCell _ _ _ _ (by show ga ≠ gw; omega)]; exact h.na
  · rw [Below.heap_setCell _ _ _ _ (by show gz ≠ gw; omega), Below.heap_setCell _ _ _ _ (by show gz ≠ gw; omega), Below.heap_setCell _ _ _ _ (by show gz ≠ gw; omega)]; exact h.nz
/-- A walk's answer in its block. -/
def WB (gw : Nat) (x y z : Value) (W : World) : Prop := W.heap[gw]? = some (.cells #[x, y, z] 158)
theorem WB.below {gw : Nat} {x y z : Value} (h : WB gw x y z W) (hb : Below W.heap.size W W') : WB gw x y z W' := (hb.block _ (Array.getElem?_eq_some_iff.1 h).1).trans h
theorem WB.set3 {gw : Nat} {x y z : Value} (h : WB gw x y z W) (x' y' z' : Value) : WB gw x' y' z' (((W.setCell ⟨gw, 0, none⟩ x').setCell ⟨gw, 1, none⟩ y').setCell ⟨gw, 2, none⟩ z') := heap_setCell_same _ gw 2 _ 158 _ (heap_setCell_same _ gw 1 _ 158 _ (heap_setCell_same _ gw 0 _ 158 _ h))
theorem WB.at {gw : Nat} {x y z : Value} (h : WB gw x y z W) : W.cell? ⟨gw, 0, none⟩ = some x ∧ W.cell? ⟨gw, 1, none⟩ = some y ∧ W.cell? ⟨gw, 2, none⟩ = some z ∧ W.frozen? ⟨gw, 0, none⟩ = false ∧ W.frozen? ⟨gw, 1, none⟩ = false ∧ W.frozen? ⟨gw, 2, none⟩ = false :=
  ⟨Lib.cell_of_heap h 0, Lib.cell_of_heap h 1, Lib.cell_of_heap h 2, by rw [World.frozen?, h]; rfl, by rw [World.frozen?, h]; rfl, by rw [World.frozen?, h]; rfl⟩
end

set_option maxRecDepth 100000 in
set_option maxHeartbeats 2000000 in
theorem srange_bad (n : Int) (a : Option Addr) (m c : Nat) (root lo hi : ByteArray) (w : World) (hm : m ≤ 1048576) (hr : root.size ≤ 1048576) (h : (poolOk n m && hashOk root.size n) = false) :
    Calls Tryz.prog 48 #[.agg #[.int .i64 n, .slice a m c], .string root, .string lo, .string hi] w (RangeAt ([], 1) w) := by
  have HP := fun w' => poolOk_any n a m c w' hm
  have HH := fun w' => hashOk_any root n w' hr
  have hS := SR.mk0 w n a m c
  cases h1 : poolOk n m with
  | false =>
    rw [h1] at HP
    clear h h1
    go_enter Tryz.func48, Tryz.ntmps48
    go_upto_region 2 with fail
    generalize (w.alloc (.cells #[.int .i64 n, .slice a m c] 31)).alloc (.cells #[] 81) = W at hS ⊢
    obtain ⟨gz, hgz⟩ : ∃ x, w.heap.size + 1 = x := ⟨_, rfl⟩
    rw [hgz] at hS ⊢
    obtain ⟨ga, hga⟩ : ∃ x, w.heap.size = x := ⟨_, rfl⟩
    rw [show SR w w.heap.size = SR w ga by rw [hga]] at hS
    rw [hga]
    clear hga hgz
    have k0 := Lib.cell_of_heap hS.na 0
    have k1 := Lib.cell_of_heap hS.na 1
    go_wp2_with (first | (go_at_call 79; refine (HP _).mono ?_; rintro e w1 ⟨rfl, hb1⟩; have hS1 := hS.below hb1; have k0 := Lib.cell_of_heap hS1.na 0; have k1 := Lib.cell_of_heap hS1.na 1) | (go_at_call 82; refine (HH _).mono ?_; rintro e w2 ⟨rfl, rfl⟩))
    go_ret2
    exact hS1.nil 1
  | true =>
    have h2 : hashOk root.size n = false := by rw [h1] at h; exact h
    rw [h1] at HP
    rw [h2] at HH
    clear h h1 h2
    go_enter Tryz.func48, Tryz.ntmps48
    go_upto_region 2 with fail
    generalize (w.alloc (.cells #[.int .i64 n, .slice a m c] 31)).alloc (.cells #[] 81) = W at hS ⊢
    obtain ⟨gz, hgz⟩ : ∃ x, w.heap.size + 1 = x := ⟨_, rfl⟩
    rw [hgz] at hS ⊢
    obtain ⟨ga, hga⟩ : ∃ x, w.heap.size = x := ⟨_, rfl⟩
    rw [show SR w w.heap.size = SR w ga by rw [hga]] at hS
    rw [hga]
    clear hga hgz
    have k0 := Lib.cell_of_heap hS.na 0
    have k1 := Lib.cell_of_heap hS.na 1
    go_wp2_with (first | (go_at_call 79; refine (HP _).mono ?_; rintro e w1 ⟨rfl, hb1⟩; have hS1 := hS.below hb1; have k0 := Lib.cell_of_heap hS1.na 0; have k1 := Lib.cell_of_heap hS1.na 1) | (go_at_call 82; refine (HH _).mono ?_; rintro e w2 ⟨rfl, rfl⟩))
    go_ret2
    exact hS1.nil 1
end Go.Proofs.YtibjhkpgaaapaaaGreatDoor
namespace Go.Proofs.YtibjhkpgaaapaaaGreatDoor
open Go.RowKit Go.Proofs.Sha

end Go.Proofs.YtibjhkpgaaapaaaGreatDoor
namespace Go.Proofs.YtibjhkpgaaapaaaGreatDoor
open Go.RowKit Go.Proofs.Sha

/-- The hash's table. -/
abbrev KT (w : World) : Prop := ∀ j, j < 64 → w.cell? ⟨0, j, none⟩ = some (.int .u32 ((kTab.getD j 0).toNat : Int))
theorem KT.below {w w' : World} (h : KT w) (hb : Below w.heap.size w w') : KT w' := fun j hj => by
  have hl0 : 0 < w.heap.size := World.block_lt_of_cell? w _ (h 0 (by omega))
  exact (hb.cell (by exact hl0)).trans (h j hj)
end Go.Proofs.YtibjhkpgaaapaaaGreatDoor
namespace Go.Proofs.YtibjhkpgaaapaaaGreatDoor
open Go.RowKit Go.Proofs.Sha

/-- The whole function's answer. -/
def proveM (fnd : ByteArray → FN) (n : Int) (m : Nat) (root lo hi : ByteArray) : ByteArray × Int :=
  if poolOk n m = true then proveX fnd n.toNat root lo hi else (⟨#[]⟩, 1)
set_option maxRecDepth 100000 in
set_option maxHeartbeats 1000000 in
theorem iprove_any (HH : Hid (HashSaid KT)) (D : Dec) (n : Int) (HD : Hid (∀ wd : Nat, (wd : Int) = n → 1 ≤ wd → wd ≤ 32 → DecSaid 198 wd D)) (hdo : ∀ wd : Nat, (wd : Int) = n → DecOk wd D) (a : Option Addr) (ss : List ByteArray) (c : Nat) (root lo hi : ByteArray) (w : World) (h : SArg a ss w) (hK : KT w) (hr : root.size ≤ 1048576) :
    Calls Tryz.prog 14 #[.agg #[.int .i64 n, .slice a ss.length c], .string root, .string lo, .string hi] w fun e w' => e = .returned (.tuple #[.string (proveM (fndD D n.toNat ss) n ss.length root lo hi).1, .int .i64 (proveM (fndD D n.toNat ss) n ss.length root lo hi).2]) ∧ Below w.heap.size w w' := by
  have HV := fun w' => validPool_any n a ss.length c w' h.le
  have hA : ∀ m : Int, Below w.heap.size w (w.alloc (.cells #[.int .i64 m, .slice a ss.length c] 31)) := fun m => (Below.refl _ _).alloc (Nat.le_refl _) _
  cases hp : poolOk n ss.length with
  | false =>
    have hX : proveM (fndD D n.toNat ss) n ss.length root lo hi = (⟨#[]⟩, 1) := by unfold proveM; rw [if_neg (by rw [hp]; decide)]
    rw [hX]
    rw [hp] at HV
    have hA := hA n
    clear HH HD h hK hX
    go_enter Tryz.func14, Tryz.ntmps14
    go_wp2_with (first | (go_at_call 52; refine (HV _).mono ?_; rintro e w1 ⟨rfl, hb1⟩))
    go_ret2
    exact ⟨rfl, hA.trans (hb1.mono hA.size)⟩
  | true =>
    rw [hp] at HV
    have hp' : 1 ≤ n ∧ n ≤ 32 ∧ ss.length ≤ 20000 := of_decide_eq_true hp
    obtain ⟨wd, rfl⟩ : ∃ wd : Nat, n = (wd : Int) := ⟨n.toNat, by omega⟩
    have hX : proveM (fndD D (wd : Int).toNat ss) (wd : Int) ss.length root lo hi = proveX (fndD D wd ss) wd root lo hi := by unfold proveM; rw [if_pos hp, Int.toNat_natCast]
    rw [hX]
    have HS : Hid (∀ w', Below w.heap.size w w' → Calls Tryz.prog 54 #[.agg #[.int .i64 (wd : Int), .slice a ss.length c]] w' fun e w'' => ∃ sb r a' c', e = .returned (.pointer (some ⟨sb, 0, none⟩)) ∧ StockAt sb r (sb + 1) wd ss a' c' w'' ∧ Below w'.heap.size w' w'') := fun w' hb => stockOf_any HH (fun w1 w2 h1 hb => KT.below h1 hb) wd a ss c w' (h.below hb) (hK.below hb) (by omega)
    have HW : Hid (∀ w1 sb r a' c', Below w.heap.size w w1 → StockAt sb r (sb + 1) wd ss a' c' w1 → Calls Tryz.prog 53 #[.pointer (some ⟨sb, 0, none⟩), .string root, .agg #[.string lo, .string hi]] w1 fun e w' => e = .returned (.tuple #[.string (proveX (fndD D wd ss) wd root lo hi).1, .int .i64 (proveX (fndD D wd ss) wd root lo hi).2]) ∧ Below w.heap.size w w') := fun w1 sb r a' c' hb1 hs => by
      refine (prove_any (fndD D wd ss) wd (fndD_ok D wd ss (hdo wd rfl)) (by omega) sb lo hi root _ _ w1 hs.blk hr (fun hash w' hh hb' => stockFind_any D sb r (sb + 1) wd (HD.out wd rfl (by omega) (by omega)) ss a' c' hash w' (hs.below hb') h.sz (by have := h.le; omega) (by omega) hh) (fun k w' hk hb' => rank_any k w' (by unfold okKey at hk; have := of_decide_eq_true hk; omega) ((hK.below hb1).below hb'))).mono ?_
      rintro e w' ⟨he, hb'⟩
      exact ⟨he, hb1.trans (hb'.mono hb1.size)⟩
    generalize proveX (fndD D wd ss) wd root lo hi = X at HW ⊢
    have hA := hA (wd : Int)
    have nA := heap_alloc_new w (.cells #[.int .i64 (wd : Int), .slice a ss.length c] 31)
    clear HH HD h hK hX hp hp'
    go_enter Tryz.func14, Tryz.ntmps14
    go_wp2_with (first | (go_at_call 52; refine (HV _).mono ?_; rintro e w1 ⟨rfl, hb1⟩; have nA1 := (hb1.block w.heap.size (by simp)).trans nA; have d0 := Lib.cell_of_heap nA1 0; have d1 := Lib.cell_of_heap nA1 1; clear nA1; replace hb1 := hA.trans (hb1.mono hA.size)) | (go_at_call 54; refine (HS.out _ hb1).mono ?_; rintro e w2 ⟨sb, r, a2, c2, rfl, hs2, hb2⟩; replace hb2 := hb1.trans (hb2.mono hb1.size)) | (go_at_call 53; refine (HW.out _ _ _ _ _ hb2 hs2).mono ?_; rintro e w3 ⟨rfl, hb3⟩))
    go_ret2
    exact ⟨rfl, hb3⟩
end Go.Proofs.YtibjhkpgaaapaaaGreatDoor
