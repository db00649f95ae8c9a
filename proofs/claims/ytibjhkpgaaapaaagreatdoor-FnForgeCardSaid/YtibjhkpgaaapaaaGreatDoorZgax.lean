import Derived.Test.YtibjhkpgaaapaaaGreatDoorZgaw
import Derived.Test.YtibjhkpgaaapaaaGreatDoorZgav
import Derived.Test.YtibjhkpgaaapaaaGreatDoorZgai
import Derived.Test.YtibjhkpgaaapaaaGreatDoorZgau
import Derived.Deep.AppendLies
import Derived.Test.YtibjhkpgaaapaaaGreatDoorZgat
import Derived.Test.YtibjhkpgaaapaaaGreatDoorZgam
import Derived.Test.YtibjhkpgaaapaaaGreatDoorZgak
set_option maxRecDepth 100000
set_option maxHeartbeats 2000000
namespace Go.Proofs.YtibjhkpgaaapaaaGreatDoor
open Go.RowKit Go.Proofs.Sha

theorem go_all (fnd : ByteArray → FN) (wd : Nat) (hfo : FndOk wd fnd) (a : Option Addr) (n c g c' : Nat) (lo hi : ByteArray) (hlo : lo.size ≤ 1048576) (hhi : hi.size ≤ 1048576) (w0 : World)
    (HF : Hid (∀ (w' : World) (hash : ByteArray), Below w0.heap.size w0 w' → Calls Tryz.prog 107 #[.agg #[.int .i64 (wd : Int), .slice a n c], .slice (some ⟨g, 0, none⟩) n c', .string hash] w' fun e w'' => e = .returned (nodeT (fnd hash)) ∧ Below w'.heap.size w' w'')) :
    ∀ (f : Nat) (hash over under par : ByteArray) (cnt : Nat) (w : World), 500 < cnt + f → cnt ≤ 500 → Below w0.heap.size w0 w → over.size ≤ 1048576 → under.size ≤ 1048576 → par.size ≤ 1048576 →
    Calls Tryz.prog 105 #[.agg #[.int .i64 (wd : Int), .slice a n c], .slice (some ⟨g, 0, none⟩) n c', .string hash, .string par, .agg #[.string over, .string under], .string lo, .string hi, .int .i64 (cnt : Int)] w (GoPost (goF fnd hgW lo hi f hash over under par cnt) w)
  | 0, _, _, _, _, cnt, _, h, hc, _, _, _, _ => by omega
  | f + 1, hash, over, under, par, cnt, w, h, hc, hw, ho, hu, hp =>
    go_step fnd wd hfo a n c g c' lo hi hlo hhi w0 HF f hash over under par cnt (fun hash over under par cnt' w' h1 h2 hb ho hu hp => go_all fnd wd hfo a n c g c' lo hi hlo hhi w0 HF f hash over under par cnt' w' (by omega) h2 hb ho hu hp) w hw hc ho hu hp
/-- What a pool's look-up answers. -/
def fndD (D : Dec) (wd : Nat) (ss : List ByteArray) (hash : ByteArray) : FN := foundR D ss (firstI (hitB wd ss hash) ss.length)
/-- What is decoded is a node. -/
def DecOk (wd : Nat) (D : Dec) : Prop := ∀ s, D.ok s = true → okKey (D.k s) = true ∧ okVal (D.v s) = true ∧ ((D.l s).size = 0 ∨ (D.l s).size = wd) ∧ ((D.r s).size = 0 ∨ (D.r s).size = wd)
theorem fndD_ok (D : Dec) (wd : Nat) (ss : List ByteArray) (h : DecOk wd D) : FndOk wd (fndD D wd ss) := by
  have key : ∀ o, ((foundR D ss o).2 = 0 ∨ (foundR D ss o).2 = 2 ∨ (foundR D ss o).2 = 3) ∧ ((foundR D ss o).2 = 0 → okKey (foundR D ss o).1.1 = true ∧ okVal (foundR D ss o).1.2.1 = true ∧ ((foundR D ss o).1.2.2.1.size = 0 ∨ (foundR D ss o).1.2.2.1.size = wd) ∧ ((foundR D ss o).1.2.2.2.size = 0 ∨ (foundR D ss o).1.2.2.2.size = wd)) := by
    intro o
    cases o with
    | none =>
      rw [show foundR D ss none = ((⟨#[]⟩, ⟨#[]⟩, ⟨#[]⟩, ⟨#[]⟩), 2) from rfl]
      exact ⟨.inr (.inl rfl), fun e => absurd e (by decide)⟩
    | some i =>
      by_cases q : D.ok (ss.getD i ⟨#[]⟩) = true
      · rw [show foundR D ss (some i) = _ from if_pos q]
        exact ⟨.inl rfl, fun _ => h _ q⟩
      · rw [show foundR D ss (some i) = _ from if_neg q]
        exact ⟨.inr (.inr rfl), fun e => absurd e (by decide)⟩
  exact ⟨fun hash => (key _).1, fun hash => (key _).2⟩
/-- A range of a pool's tree: the pairs, the code. -/
def rangeM (fnd : ByteArray → FN) (n : Int) (m : Nat) (root lo hi : ByteArray) : List PairT × Int :=
  if (poolOk n m && hashOk root.size n) = true then
    if (goF fnd hgW lo hi 501 root ⟨#[]⟩ ⟨#[]⟩ ⟨#[]⟩ 0).1 = 0 then ((goF fnd hgW lo hi 501 root ⟨#[]⟩ ⟨#[]⟩ ⟨#[]⟩ 0).2.2, 0) else ([], (goF fnd hgW lo hi 501 root ⟨#[]⟩ ⟨#[]⟩ ⟨#[]⟩ 0).1)
  else ([], 1)
theorem rangeM_bad {fnd : ByteArray → FN} {n : Int} {m : Nat} {root lo hi : ByteArray} (h : (poolOk n m && hashOk root.size n) = false) : rangeM fnd n m root lo hi = ([], 1) := by unfold rangeM; rw [if_neg (by rw [h]; decide)]
theorem rangeM_ok {fnd : ByteArray → FN} {n : Int} {m : Nat} {root lo hi : ByteArray} (h : (poolOk n m && hashOk root.size n) = true) {R : Int × Nat × List PairT} (hR : goF fnd hgW lo hi 501 root ⟨#[]⟩ ⟨#[]⟩ ⟨#[]⟩ 0 = R) : rangeM fnd n m root lo hi = if R.1 = 0 then (R.2.2, 0) else ([], R.1) := by unfold rangeM; rw [if_pos h, hR]
/-- What a range answers: the row is the call's own. -/
def RangeAt (X : List PairT × Int) (w : World) (e : Ending) (w' : World) : Prop :=
  (∃ a c, e = .returned (.tuple #[.slice a X.1.length c, .int .i64 X.2]) ∧ w'.ownsRow w.heap.size 81 2 (.slice a X.1.length c) X.1.length (flatP X.1)) ∧ Below w.heap.size w w'

/-- The blocks that the model's Range has of its own. -/
structure SR (w : World) (ga gz : Nat) (n : Int) (a : Option Addr) (m c : Nat) (W : World) : Prop where
  sz : w.heap.size = ga
  o1 : ga < gz
  bl : Below w.heap.size w W
  na : W.heap[ga]? = some (.cells #[.int .i64 n, .slice a m c] 31)
  nz : W.heap[gz]? = some (.cells #[] 81)
section
variable {w : World} {ga gz : Nat} {n : Int} {a : Option Addr} {m c : Nat} {W W' : World}
theorem SR.mk0 (w : World) (n : Int) (a : Option Addr) (m c : Nat) : SR w w.heap.size (w.heap.size + 1) n a m c ((w.alloc (.cells #[.int .i64 n, .slice a m c] 31)).alloc (.cells #[] 81)) := by
  have e2 := heap_alloc_new (w.alloc (.cells #[.int .i64 n, .slice a m c] 31)) (.cells #[] 81)
  rw [World.size_alloc] at e2
  exact ⟨rfl, Nat.lt_succ_self _, ((Below.refl _ _).alloc (Nat.le_refl _) _).alloc (by simp) _, by rw [Below.heap_alloc _ _ _ (by simp)]; exact heap_alloc_new w _, e2⟩
theorem SR.lt (h : SR w ga gz n a m c W) : gz < W.heap.size := (Array.getElem?_eq_some_iff.1 h.nz).1
theorem SR.below (h : SR w ga gz n a m c W) (hb : Below W.heap.size W W') : SR w ga gz n a m c W' :=
  ⟨h.sz, h.o1, h.bl.trans (hb.mono h.bl.size), (hb.block _ (Nat.lt_trans h.o1 h.lt)).trans h.na, (hb.block _ h.lt).trans h.nz⟩
theorem SR.nil (h : SR w ga gz n a m c W) (i : Int) : RangeAt ([], i) w (.returned (.tuple #[.slice (some ⟨gz, 0, none⟩) 0 0, .int .i64 i])) W := by
  have h1 := h.sz
  have h2 := h.o1
  exact ⟨⟨some ⟨gz, 0, none⟩, 0, rfl, own2_nil (by omega) h.nz⟩, h.bl⟩
theorem SR.set3 (h : SR w ga gz n a m c W) {gw : Nat} (hg : gz < gw) (x y z : Value) : SR w ga gz n a m c (((W.setCell ⟨gw, 0, none⟩ x).setCell ⟨gw, 1, none⟩ y).setCell ⟨gw, 2, none⟩ z) := by
  have h1 := h.sz
  have h2 := h.o1
  have hb : w.heap.size ≤ gw := by omega
  refine ⟨h.sz, h.o1, ((h.bl.setCell hb _).setCell hb _).setCell hb _, ?_, ?_⟩
  · rw [Below.heap_setCell _ _ _ _ (by show ga ≠ gw; omega), Below.heap_setCell _ _ _ _ (by show ga ≠ gw; omega), Below.heap_setCell _ _ _ _ (by show ga ≠ gw; omega)]; exact h.na
  · rw [Below.heap_setCell _ _ _ _ (by show gz ≠ gw; omega), Below.heap_setCell _ _ _ _ (by show gz ≠ gw; omega), Below.heap_setCell _ _ _ _ (by show gz ≠ gw; omega)]; exact h.nz
/-- A walk's answer in its block. -/
def WB (gw : Nat) (x y z : Value) (W : World) : Prop := W.heap[gw]? = some (.cells #[x, y, z] 158)
theorem WB.below {gw : Nat} {x y z : Value} (h : WB gw x y z W) (hb : Below W.heap.size W W') : WB gw x y z W' := (hb.block _ (Array.getElem?_eq_some_iff.1 h).1).trans h
theorem WB.set3 {gw : Nat} {x y z : Value} (h : WB gw x y z W) (x' y' z' : Value) : WB gw x' y' z' (((W.setCell ⟨gw, 0, none⟩ x').setCell ⟨gw, 1, none⟩ y').setCell ⟨gw, 2, none⟩ z') := heap_setCell_same _ gw 2 _ 158 _ (heap_setCell_same _ gw 1 _ 158 _ (heap_setCell_same _ gw 0 _ 158 _ h))
theorem WB.at {gw : Nat} {x y z : Value} (h : WB gw x y z W) : W.cell? ⟨gw, 0, none⟩ = some x ∧ W.cell? ⟨gw, 1, none⟩ = some y ∧ W.cell? ⟨gw, 2, none⟩ = some z ∧ W.frozen? ⟨gw, 0, none⟩ = false ∧ W.frozen? ⟨gw, 1, none⟩ = false ∧ W.frozen? ⟨gw, 2, none⟩ = false :=
  ⟨Lib.cell_of_heap h 0, Lib.cell_of_heap h 1, Lib.cell_of_heap h 2, by rw [World.frozen?, h]; rfl, by rw [World.frozen?, h]; rfl, by rw [World.frozen?, h]; rfl⟩
end

theorem srange_bad (n : Int) (a : Option Addr) (m c : Nat) (root lo hi : ByteArray) (w : World) (hm : m ≤ 1048576) (hr : root.size ≤ 1048576) (h : (poolOk n m && hashOk root.size n) = false) :
    Calls Tryz.prog 48 #[.agg #[.int .i64 n, .slice a m c], .string root, .string lo, .string hi] w (RangeAt ([], 1) w) := by
  have HP := fun w' => poolOk_any n a m c w' hm
  have HH := fun w' => hashOk_any root n w' hr
  have hS := SR.mk0 w n a m c
  cases h1 : poolOk n m with
  | false =>
    rw [h1] at HP
    clear h h1
    go_enter Tryz.func48, Tryz.ntmps48
    go_upto_region 2 with fail
    generalize (w.alloc (.cells #[.int .i64 n, .slice a m c] 31)).alloc (.cells #[] 81) = W at hS ⊢
    obtain ⟨gz, hgz⟩ : ∃ x, w.heap.size + 1 = x := ⟨_, rfl⟩
    rw [hgz] at hS ⊢
    obtain ⟨ga, hga⟩ : ∃ x, w.heap.size = x := ⟨_, rfl⟩
    rw [show SR w w.heap.size = SR w ga by rw [hga]] at hS
    rw [hga]
    clear hga hgz
    have k0 := Lib.cell_of_heap hS.na 0
    have k1 := Lib.cell_of_heap hS.na 1
    go_wp2_with (first | (go_at_call 79; refine (HP _).mono ?_; rintro e w1 ⟨rfl, hb1⟩; have hS1 := hS.below hb1; have k0 := Lib.cell_of_heap hS1.na 0; have k1 := Lib.cell_of_heap hS1.na 1) | (go_at_call 82; refine (HH _).mono ?_; rintro e w2 ⟨rfl, rfl⟩))
    go_ret2
    exact hS1.nil 1
  | true =>
    have h2 : hashOk root.size n = false := by rw [h1] at h; exact h
    rw [h1] at HP
    rw [h2] at HH
    clear h h1 h2
    go_enter Tryz.func48, Tryz.ntmps48
    go_upto_region 2 with fail
    generalize (w.alloc (.cells #[.int .i64 n, .slice a m c] 31)).alloc (.cells #[] 81) = W at hS ⊢
    obtain ⟨gz, hgz⟩ : ∃ x, w.heap.size + 1 = x := ⟨_, rfl⟩
    rw [hgz] at hS ⊢
    obtain ⟨ga, hga⟩ : ∃ x, w.heap.size = x := ⟨_, rfl⟩
    rw [show SR w w.heap.size = SR w ga by rw [hga]] at hS
    rw [hga]
    clear hga hgz
    have k0 := Lib.cell_of_heap hS.na 0
    have k1 := Lib.cell_of_heap hS.na 1
    go_wp2_with (first | (go_at_call 79; refine (HP _).mono ?_; rintro e w1 ⟨rfl, hb1⟩; have hS1 := hS.below hb1; have k0 := Lib.cell_of_heap hS1.na 0; have k1 := Lib.cell_of_heap hS1.na 1) | (go_at_call 82; refine (HH _).mono ?_; rintro e w2 ⟨rfl, rfl⟩))
    go_ret2
    exact hS1.nil 1
theorem own_sarg {w : World} {base n c : Nat} {a : Option Addr} {ss : List ByteArray} (h : w.ownsRow base 9 1 (.slice a ss.length c) n (ss.map Value.string)) (hl : ss.length ≤ 1048576) (hs : ∀ j, (ss.getD j ⟨#[]⟩).size ≤ 1048576) : SArg a ss w := by
  refine ⟨hl, hs, fun hn => ?_⟩
  rcases h.2 with ⟨e, h0⟩ | ⟨g, cap, cur, e, hb, hg, q1, q2, q3, q4⟩
  · simp only [Value.slice.injEq] at e; omega
  · simp only [Value.slice.injEq] at e
    obtain ⟨rfl, e2, rfl⟩ := e
    refine ⟨g, 0, rfl, (Array.getElem?_eq_some_iff.1 hg).1, fun j hj => ?_⟩
    rw [Nat.zero_add, cell_of_row w g j cur 9 (0, 0) hg]
    have hx : (ss.map Value.string)[j]? = some (.string (ss.getD j ⟨#[]⟩)) := by
      rw [List.getElem?_map, List.getElem?_eq_getElem hj, List.getD_eq_getElem?_getD, List.getElem?_eq_getElem hj]; rfl
    rw [← q4, List.getElem?_take, if_pos (by omega)] at hx
    simpa using hx
/-- The hash's table. -/
abbrev KT (w : World) : Prop := ∀ j, j < 64 → w.cell? ⟨0, j, none⟩ = some (.int .u32 ((kTab.getD j 0).toNat : Int))
theorem KT.below {w w' : World} (h : KT w) (hb : Below w.heap.size w w') : KT w' := fun j hj => by
  have hl0 : 0 < w.heap.size := World.block_lt_of_cell? w _ (h 0 (by omega))
  exact (hb.cell (by exact hl0)).trans (h j hj)
/-- A proof as it is read: E, S with its hash, F with its pair and the proofs of its subtrees. -/
inductive PT where
  | e : PT
  | s : ByteArray → PT
  | f : ByteArray → ByteArray → PT → PT → PT
/-- The hash that a proof shows. -/
def hashP (wd : Nat) : PT → ByteArray
  | .e => ⟨#[]⟩
  | .s h => h
  | .f k v l r => digB (encS k v (hashP wd l) (hashP wd r) wd) wd
/-- A proof in memory. -/
def PA (wd n0 : Nat) : PT → Value → World → Prop
  | .e, x, _ => x = .iface 211 (.agg #[])
  | .s h, x, _ => x = .iface 216 (.agg #[.string h])
  | .f k v l r, x, w => ∃ b lv rv, x = .iface 84 (.pointer (some ⟨b, 0, none⟩)) ∧ n0 ≤ b ∧ w.heap[b]? = some (.cells #[.string k, .string v, lv, rv, .string (encS k v (hashP wd l) (hashP wd r) wd)] 151) ∧ PA wd n0 l lv w ∧ PA wd n0 r rv w
theorem PA.keep {wd n0 : Nat} {w w' : World} (hk : ∀ b (cs : Array Value), n0 ≤ b → w.heap[b]? = some (.cells cs 151) → w'.heap[b]? = some (.cells cs 151)) : ∀ {t : PT} {x : Value}, PA wd n0 t x w → PA wd n0 t x w'
  | .e, _, h => h
  | .s _, _, h => h
  | .f _ _ _ _, _, ⟨b, lv, rv, h1, h2, h3, h4, h5⟩ => ⟨b, lv, rv, h1, h2, hk b _ h2 h3, PA.keep hk h4, PA.keep hk h5⟩
theorem PA.mono {wd n0 n1 : Nat} {w : World} (hn : n1 ≤ n0) : ∀ {t : PT} {x : Value}, PA wd n0 t x w → PA wd n1 t x w
  | .e, _, h => h
  | .s _, _, h => h
  | .f _ _ _ _, _, ⟨b, lv, rv, h1, h2, h3, h4, h5⟩ => ⟨b, lv, rv, h1, Nat.le_trans hn h2, h3, PA.mono hn h4, PA.mono hn h5⟩
theorem PA.below {wd n0 : Nat} {w w' : World} {t : PT} {x : Value} (h : PA wd n0 t x w) (hb : Below w.heap.size w w') : PA wd n0 t x w' := h.keep (fun _ _ _ h3 => below_cells hb h3)
theorem as216_211 (w : World) : (Instr.typeAssert (.iface 211 (.agg #[])) 77 216 true).run Tryz.prog w = .ok (.tuple #[.agg #[.string ⟨#[]⟩], .bool false]) w := by kernel_rfl
theorem as84_211 (w : World) : (Instr.typeAssert (.iface 211 (.agg #[])) 77 84 true).run Tryz.prog w = .ok (.tuple #[.pointer none, .bool false]) w := by kernel_rfl
theorem as216_216 (h : ByteArray) (w : World) : (Instr.typeAssert (.iface 216 (.agg #[.string h])) 77 216 true).run Tryz.prog w = .ok (.tuple #[.agg #[.string h], .bool true]) w := by kernel_rfl
theorem as84_216 (h : ByteArray) (w : World) : (Instr.typeAssert (.iface 216 (.agg #[.string h])) 77 84 true).run Tryz.prog w = .ok (.tuple #[.pointer none, .bool false]) w := by kernel_rfl
theorem as216_84 (b : Nat) (w : World) : (Instr.typeAssert (.iface 84 (.pointer (some ⟨b, 0, none⟩))) 77 216 true).run Tryz.prog w = .ok (.tuple #[.agg #[.string ⟨#[]⟩], .bool false]) w := by kernel_rfl
theorem as84_84 (b : Nat) (w : World) : (Instr.typeAssert (.iface 84 (.pointer (some ⟨b, 0, none⟩))) 77 84 true).run Tryz.prog w = .ok (.tuple #[.pointer (some ⟨b, 0, none⟩), .bool true]) w := by kernel_rfl
theorem shash_p (wd n0 : Nat) (h1 : 1 ≤ wd) (h2 : wd ≤ 32) (t : PT) (x : Value) (w : World) (h : PA wd n0 t x w) (hK : KT w) :
    Calls Tryz.prog 97 #[x, .int .i64 (wd : Int)] w fun e w' => e = .returned (.string (hashP wd t)) ∧ Below w.heap.size w w' := by
  cases t with
  | e =>
    obtain rfl : x = .iface 211 (.agg #[]) := h
    have hr : Hid (hashP wd .e = ⟨#[]⟩) := rfl
    have q1 := as216_211
    have q2 := as84_211
    go_enter Tryz.func97, Tryz.ntmps97
    go_wp2_with fail
    go_ret
    exact ⟨by rw [hr.out]; rfl, Below.refl _ _⟩
  | s hh =>
    obtain rfl : x = .iface 216 (.agg #[.string hh]) := h
    have hr : Hid (hashP wd (.s hh) = hh) := rfl
    have q1 := as216_216 hh
    have q2 := as84_216 hh
    go_enter Tryz.func97, Tryz.ntmps97
    go_wp2_with fail
    go_ret
    exact ⟨by rw [hr.out]; rfl, (Below.refl _ _).alloc (Nat.le_refl _) _⟩
  | f k v l r =>
    obtain ⟨b, lv, rv, rfl, _, hb, _, _⟩ := h
    have hes := (encS_size k v (hashP wd l) (hashP wd r) wd).1
    have hr : Hid (hashP wd (.f k v l r) = digB (encS k v (hashP wd l) (hashP wd r) wd) wd) := rfl
    have HD : Hid (∀ w', KT w' → Calls Tryz.prog 145 #[.string (encS k v (hashP wd l) (hashP wd r) wd), .int .i64 (wd : Int)] w' fun e w'' => e = .returned (.string (digB (encS k v (hashP wd l) (hashP wd r) wd) wd)) ∧ Below w'.heap.size w' w'') := fun w' hk => edig_any _ wd w' (by omega) h1 h2 hk
    generalize encS k v (hashP wd l) (hashP wd r) wd = E at hb HD hr
    have c4 := Lib.cell_of_heap hb 4
    clear hb hes
    have q1 := as216_84 b
    have q2 := as84_84 b
    go_enter Tryz.func97, Tryz.ntmps97
    go_wp2_with (first | (go_at_call 145; refine (HD.out _ hK).mono ?_; rintro e w1 ⟨rfl, hb1⟩))
    go_ret
    exact ⟨by rw [hr.out]; rfl, hb1⟩
theorem addEnc (b wd n0 : Nat) (h1 : 1 ≤ wd) (h2 : wd ≤ 32) (k v : ByteArray) (lv rv : Value) (enc0 : ByteArray) (l r : PT) (w : World) (hB : w.heap[b]? = some (.cells #[.string k, .string v, lv, rv, .string enc0] 151)) (hl : PA wd n0 l lv w) (hr : PA wd n0 r rv w) (hK : KT w) (hks : k.size ≤ 1048576) (hvs : v.size ≤ 1048576) (hls : (hashP wd l).size ≤ 1048576) (hrs : (hashP wd r).size ≤ 1048576) :
    Calls Tryz.prog 174 #[.pointer (some ⟨b, 0, none⟩), .int .i64 (wd : Int)] w fun e w' => e = .returned (.tuple #[]) ∧ w'.heap[b]? = some (.cells #[.string k, .string v, lv, rv, .string (encS k v (hashP wd l) (hashP wd r) wd)] 151) ∧ Mv b w w' := by
  have HL : Hid (∀ w', Below w.heap.size w w' → Calls Tryz.prog 97 #[lv, .int .i64 (wd : Int)] w' fun e w'' => e = .returned (.string (hashP wd l)) ∧ Below w'.heap.size w' w'') := fun w' hb => shash_p wd n0 h1 h2 l lv w' (hl.below hb) (hK.below hb)
  have HR : Hid (∀ w', Below w.heap.size w w' → Calls Tryz.prog 97 #[rv, .int .i64 (wd : Int)] w' fun e w'' => e = .returned (.string (hashP wd r)) ∧ Below w'.heap.size w' w'') := fun w' hb => shash_p wd n0 h1 h2 r rv w' (hr.below hb) (hK.below hb)
  have HE : Hid (∀ w', Calls Tryz.prog 186 #[.agg #[.string k, .string v, .string (hashP wd l), .string (hashP wd r)], .int .i64 (wd : Int)] w' fun e w'' => e = .returned (.string (encS k v (hashP wd l) (hashP wd r) wd)) ∧ Below w'.heap.size w' w'') := fun w' => by
    refine (enc_impl k v (hashP wd l) (hashP wd r) wd w' hks hvs hls hrs).mono ?_
    rintro e w'' ⟨t, rfl, ht, hb⟩
    exact ⟨by rw [ht.out], hb⟩
  generalize encS k v (hashP wd l) (hashP wd r) wd = E at HE ⊢
  generalize hashP wd l = hL at HL HE
  generalize hashP wd r = hR at HR HE
  clear hl hr hK hls hrs
  have c2 : w.cell? ⟨b, 2, none⟩ = some lv := Lib.cell_of_heap hB 2
  have c3 : w.cell? ⟨b, 3, none⟩ = some rv := Lib.cell_of_heap hB 3
  go_enter Tryz.func174, Tryz.ntmps174
  go_wp2_with fail
  go_region_held3 (fun W => W.cell? ⟨b, 2, none⟩ = some lv ∧ W.cell? ⟨b, 3, none⟩ = some rv) (first | exact ⟨c2, c3⟩ | exact ⟨Lib.cell_of_heap n1 2, Lib.cell_of_heap n1 3⟩ | exact ⟨Lib.cell_of_heap n2 2, Lib.cell_of_heap n2 3⟩) (first | (go_at_call_of 97 lv; refine (HL.out w.drew (Below.refl _ _).drew).mono ?_; rintro e w1 ⟨rfl, hb1'⟩; have hb1 : Below w.heap.size w w1 := (Below.refl w.heap.size w).drew.trans hb1'; have n1 := below_cells hb1 hB) | (go_at_call_of 97 rv; refine (HR.out w1 hb1).mono ?_; rintro e w2 ⟨rfl, hb2'⟩; have hb2 := hb1.trans (hb2'.mono hb1.size); have n2 := below_cells hb2 hB))
  clear hb1' hb2' n1 hb1 c2 c3 HL HR
  have c0 : w2.cell? ⟨b, 0, none⟩ = some (.string k) := Lib.cell_of_heap n2 0
  have c1 : w2.cell? ⟨b, 1, none⟩ = some (.string v) := Lib.cell_of_heap n2 1
  go_wp2_with fail
  go_region_held3 (fun W => W.cell? ⟨b, 0, none⟩ = some (.string k) ∧ W.cell? ⟨b, 1, none⟩ = some (.string v)) (first | exact ⟨c0, c1⟩ | exact ⟨Lib.cell_of_heap n3 0, Lib.cell_of_heap n3 1⟩ | exact ⟨Lib.cell_of_heap n4 0, Lib.cell_of_heap n4 1⟩) (first | (go_at_call 186; refine (HE.out _).mono ?_; rintro e w3 ⟨rfl, hb3'⟩; have hb3 : Below w2.heap.size w2 w3 := (Below.refl w2.heap.size w2).drew.trans hb3'; have n3 := below_cells hb3 n2; have c4 := Lib.cell_of_heap n3 4; have f4 : w3.frozen? ⟨b, 4, none⟩ = false := frozen_of_heap n3; have n4 := heap_setCell_same w3 b 4 _ 151 (.string E) n3))
  have hm : Mv b w (w3.setCell ⟨b, 4, none⟩ (.string E)) := (Mv.of_below b (hb2.trans (hb3.mono hb2.size))).setCell 4 _
  go_wp2_with fail
  go_end0
  exact ⟨rfl, n4, hm⟩
instance (s : ByteArray) (a : Nat) : Decidable (pieceOk s a) := by unfold pieceOk; exact inferInstance
/-- A pair may stand at this place. -/
def okAt (over under par k v : ByteArray) : Bool := (okKey k && okVal v) && (insW over under k && parW hgW par k)
/-- A sized text at a place, and the place behind it. -/
def pieceT (s : ByteArray) (a : Nat) : ByteArray := s.extract (a + 2) (a + 2 + szAt s a)
def pieceE (s : ByteArray) (a : Nat) : Nat := a + 2 + szAt s a
/-- The reading of a proof of a subtree: the proof, the place behind it, how many F so far. -/
def rdP (s lo hi : ByteArray) (wd : Nat) : Nat → Nat → ByteArray → ByteArray → ByteArray → Nat → Option (PT × Nat × Nat)
  | 0, _, _, _, _, _ => none
  | f + 1, a, over, under, par, cnt =>
    if a < s.size then
      if bAt s a = 69 then some (.e, a + 1, cnt)
      else if bAt s a = 83 then
        if canW over under lo hi = false ∧ a + 1 + wd ≤ s.size then some (.s (s.extract (a + 1) (a + 1 + wd)), a + 1 + wd, cnt) else none
      else if bAt s a = 70 ∧ canW over under lo hi = true then
        if cnt + 1 ≤ 500 ∧ pieceOk s (a + 1) ∧ pieceOk s (pieceE s (a + 1)) ∧ okAt over under par (pieceT s (a + 1)) (pieceT s (pieceE s (a + 1))) = true then
          match rdP s lo hi wd f (pieceE s (pieceE s (a + 1))) over (pieceT s (a + 1)) (pieceT s (a + 1)) (cnt + 1) with
          | none => none
          | some (l, a3, c3) =>
            match rdP s lo hi wd f a3 (pieceT s (a + 1)) under (pieceT s (a + 1)) c3 with
            | none => none
            | some (r, a4, c4) => some (.f (pieceT s (a + 1)) (pieceT s (pieceE s (a + 1))) l r, a4, c4)
        else none
      else none
    else none
/-- Where a reading ends. -/
theorem rdP_ok {s lo hi : ByteArray} {wd : Nat} : ∀ (f a : Nat) (over under par : ByteArray) (cnt : Nat) (t : PT) (a' c' : Nat), cnt ≤ 500 → rdP s lo hi wd f a over under par cnt = some (t, a', c') → a < a' ∧ a' ≤ s.size ∧ cnt ≤ c' ∧ c' ≤ 500
  | 0, _, _, _, _, _, _, _, _, _, h => by cases h
  | f + 1, a, over, under, par, cnt, t, a', c', hc, h => by
    rw [rdP] at h
    split at h
    · split at h
      · cases h; omega
      · split at h
        · split at h
          · rename_i h2; cases h; omega
          · cases h
        · split at h
          · split at h
            · rename_i hx
              obtain ⟨h1, h2, h3, _⟩ := hx
              split at h
              · cases h
              · rename_i l a3 c3 hl
                split at h
                · cases h
                · rename_i r a4 c4 hr
                  cases h
                  have il := rdP_ok f _ _ _ _ _ _ _ _ h1 hl
                  have ir := rdP_ok f _ _ _ _ _ _ _ _ il.2.2.2 hr
                  have e1 : a + 1 + 2 ≤ pieceE s (a + 1) := by unfold pieceE; omega
                  have e2 : pieceE s (a + 1) + 2 ≤ pieceE s (pieceE s (a + 1)) := by unfold pieceE; omega
                  omega
            · cases h
          · cases h
    · cases h
/-- Of what was there only two blocks may have turned. -/
structure Mw (q r : Nat) (w w' : World) : Prop where
  os : w'.os = w.os
  tape : w'.tape = w.tape
  output : w'.output = w.output
  size : w.heap.size ≤ w'.heap.size
  block : ∀ k, k < w.heap.size → k ≠ q → k ≠ r → w'.heap[k]? = w.heap[k]?
section
variable {q r : Nat} {w w' w1 w2 : World}
theorem Mw.refl (q r : Nat) (w : World) : Mw q r w w := ⟨rfl, rfl, rfl, Nat.le_refl _, fun _ _ _ _ => rfl⟩
theorem Mw.trans (h : Mw q r w w1) (k : Mw q r w1 w2) : Mw q r w w2 :=
  ⟨k.os.trans h.os, k.tape.trans h.tape, k.output.trans h.output, Nat.le_trans h.size k.size, fun i hi h1 h2 => (k.block i (Nat.lt_of_lt_of_le hi h.size) h1 h2).trans (h.block i hi h1 h2)⟩
theorem Mw.of_below (h : Below w.heap.size w w1) : Mw q r w w1 := ⟨h.os, h.tape, h.output, h.size, fun i hi _ _ => h.block i hi⟩
theorem Mw.of_mv (h : Mv r w w1) : Mw q r w w1 := ⟨h.os, h.tape, h.output, h.size, fun i hi _ h2 => h.block i hi h2⟩
theorem Mw.cells {k : Nat} {o : Obj} (h : Mw q r w w1) (hk : w.heap[k]? = some o) (h1 : k ≠ q) (h2 : k ≠ r) : w1.heap[k]? = some o := (h.block k (Array.getElem?_eq_some_iff.1 hk).1 h1 h2).trans hk
/-- A store into the first block, or into one that was not there. -/
theorem Mw.setCell (h : Mw q r w w1) (g i : Nat) (v : Value) (hg : g = q ∨ w.heap.size ≤ g) : Mw q r w (w1.setCell ⟨g, i, none⟩ v) :=
  ⟨h.os, h.tape, h.output, by rw [size_set]; exact h.size, fun k hk h1 h2 => (heap_setCell_other w1 ⟨g, i, none⟩ k v (by show k ≠ g; rcases hg with e | e; rw [e]; exact h1; omega)).trans (h.block k hk h1 h2)⟩
/-- One more block, that was not there, may have turned. -/
theorem Mw.of_new {b : Nat} (h : Mw q r w w1) (k : Mv b w1 w2) (hb : w.heap.size ≤ b) : Mw q r w w2 :=
  ⟨k.os.trans h.os, k.tape.trans h.tape, k.output.trans h.output, Nat.le_trans h.size k.size, fun i hi h1 h2 => (k.block i (Nat.lt_of_lt_of_le hi h.size) (by omega)).trans (h.block i hi h1 h2)⟩
end
/-- Where the reader of a proof stands. -/
structure RS (q rb wd : Nat) (lo hi s : ByteArray) (a cnt : Nat) (w : World) : Prop where
  pr : PR q rb wd lo hi cnt w
  rd : Rd rb s a false w
theorem RS.below {q rb wd : Nat} {lo hi s : ByteArray} {a cnt : Nat} {w w' : World} (h : RS q rb wd lo hi s a cnt w) (hb : Below w.heap.size w w') : RS q rb wd lo hi s a cnt w' := ⟨below_cells hb h.pr, below_cells hb h.rd⟩
theorem RS.step {q rb wd : Nat} {lo hi s : ByteArray} {a a' cnt : Nat} {w w' : World} (h : RS q rb wd lo hi s a cnt w) (hr : Rd rb s a' false w') (hm : Mv rb w w') : RS q rb wd lo hi s a' cnt w' := ⟨hm.cells h.pr (h.pr.ne h.rd), hr⟩
theorem KT.mw {q rb wd : Nat} {lo hi s : ByteArray} {a cnt : Nat} {w w' : World} (hK : KT w) (h : RS q rb wd lo hi s a cnt w) (hm : Mw q rb w w') : KT w' := fun j hj => by
  have h0 := hK 0 (by omega)
  have hl0 : 0 < w.heap.size := World.block_lt_of_cell? w _ h0
  have n1 : (0 : Nat) ≠ q := fun e => by
    have := Lib.cell_of_heap h.pr 0
    rw [← e, h0] at this
    simp at this
  have n2 : (0 : Nat) ≠ rb := fun e => by
    have := Lib.cell_of_heap h.rd 0
    rw [← e, h0] at this
    simp at this
  have e := hm.block 0 hl0 n1 n2
  rw [← hK j hj]
  unfold World.cell?
  simp only [e]
/-- What the reading of a subtree leaves. -/
def SubPost (q rb wd : Nat) (lo hi s : ByteArray) (R : Option (PT × Nat × Nat)) (w : World) (e : Ending) (w' : World) : Prop :=
  (∀ t a' c', R = some (t, a', c') → ∃ x, e = .returned x ∧ PA wd w.heap.size t x w' ∧ RS q rb wd lo hi s a' c' w') ∧ (R = none → e = badP) ∧ Mw q rb w w'
end Go.Proofs.YtibjhkpgaaapaaaGreatDoor
