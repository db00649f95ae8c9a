import Derived.Test.YtliapnhckdimoacGreatDoorZi
import Derived.Test.YtliapnhckdimoacGreatDoorZj
namespace Go.Proofs.YtliapnhckdimoacGreatDoor
open Go.RowKit Go.Proofs.Sha

/-- All but two rows stands still. -/
structure Only (aN aR : Option Addr) (w w' : World) : Prop where
  os : w'.os = w.os
  tape : w'.tape = w.tape
  output : w'.output = w.output
  size : w.heap.size ≤ w'.heap.size
  block : ∀ k, k < w.heap.size → (∀ o, aN ≠ some ⟨k, o, none⟩) → (∀ o, aR ≠ some ⟨k, o, none⟩) → w'.heap[k]? = w.heap[k]?
theorem Only.of_below {aN aR : Option Addr} {w w' : World} (h : Below w.heap.size w w') : Only aN aR w w' := ⟨h.os, h.tape, h.output, h.size, fun k hk _ _ => h.block k hk⟩
theorem Only.trans {aN aR : Option Addr} {a b c : World} (h : Only aN aR a b) (k : Only aN aR b c) : Only aN aR a c :=
  ⟨k.os.trans h.os, k.tape.trans h.tape, k.output.trans h.output, Nat.le_trans h.size k.size, fun i h1 h2 h3 => (k.block i (Nat.lt_of_lt_of_le h1 h.size) h2 h3).trans (h.block i h1 h2 h3)⟩
theorem own_some {a : Option Addr} {n c g : Nat} (h : (Value.slice a n c).ownBlock = some g) : ∃ o q, a = some ⟨g, o, q⟩ := by
  cases a with
  | none => cases h
  | some b => obtain ⟨x, y, z⟩ := b; obtain rfl : x = g := Option.some.inj h; exact ⟨y, z, rfl⟩
theorem Only.of_markN {aN aR : Option Addr} {n c : Nat} {w w' : World} {base : Nat} {xs : List Value} (hs : SRow w base aN n c xs) (h : w.grownBy w' (if n = 0 then none else (Value.slice aN n c).ownBlock)) : Only aN aR w w' :=
  ⟨h.os, h.tape, h.output, h.size, fun k hk h1 _ => h.block k hk (fun e => by
    rcases hs with h0 | ⟨g, rfl, _⟩
    · rw [if_pos h0] at e; cases e
    · split at e
      · cases e
      · have : k = g := Option.some.inj e
        subst this; exact h1 0 rfl)⟩
theorem Only.of_markR {aN aR : Option Addr} {n c : Nat} {w w' : World} {base : Nat} {xs : List Value} (hs : SRow w base aR n c xs) (h : w.grownBy w' (if n = 0 then none else (Value.slice aR n c).ownBlock)) : Only aN aR w w' :=
  ⟨h.os, h.tape, h.output, h.size, fun k hk _ h1 => h.block k hk (fun e => by
    rcases hs with h0 | ⟨g, rfl, _⟩
    · rw [if_pos h0] at e; cases e
    · split at e
      · cases e
      · have : k = g := Option.some.inj e
        subst this; exact h1 0 rfl)⟩

set_option maxRecDepth 100000 in
set_option maxHeartbeats 400000 in
theorem markScanned_any (M : Nat → ByteArray) (HM : Hid (MarkSaid M)) (base : Nat) (aN : Option Addr) (n cN : Nat) (aR : Option Addr) (r cR : Nat) (fin : Int) (xN xR : List Value) (w : World) (hN : SRow w base aN n cN xN) (hR : SRow w base aR r cR xR) (hd : ∀ g, aN = some ⟨g, 0, none⟩ → aR ≠ some ⟨g, 0, none⟩) (hb : base ≤ w.heap.size) (hl : n + r ≤ 50000) :
    Calls Tryz.prog 7 #[.agg #[.slice aN n cN, .slice aR r cR, .int .i64 fin], .int .i64 1] w fun e w' => e = .returned (.int .i64 ((1 + n + r : Nat) : Int)) ∧ SRow w' base aN n cN (marksV M 1 n) ∧ SRow w' base aR r cR (marksV M (1 + n) r) ∧ Only aN aR w w' := by
  have hbA : Below w.heap.size w (w.alloc (.cells #[.slice aN n cN, .slice aR r cR, .int .i64 fin] 24)) := (Below.refl _ _).alloc (Nat.le_refl _) _
  have nA := heap_alloc_new w (.cells #[.slice aN n cN, .slice aR r cR, .int .i64 fin] 24)
  have hN1 := hN.below hbA
  have hR1 := hR.below hbA
  have H1 : Hid (Calls Tryz.prog 21 #[.slice aN n cN, .int .i64 1] (w.alloc (.cells #[.slice aN n cN, .slice aR r cR, .int .i64 fin] 24)) fun e w' => e = .returned (.int .i64 ((1 + n : Nat) : Int)) ∧ SRow w' base aN n cN (marksV M 1 n) ∧ (w.alloc (.cells #[.slice aN n cN, .slice aR r cR, .int .i64 fin] 24)).grownBy w' (if n = 0 then none else (Value.slice aN n cN).ownBlock)) := mark_s M HM base n cN 1 aN xN _ hN1 (by decide) (by omega) (by simp; omega)
  have H2 : Hid (∀ w', SRow w' base aR r cR xR → base ≤ w'.heap.size → Calls Tryz.prog 21 #[.slice aR r cR, .int .i64 ((1 + n : Nat) : Int)] w' fun e w'' => e = .returned (.int .i64 ((1 + n + r : Nat) : Int)) ∧ SRow w'' base aR r cR (marksV M (1 + n) r) ∧ w'.grownBy w'' (if r = 0 then none else (Value.slice aR r cR).ownBlock)) := fun w' h hb' => mark_s M HM base r cR (1 + n) aR xR w' h (by omega) (by omega) hb'
  obtain ⟨mR, hmR⟩ : ∃ mR, marksV M (1 + n) r = mR := ⟨_, rfl⟩
  rw [hmR] at H2
  rw [hmR]
  obtain ⟨p, hp⟩ : ∃ p : Nat, 1 + n = p := ⟨_, rfl⟩
  obtain ⟨q, hq⟩ : ∃ q : Nat, 1 + n + r = q := ⟨_, rfl⟩
  rw [hq] at H2
  rw [hp] at H1 H2
  rw [hq]
  clear hp hq hmR
  obtain ⟨ga, hga⟩ : ∃ ga, w.heap.size = ga := ⟨_, rfl⟩
  rw [hga] at nA
  have hoA : Only aN aR w (w.alloc (.cells #[.slice aN n cN, .slice aR r cR, .int .i64 fin] 24)) := Only.of_below hbA
  have hsA : (w.alloc (.cells #[.slice aN n cN, .slice aR r cR, .int .i64 fin] 24)).heap.size = ga + 1 := by simp; omega
  have hlN : ∀ g, aN = some ⟨g, 0, none⟩ → n ≠ 0 → g < ga := fun g e hn => by
    rcases hN with h | ⟨g', e', h⟩
    · exact absurd h hn
    · rw [e] at e'; cases e'; have := h.lt; omega
  replace hga : Hid (w.heap.size = ga) := hga
  go_enter Tryz.func7, Tryz.ntmps7
  go_upto_region 1 with fail
  try rw [hga.out]
  generalize w.alloc (.cells #[.slice aN n cN, .slice aR r cR, .int .i64 fin] 24) = wa at nA hN1 hR1 H1 hoA hsA ⊢
  have c0 := Lib.cell_of_heap nA 0
  go_upto_region 2 with (first | (go_at_call 21; refine H1.out.mono ?_; rintro e w1 ⟨rfl, hN2, hg2⟩))
  have hR2 : SRow w1 base aR r cR xR := hR1.kept hg2 (fun g e => by
    intro e2
    split at e2
    · cases e2
    · rename_i hn
      rcases hN2 with h | ⟨g', e', _⟩
      · exact hn h
      · subst e'
        have : g = g' := Option.some.inj e2
        subst this
        exact hd g rfl e)
  have nA2 : w1.heap[ga]? = some (.cells #[.slice aN n cN, .slice aR r cR, .int .i64 fin] 24) := (hg2.block ga (by omega) (fun e2 => by
    split at e2
    · cases e2
    · rename_i hn
      rcases hN2 with h | ⟨g', e', _⟩
      · exact hn h
      · subst e'
        have : ga = g' := Option.some.inj e2
        have := hlN g' rfl hn
        omega)).trans nA
  have hs2 := hg2.size
  have hga' := hga.out
  have hsb : base ≤ w1.heap.size := by omega
  have c1 := Lib.cell_of_heap nA2 1
  have ho2 : Only aN aR wa w1 := Only.of_markN hN1 hg2
  clear c0 H1
  go_wp2_with (first | (go_at_call 21; refine (H2.out _ hR2 hsb).mono ?_; rintro e w2 ⟨rfl, hR4, hg4⟩))
  have ho4 : Only aN aR w1 w2 := Only.of_markR hR2 hg4
  have hN4 : SRow w2 base aN n cN (marksV M 1 n) := hN2.kept hg4 (fun g e => by
    intro e2
    split at e2
    · cases e2
    · rename_i hn
      rcases hR4 with h | ⟨g', e', _⟩
      · exact hn h
      · subst e'
        have : g = g' := Option.some.inj e2
        subst this
        exact hd g e rfl)
  go_ret
  exact ⟨rfl, hN4, hR4, (hoA.trans ho2).trans ho4⟩

set_option maxRecDepth 100000 in
theorem heldScanned_any (M : Nat → ByteArray) (HM : Hid (MarkSaid M)) (base : Nat) (aN : Option Addr) (n cN : Nat) (aR : Option Addr) (r cR : Nat) (fin : Int) (w : World) (hN : SRow w base aN n cN (marksV M 1 n)) (hR : SRow w base aR r cR (marksV M (1 + n) r)) (hl : n + r ≤ 50000) :
    Calls Tryz.prog 8 #[.agg #[.slice aN n cN, .slice aR r cR, .int .i64 fin], .int .i64 1] w fun e w' => e = .returned (.int .i64 ((1 + n + r : Nat) : Int)) ∧ Below w.heap.size w w' := by
  have hbA : Below w.heap.size w (w.alloc (.cells #[.slice aN n cN, .slice aR r cR, .int .i64 fin] 24)) := (Below.refl _ _).alloc (Nat.le_refl _) _
  have nA := heap_alloc_new w (.cells #[.slice aN n cN, .slice aR r cR, .int .i64 fin] 24)
  have H1 : Hid (∀ w', Below w.heap.size w w' → Calls Tryz.prog 22 #[.slice aN n cN, .int .i64 1] w' fun e w'' => e = .returned (.int .i64 ((1 + n : Nat) : Int)) ∧ Below w'.heap.size w' w'') := fun w' h => held_s M HM base n cN 1 aN w' (hN.below h) (by decide) (by omega)
  have H2 : Hid (∀ w', Below w.heap.size w w' → Calls Tryz.prog 22 #[.slice aR r cR, .int .i64 ((1 + n : Nat) : Int)] w' fun e w'' => e = .returned (.int .i64 ((1 + n + r : Nat) : Int)) ∧ Below w'.heap.size w' w'') := fun w' h => held_s M HM base r cR (1 + n) aR w' (hR.below h) (by omega) (by omega)
  obtain ⟨p, hp⟩ : ∃ p : Nat, 1 + n = p := ⟨_, rfl⟩
  obtain ⟨q, hq⟩ : ∃ q : Nat, 1 + n + r = q := ⟨_, rfl⟩
  rw [hq] at H2
  rw [hp] at H1 H2
  rw [hq]
  clear hp hq
  obtain ⟨ga, hga⟩ : ∃ ga, w.heap.size = ga := ⟨_, rfl⟩
  rw [hga] at nA
  have z1 : decide ((p : Int) < 0) = false := by rw [decide_eq_false_iff_not]; omega
  have z2 : decide ((q : Int) < 0) = false := by rw [decide_eq_false_iff_not]; omega
  go_enter Tryz.func8, Tryz.ntmps8
  go_upto_region 1 with fail
  try rw [hga]
  generalize w.alloc (.cells #[.slice aN n cN, .slice aR r cR, .int .i64 fin] 24) = wa at nA hbA ⊢
  have c0 := Lib.cell_of_heap nA 0
  go_upto_region 4 with (first | (go_at_call 22; refine (H1.out _ hbA).mono ?_; rintro e w1 ⟨rfl, hb1⟩))
  have nA2 := (hb1.block ga (Array.getElem?_eq_some_iff.1 nA).1).trans nA
  have hb2 := hbA.trans (hb1.mono hbA.size)
  have c1 := Lib.cell_of_heap nA2 1
  clear c0 H1
  go_wp2_with (first | (go_at_call 22; refine (H2.out _ hb2).mono ?_; rintro e w2 ⟨rfl, hb3⟩))
  go_ret
  exact ⟨rfl, hb2.trans (hb3.mono hb2.size)⟩

set_option maxRecDepth 100000 in
theorem eqScanned_same (aN : Option Addr) (cN : Nat) (aR : Option Addr) (cR : Nat) (aN2 : Option Addr) (cN2 : Nat) (aR2 : Option Addr) (cR2 : Nat) (N Rs : List ByteArray) (fin : Int) (w : World) (hN : SArg aN N w) (hR : SArg aR Rs w) (hN2 : SArg aN2 N w) (hR2 : SArg aR2 Rs w) :
    Calls Tryz.prog 6 #[.agg #[.slice aN N.length cN, .slice aR Rs.length cR, .int .i64 fin], .agg #[.slice aN2 N.length cN2, .slice aR2 Rs.length cR2, .int .i64 fin]] w fun e w' => e = .returned (.bool true) ∧ Below w.heap.size w w' := by
  have H1 : Hid (∀ w', Below w.heap.size w w' → Calls Tryz.prog 20 #[.slice aN N.length cN, .slice aN2 N.length cN2] w' fun e w'' => e = .returned (.bool true) ∧ Below w'.heap.size w' w'') := fun w' h => eqStringS_same aN aN2 N cN cN2 w' (hN.below h) (hN2.below h)
  have H2 : Hid (∀ w', Below w.heap.size w w' → Calls Tryz.prog 20 #[.slice aR Rs.length cR, .slice aR2 Rs.length cR2] w' fun e w'' => e = .returned (.bool true) ∧ Below w'.heap.size w' w'') := fun w' h => eqStringS_same aR aR2 Rs cR cR2 w' (hR.below h) (hR2.below h)
  have hb0 : Below w.heap.size w ((w.alloc (.cells #[.slice aN N.length cN, .slice aR Rs.length cR, .int .i64 fin] 24)).alloc (.cells #[.slice aN2 N.length cN2, .slice aR2 Rs.length cR2, .int .i64 fin] 24)) := ((Below.refl _ _).alloc (Nat.le_refl _) _).alloc (by simp) _
  have n1 : ((w.alloc (.cells #[.slice aN N.length cN, .slice aR Rs.length cR, .int .i64 fin] 24)).alloc (.cells #[.slice aN2 N.length cN2, .slice aR2 Rs.length cR2, .int .i64 fin] 24)).heap[w.heap.size]? = some (.cells #[.slice aN N.length cN, .slice aR Rs.length cR, .int .i64 fin] 24) := (Below.heap_alloc _ _ _ (by simp)).trans (heap_alloc_new w _)
  have n2 : ((w.alloc (.cells #[.slice aN N.length cN, .slice aR Rs.length cR, .int .i64 fin] 24)).alloc (.cells #[.slice aN2 N.length cN2, .slice aR2 Rs.length cR2, .int .i64 fin] 24)).heap[w.heap.size + 1]? = some (.cells #[.slice aN2 N.length cN2, .slice aR2 Rs.length cR2, .int .i64 fin] 24) := by
    have := heap_alloc_new (w.alloc (.cells #[.slice aN N.length cN, .slice aR Rs.length cR, .int .i64 fin] 24)) (.cells #[.slice aN2 N.length cN2, .slice aR2 Rs.length cR2, .int .i64 fin] 24)
    rwa [World.size_alloc] at this
  obtain ⟨ga, hga⟩ : ∃ ga, w.heap.size = ga := ⟨_, rfl⟩
  rw [hga] at n1 n2
  have hf : (fin != fin) = false := by simp
  go_enter Tryz.func6, Tryz.ntmps6
  go_upto_region 1 with fail
  try rw [hga]
  generalize (w.alloc (.cells #[.slice aN N.length cN, .slice aR Rs.length cR, .int .i64 fin] 24)).alloc (.cells #[.slice aN2 N.length cN2, .slice aR2 Rs.length cR2, .int .i64 fin] 24) = wa at hb0 n1 n2 ⊢
  have c0 := Lib.cell_of_heap n1 0
  have d0 := Lib.cell_of_heap n2 0
  go_upto_region 3 with (first | (go_at_call 20; refine (H1.out _ hb0).mono ?_; rintro e w1 ⟨rfl, hb1⟩))
  have m1 := (hb1.block ga (Array.getElem?_eq_some_iff.1 n1).1).trans n1
  have m2 := (hb1.block (ga + 1) (Array.getElem?_eq_some_iff.1 n2).1).trans n2
  have hb2 := hb0.trans (hb1.mono hb0.size)
  clear c0 d0 n1 n2 hb0 hb1 H1
  have c1 := Lib.cell_of_heap m1 1
  have d1 := Lib.cell_of_heap m2 1
  go_upto_region 5 with (first | (go_at_call 20; refine (H2.out _ hb2).mono ?_; rintro e w2 ⟨rfl, hb3⟩))
  have k1 := (hb3.block ga (Array.getElem?_eq_some_iff.1 m1).1).trans m1
  have k2 := (hb3.block (ga + 1) (Array.getElem?_eq_some_iff.1 m2).1).trans m2
  have hb4 := hb2.trans (hb3.mono hb2.size)
  clear c1 d1 m1 m2 hb2 hb3 H2
  have c2 := Lib.cell_of_heap k1 2
  have d2 := Lib.cell_of_heap k2 2
  go_wp2_with fail
  go_ret
  exact ⟨rfl, hb4⟩
end Go.Proofs.YtliapnhckdimoacGreatDoor
namespace Go.Proofs.YtliapnhckdimoacGreatDoor
open Go.RowKit Go.Proofs.Sha

/-- No records. -/
def noR : Nat → RecT := fun _ => ⟨0, ⟨#[]⟩, 0, ⟨#[]⟩, 0⟩
theorem post_zero (w w' : World) (hb : Below w.heap.size w w') : ScanPost noR 0 w (.returned (.agg #[.slice none 0 0, .slice none 0 0, .int .i64 0])) w' :=
  ⟨st0, none, 0, none, 0, rfl, Reach.zero, rfl, World.ownsRow_nil _ _ _ _, World.ownsRow_nil _ _ _ _, fun _ e => (by cases e), hb⟩
set_option maxRecDepth 100000 in
theorem scan_impl_bad (s : ByteArray) (n : Int) (hn : ¬ (1 ≤ n ∧ n ≤ 32)) (w : World) : Calls Tryz.prog 5 #[.string s, .int .i64 n] w (ScanPost noR 0 w) := by
  have HW : Hid (∀ w', Calls Tryz.prog 14 #[.int .i64 n] w' fun e w'' => e = .returned (.bool false) ∧ w' = w'') := fun w' => isWidth_b n false (by rw [decide_eq_false hn]) w'
  obtain ⟨gz, hgz⟩ : ∃ gz, w.heap.size = gz := ⟨_, rfl⟩
  have hb : Below w.heap.size w (w.alloc (.cells #[.slice none 0 0, .slice none 0 0, .int .i64 0] 24)) := (Below.refl _ _).alloc (Nat.le_refl _) _
  have nZ := heap_alloc_new w (.cells #[.slice none 0 0, .slice none 0 0, .int .i64 0] 24)
  go_enter Tryz.func5, Tryz.ntmps5
  go_upto_region 1 with fail
  generalize w.alloc (.cells #[.slice none 0 0, .slice none 0 0, .int .i64 0] 24) = w1 at hb nZ ⊢
  rw [hgz] at nZ
  have d0 := Lib.cell_of_heap nZ 0
  have d1 := Lib.cell_of_heap nZ 1
  have d2 := Lib.cell_of_heap nZ 2
  have fz : ∀ j, w1.frozen? ⟨gz, j, none⟩ = false := fun j => by rw [World.frozen?, nZ]; rfl
  have f0 := fz 0
  have f1 := fz 1
  have f2 := fz 2
  clear fz
  go_wp2_with (first | (go_at_call 14; refine (HW.out _).mono ?_; rintro e w2 ⟨rfl, rfl⟩))
  obtain ⟨w5, hw5⟩ : ∃ w5, ((w1.setCell ⟨gz, 0, none⟩ (.slice none 0 0)).setCell ⟨gz, 1, none⟩ (.slice none 0 0)).setCell ⟨gz, 2, none⟩ (.int .i64 0) = w5 := ⟨_, rfl⟩
  have hZ5 : w5.heap[gz]? = some (.cells #[.slice none 0 0, .slice none 0 0, .int .i64 0] 24) := by
    rw [← hw5]; exact heap_setCell_same _ gz 2 _ 24 _ (heap_setCell_same _ gz 1 _ 24 _ (heap_setCell_same _ gz 0 _ 24 _ nZ))
  have hP : ScanPost noR 0 w (.returned (.agg #[.slice none 0 0, .slice none 0 0, .int .i64 0])) w5 := post_zero w w5 (by
    rw [← hw5]
    exact ((hb.setCell (p := ⟨gz, 0, none⟩) (by show _ ≤ gz; omega) _).setCell (p := ⟨gz, 1, none⟩) (by show _ ≤ gz; omega) _).setCell (p := ⟨gz, 2, none⟩) (by show _ ≤ gz; omega) _)
  rw [hw5]
  clear hw5 d0 d1 d2 f0 f1 f2
  have e0 := Lib.cell_of_heap hZ5 0
  have e1 := Lib.cell_of_heap hZ5 1
  have e2 := Lib.cell_of_heap hZ5 2
  refine bodyPost_ret (v := .agg #[.slice none 0 0, .slice none 0 0, .int .i64 0]) ?_ rfl hP
  clear hP
  simp [results, Tryz.results5, go_sem, asAddr, e0, e1, e2]
set_option maxRecDepth 100000 in
theorem scan_spec_bad (s : ByteArray) (n : Int) (hn : ¬ (1 ≤ n ∧ n ≤ 32)) (w : World) : Calls Tryz.prog 4 #[.string s, .int .i64 n] w (ScanPost noR 0 w) := by
  have HW : Hid (∀ w', Calls Tryz.prog 9 #[.int .i64 n] w' fun e w'' => e = .returned (.bool false) ∧ w' = w'') := fun w' => l1w_b n false (by rw [decide_eq_false hn]) w'
  obtain ⟨gz, hgz⟩ : ∃ gz, w.heap.size = gz := ⟨_, rfl⟩
  obtain ⟨wa, hwa⟩ : ∃ wa, (w.alloc (.cells #[.slice none 0 0, .slice none 0 0, .int .i64 0] 24)).alloc (.cells #[.slice none 0 0, .slice none 0 0, .int .i64 0] 24) = wa := ⟨_, rfl⟩
  have n1 : wa.heap[gz]? = some (.cells #[.slice none 0 0, .slice none 0 0, .int .i64 0] 24) := by
    rw [← hwa, ← hgz]; exact (Below.heap_alloc _ _ _ (by simp)).trans (heap_alloc_new w _)
  have n2 : wa.heap[gz + 1]? = some (.cells #[.slice none 0 0, .slice none 0 0, .int .i64 0] 24) := by
    rw [← hwa, ← hgz]
    have := heap_alloc_new (w.alloc (.cells #[.slice none 0 0, .slice none 0 0, .int .i64 0] 24)) (.cells #[.slice none 0 0, .slice none 0 0, .int .i64 0] 24)
    rwa [World.size_alloc] at this
  have hb : Below w.heap.size w wa := by rw [← hwa]; exact ((Below.refl _ _).alloc (Nat.le_refl _) _).alloc (by simp) _
  replace hwa : Hid _ := hwa
  go_enter Tryz.func4, Tryz.ntmps4
  go_upto_region 2 with fail
  rw [hwa.out]
  have c0 := Lib.cell_of_heap n2 0
  have c1 := Lib.cell_of_heap n2 1
  have c2 := Lib.cell_of_heap n2 2
  have d0 := Lib.cell_of_heap n1 0
  have d1 := Lib.cell_of_heap n1 1
  have d2 := Lib.cell_of_heap n1 2
  have fz : ∀ j, wa.frozen? ⟨gz, j, none⟩ = false := fun j => by rw [World.frozen?, n1]; rfl
  have f0 := fz 0
  have f1 := fz 1
  have f2 := fz 2
  clear fz hwa n2
  go_wp2_with (first | (go_at_call 9; refine (HW.out _).mono ?_; rintro e w2 ⟨rfl, rfl⟩))
  obtain ⟨w5, hw5⟩ : ∃ w5, ((wa.setCell ⟨gz, 0, none⟩ (.slice none 0 0)).setCell ⟨gz, 1, none⟩ (.slice none 0 0)).setCell ⟨gz, 2, none⟩ (.int .i64 0) = w5 := ⟨_, rfl⟩
  have hZ5 : w5.heap[gz]? = some (.cells #[.slice none 0 0, .slice none 0 0, .int .i64 0] 24) := by
    rw [← hw5]; exact heap_setCell_same _ gz 2 _ 24 _ (heap_setCell_same _ gz 1 _ 24 _ (heap_setCell_same _ gz 0 _ 24 _ n1))
  have hP : ScanPost noR 0 w (.returned (.agg #[.slice none 0 0, .slice none 0 0, .int .i64 0])) w5 := post_zero w w5 (by
    rw [← hw5]
    exact ((hb.setCell (p := ⟨gz, 0, none⟩) (by show _ ≤ gz; omega) _).setCell (p := ⟨gz, 1, none⟩) (by show _ ≤ gz; omega) _).setCell (p := ⟨gz, 2, none⟩) (by show _ ≤ gz; omega) _)
  rw [hw5]
  clear hw5 c0 c1 c2 d0 d1 d2 f0 f1 f2
  have e0 := Lib.cell_of_heap hZ5 0
  have e1 := Lib.cell_of_heap hZ5 1
  have e2 := Lib.cell_of_heap hZ5 2
  refine bodyPost_ret (v := .agg #[.slice none 0 0, .slice none 0 0, .int .i64 0]) ?_ rfl hP
  clear hP
  simp [results, Tryz.results4, go_sem, asAddr, e0, e1, e2]

/-- What the law wants of the ends that are reached. -/
def EndOk (R : Nat → RecT) (wd : Nat) : Prop := ∀ st, Reach R wd st → st.nodes.length + st.roots.length ≤ 40000 ∧ (∀ j, (st.nodes.getD j ⟨#[]⟩).size ≤ 1048576) ∧ ∀ j, (st.roots.getD j ⟨#[]⟩).size ≤ 1048576
theorem sblk {w w' : World} {g : Nat} {o : Obj} (h : w.heap[g]? = some o) (hb : Below w.heap.size w w') : w'.heap[g]? = some o := (hb.block g (Array.getElem?_eq_some_iff.1 h).1).trans h
theorem Only.sarg {aN aR : Option Addr} {w w' : World} {a : Option Addr} {ss : List ByteArray} (ho : Only aN aR w w') (h : SArg a ss w) (hd : ∀ b off, a = some ⟨b, off, none⟩ → 0 < ss.length → (∀ o, aN ≠ some ⟨b, o, none⟩) ∧ ∀ o, aR ≠ some ⟨b, o, none⟩) : SArg a ss w' := by
  refine ⟨h.le, h.sz, fun hn => ?_⟩
  obtain ⟨b, off, ha, hlt, hc⟩ := h.at_ hn
  obtain ⟨q1, q2⟩ := hd b off ha hn
  exact ⟨b, off, ha, Nat.lt_of_lt_of_le hlt ho.size, fun j hj => (World.cell?_of_block (ho.block b hlt q1 q2)).trans (hc j hj)⟩
end Go.Proofs.YtliapnhckdimoacGreatDoor
