import Derived.Test.YtibjhkpgaaapaaaGreatDoorZxbh
import Derived.Test.YtibjhkpgaaapaaaGreatDoorZxbd
namespace Go.Proofs.YtibjhkpgaaapaaaGreatDoor
open Go.RowKit Go.Proofs.Sha

instance (s : ByteArray) (a : Nat) : Decidable (pieceOk s a) := by unfold pieceOk; exact inferInstance
/-- A pair may stand at this place. -/
def okAt (over under par k v : ByteArray) : Bool := (okKey k && okVal v) && (insW over under k && parW hgW par k)
/-- A sized text at a place, and the place behind it. -/
def pieceT (s : ByteArray) (a : Nat) : ByteArray := s.extract (a + 2) (a + 2 + szAt s a)
def pieceE (s : ByteArray) (a : Nat) : Nat := a + 2 + szAt s a
/-- The reading of a proof of a subtree: the proof, the place behind it, how many F so far. -/
def rdP (s lo hi : ByteArray) (wd : Nat) : Nat → Nat → ByteArray → ByteArray → ByteArray → Nat → Option (PT × Nat × Nat)
  | 0, _, _, _, _, _ => none
  | f + 1, a, over, under, par, cnt =>
    if a < s.size then
      if bAt s a = 69 then some (.e, a + 1, cnt)
      else if bAt s a = 83 then
        if canW over under lo hi = false ∧ a + 1 + wd ≤ s.size then some (.s (s.extract (a + 1) (a + 1 + wd)), a + 1 + wd, cnt) else none
      else if bAt s a = 70 ∧ canW over under lo hi = true then
        if cnt + 1 ≤ 500 ∧ pieceOk s (a + 1) ∧ pieceOk s (pieceE s (a + 1)) ∧ okAt over under par (pieceT s (a + 1)) (pieceT s (pieceE s (a + 1))) = true then
          match rdP s lo hi wd f (pieceE s (pieceE s (a + 1))) over (pieceT s (a + 1)) (pieceT s (a + 1)) (cnt + 1) with
          | none => none
          | some (l, a3, c3) =>
            match rdP s lo hi wd f a3 (pieceT s (a + 1)) under (pieceT s (a + 1)) c3 with
            | none => none
            | some (r, a4, c4) => some (.f (pieceT s (a + 1)) (pieceT s (pieceE s (a + 1))) l r, a4, c4)
        else none
      else none
    else none
/-- Where a reading ends. -/
theorem rdP_ok {s lo hi : ByteArray} {wd : Nat} : ∀ (f a : Nat) (over under par : ByteArray) (cnt : Nat) (t : PT) (a' c' : Nat), cnt ≤ 500 → rdP s lo hi wd f a over under par cnt = some (t, a', c') → a < a' ∧ a' ≤ s.size ∧ cnt ≤ c' ∧ c' ≤ 500
  | 0, _, _, _, _, _, _, _, _, _, h => by cases h
  | f + 1, a, over, under, par, cnt, t, a', c', hc, h => by
    rw [rdP] at h
    split at h
    · split at h
      · cases h; omega
      · split at h
        · split at h
          · rename_i h2; cases h; omega
          · cases h
        · split at h
          · split at h
            · rename_i hx
              obtain ⟨h1, h2, h3, _⟩ := hx
              split at h
              · cases h
              · rename_i l a3 c3 hl
                split at h
                · cases h
                · rename_i r a4 c4 hr
                  cases h
                  have il := rdP_ok f _ _ _ _ _ _ _ _ h1 hl
                  have ir := rdP_ok f _ _ _ _ _ _ _ _ il.2.2.2 hr
                  have e1 : a + 1 + 2 ≤ pieceE s (a + 1) := by unfold pieceE; omega
                  have e2 : pieceE s (a + 1) + 2 ≤ pieceE s (pieceE s (a + 1)) := by unfold pieceE; omega
                  omega
            · cases h
          · cases h
    · cases h
/-- Of what was there only two blocks may have turned. -/
structure Mw (q r : Nat) (w w' : World) : Prop where
  os : w'.os = w.os
  tape : w'.tape = w.tape
  output : w'.output = w.output
  size : w.heap.size ≤ w'.heap.size
  block : ∀ k, k < w.heap.size → k ≠ q → k ≠ r → w'.heap[k]? = w.heap[k]?
section
variable {q r : Nat} {w w' w1 w2 : World}
theorem Mw.refl (q r : Nat) (w : World) : Mw q r w w := ⟨rfl, rfl, rfl, Nat.le_refl _, fun _ _ _ _ => rfl⟩
theorem Mw.trans (h : Mw q r w w1) (k : Mw q r w1 w2) : Mw q r w w2 :=
  ⟨k.os.trans h.os, k.tape.trans h.tape, k.output.trans h.output, Nat.le_trans h.size k.size, fun i hi h1 h2 => (k.block i (Nat.lt_of_lt_of_le hi h.size) h1 h2).trans (h.block i hi h1 h2)⟩
theorem Mw.of_below (h : Below w.heap.size w w1) : Mw q r w w1 := ⟨h.os, h.tape, h.output, h.size, fun i hi _ _ => h.block i hi⟩
theorem Mw.of_mv (h : Mv r w w1) : Mw q r w w1 := ⟨h.os, h.tape, h.output, h.size, fun i hi _ h2 => h.block i hi h2⟩
theorem Mw.cells {k : Nat} {o : Obj} (h : Mw q r w w1) (hk : w.heap[k]? = some o) (h1 : k ≠ q) (h2 : k ≠ r) : w1.heap[k]? = some o := (h.block k (Array.getElem?_eq_some_iff.1 hk).1 h1 h2).trans hk
/-- A store into the first block, or into one that was not there. -/
theorem Mw.setCell (h : Mw q r w w1) (g i : Nat) (v : Value) (hg : g = q ∨ w.heap.size ≤ g) : Mw q r w (w1.setCell ⟨g, i, none⟩ v) :=
  ⟨h.os, h.tape, h.output, by rw [size_set]; exact h.size, fun k hk h1 h2 => (heap_setCell_other w1 ⟨g, i, none⟩ k v (by show k ≠ g; rcases hg with e | e; rw [e]; exact h1; omega)).trans (h.block k hk h1 h2)⟩
/-- One more block, that was not there, may have turned. -/
theorem Mw.of_new {b : Nat} (h : Mw q r w w1) (k : Mv b w1 w2) (hb : w.heap.size ≤ b) : Mw q r w w2 :=
  ⟨k.os.trans h.os, k.tape.trans h.tape, k.output.trans h.output, Nat.le_trans h.size k.size, fun i hi h1 h2 => (k.block i (Nat.lt_of_lt_of_le hi h.size) (by omega)).trans (h.block i hi h1 h2)⟩
end
/-- Where the reader of a proof stands. -/
structure RS (q rb wd : Nat) (lo hi s : ByteArray) (a cnt : Nat) (w : World) : Prop where
  pr : PR q rb wd lo hi cnt w
  rd : Rd rb s a false w
theorem RS.below {q rb wd : Nat} {lo hi s : ByteArray} {a cnt : Nat} {w w' : World} (h : RS q rb wd lo hi s a cnt w) (hb : Below w.heap.size w w') : RS q rb wd lo hi s a cnt w' := ⟨below_cells hb h.pr, below_cells hb h.rd⟩
theorem RS.step {q rb wd : Nat} {lo hi s : ByteArray} {a a' cnt : Nat} {w w' : World} (h : RS q rb wd lo hi s a cnt w) (hr : Rd rb s a' false w') (hm : Mv rb w w') : RS q rb wd lo hi s a' cnt w' := ⟨hm.cells h.pr (h.pr.ne h.rd), hr⟩
theorem KT.mw {q rb wd : Nat} {lo hi s : ByteArray} {a cnt : Nat} {w w' : World} (hK : KT w) (h : RS q rb wd lo hi s a cnt w) (hm : Mw q rb w w') : KT w' := fun j hj => by
  have h0 := hK 0 (by omega)
  have hl0 : 0 < w.heap.size := World.block_lt_of_cell? w _ h0
  have n1 : (0 : Nat) ≠ q := fun e => by
    have := Lib.cell_of_heap h.pr 0
    rw [← e, h0] at this
    simp at this
  have n2 : (0 : Nat) ≠ rb := fun e => by
    have := Lib.cell_of_heap h.rd 0
    rw [← e, h0] at this
    simp at this
  have e := hm.block 0 hl0 n1 n2
  rw [← hK j hj]
  unfold World.cell?
  simp only [e]
/-- What the reading of a subtree leaves. -/
def SubPost (q rb wd : Nat) (lo hi s : ByteArray) (R : Option (PT × Nat × Nat)) (w : World) (e : Ending) (w' : World) : Prop :=
  (∀ t a' c', R = some (t, a', c') → ∃ x, e = .returned x ∧ PA wd w.heap.size t x w' ∧ RS q rb wd lo hi s a' c' w') ∧ (R = none → e = badP) ∧ Mw q rb w w'
end Go.Proofs.YtibjhkpgaaapaaaGreatDoor
