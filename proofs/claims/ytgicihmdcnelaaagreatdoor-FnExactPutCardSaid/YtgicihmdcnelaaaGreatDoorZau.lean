import Derived.Test.YtgicihmdcnelaaaGreatDoorZao
import Derived.Test.YtgicihmdcnelaaaGreatDoorZak
import Derived.Test.YtgicihmdcnelaaaGreatDoorZan
import Derived.Deep.RegionLaw
namespace Go.Proofs.YtgicihmdcnelaaaGreatDoor
open Go.RowKit Go.Proofs.Sha

theorem subsB_any (b : Nat) (hash over under : ByteArray) (par : Option Addr) (k v l r : ByteArray) (pl pr : Option Addr) (w : World) (h : BF b hash over under par k v l r pl pr w) : Calls Tryz.prog 167 #[.pointer (some ⟨b, 0, none⟩)] w fun e w' => e = .returned (.tuple #[.pointer pl, .pointer pr]) ∧ Below w.heap.size w w' := by
  have c8 : w.cell? ⟨b, 8, none⟩ = some (.pointer pl) := Lib.cell_of_heap h 8
  have c9 : w.cell? ⟨b, 9, none⟩ = some (.pointer pr) := Lib.cell_of_heap h 9
  clear h
  go_enter Tryz.func167, Tryz.ntmps167
  go_wp2_with fail
  go_region_held3 (fun W => W.cell? ⟨b, 8, none⟩ = some (.pointer pl) ∧ W.cell? ⟨b, 9, none⟩ = some (.pointer pr)) (exact ⟨c8, c9⟩) (fail)
  go_wp2_with fail
  go_ret2
  exact ⟨rfl, (Below.refl _ _).drew⟩
theorem pairB_any (b : Nat) (hash over under : ByteArray) (par : Option Addr) (k v l r : ByteArray) (pl pr : Option Addr) (w : World) (h : BF b hash over under par k v l r pl pr w) : Calls Tryz.prog 117 #[.pointer (some ⟨b, 0, none⟩)] w fun e w' => e = .returned (.agg #[.string k, .string v]) ∧ Below w.heap.size w w' := by
  have hlt := (Array.getElem?_eq_some_iff.1 h).1
  have hA := (Below.heap_alloc w (.cells #[.string ⟨#[]⟩, .string ⟨#[]⟩] 60) b hlt).trans h
  have c4 : (w.alloc (.cells #[.string ⟨#[]⟩, .string ⟨#[]⟩] 60)).cell? ⟨b, 4, none⟩ = some (.string k) := Lib.cell_of_heap hA 4
  have c5 : (w.alloc (.cells #[.string ⟨#[]⟩, .string ⟨#[]⟩] 60)).cell? ⟨b, 5, none⟩ = some (.string v) := Lib.cell_of_heap hA 5
  have hN := heap_alloc_new w (.cells #[.string ⟨#[]⟩, .string ⟨#[]⟩] 60)
  have hb : Below w.heap.size w (w.alloc (.cells #[.string ⟨#[]⟩, .string ⟨#[]⟩] 60)) := (Below.refl _ _).alloc (Nat.le_refl _) _
  clear h hA
  go_enter Tryz.func117, Tryz.ntmps117
  go_wp2_with fail
  generalize w.alloc (.cells #[.string ⟨#[]⟩, .string ⟨#[]⟩] 60) = W at c4 c5 hN hb ⊢
  obtain ⟨gp, hgp⟩ : ∃ gp, w.heap.size = gp := ⟨_, rfl⟩
  rw [hgp] at hN ⊢
  have hgl : w.heap.size ≤ gp := Nat.le_of_eq hgp
  clear hgp
  have p0 : W.cell? ⟨gp, 0, none⟩ = some (.string ⟨#[]⟩) := Lib.cell_of_heap hN 0
  have p1 : W.cell? ⟨gp, 1, none⟩ = some (.string ⟨#[]⟩) := Lib.cell_of_heap hN 1
  have fp : ∀ j, W.frozen? ⟨gp, j, none⟩ = false := fun j => by rw [World.frozen?, hN]; rfl
  go_region
  have hN2 := heap_setCell_same _ gp 1 _ 60 (.string v) (heap_setCell_same _ gp 0 _ 60 (.string k) hN)
  have hb2 : Below w.heap.size w ((W.setCell ⟨gp, 0, none⟩ (.string k)).setCell ⟨gp, 1, none⟩ (.string v)).drew := ((hb.setCell hgl _).setCell hgl _).drew
  have hN3 : ((W.setCell ⟨gp, 0, none⟩ (.string k)).setCell ⟨gp, 1, none⟩ (.string v)).drew.heap[gp]? = some (.cells #[.string k, .string v] 60) := hN2
  generalize ((W.setCell ⟨gp, 0, none⟩ (.string k)).setCell ⟨gp, 1, none⟩ (.string v)).drew = W2 at hb2 hN3 ⊢
  have q0 : W2.cell? ⟨gp, 0, none⟩ = some (.string k) := Lib.cell_of_heap hN3 0
  have q1 : W2.cell? ⟨gp, 1, none⟩ = some (.string v) := Lib.cell_of_heap hN3 1
  clear c4 c5 p0 p1 fp hN hN2 hN3
  go_wp2_with fail
  exact bodyPost_ret (v := .agg #[.string k, .string v]) (by simp [results, Tryz.results117, go_sem, q0, q1]) rfl ⟨rfl, hb2⟩
theorem goInto_none (lo hi : ByteArray) (w : World) : Calls Tryz.prog 114 #[.agg #[.string lo, .string hi], .pointer none] w fun e w' => e = .returned (.bool false) ∧ Below w.heap.size w w' := by
  have hb : Below w.heap.size w (w.alloc (.cells #[.string lo, .string hi] 138)) := (Below.refl _ _).alloc (Nat.le_refl _) _
  have hN := heap_alloc_new w (.cells #[.string lo, .string hi] 138)
  have n0 : (w.alloc (.cells #[.string lo, .string hi] 138)).cell? ⟨w.heap.size, 0, none⟩ = some (.string lo) := Lib.cell_of_heap hN 0
  have n1 : (w.alloc (.cells #[.string lo, .string hi] 138)).cell? ⟨w.heap.size, 1, none⟩ = some (.string hi) := Lib.cell_of_heap hN 1
  have q : ∀ w', (binOp .neq 155 (.pointer none) (.pointer none)).run Tryz.prog w' = .ok (.bool false) w' := fun w' => by
    have := ptr_eqlB none none w' (.inl rfl) (.inl rfl)
    simp only [binOp] at this ⊢
    cases hq : (Op.equal 155 (.pointer none) (.pointer none)).run Tryz.prog w' <;> simp_all
  clear hN
  go_enter Tryz.func114, Tryz.ntmps114
  go_wp2_with fail
  go_quiet (first | fail)
  go_wp2_with fail
  go_ret
  exact ⟨rfl, draws_below _ hb⟩
theorem goInto_some (lo hi : ByteArray) (b : Nat) (hash over under : ByteArray) (par : Option Addr) (w : World) (h : BR b hash over under par w) : Calls Tryz.prog 114 #[.agg #[.string lo, .string hi], .pointer (some ⟨b, 0, none⟩)] w fun e w' => e = .returned (.bool (canW over under lo hi)) ∧ Below w.heap.size w w' := by
  have hlt := (Array.getElem?_eq_some_iff.1 h).1
  have hA := (Below.heap_alloc w (.cells #[.string lo, .string hi] 138) b hlt).trans h
  have hN := heap_alloc_new w (.cells #[.string lo, .string hi] 138)
  have hb : Below w.heap.size w (w.alloc (.cells #[.string lo, .string hi] 138)) := (Below.refl _ _).alloc (Nat.le_refl _) _
  have hP : Ptr (some ⟨b, 0, none⟩) (w.alloc (.cells #[.string lo, .string hi] 138)) := .inr ⟨b, _, _, rfl, hA⟩
  have HC := fun w' => can_any lo hi over under par w'
  go_enter Tryz.func114, Tryz.ntmps114
  go_wp2_with fail
  generalize w.alloc (.cells #[.string lo, .string hi] 138) = W at hA hN hb hP ⊢
  obtain ⟨ga, hga⟩ : ∃ ga, w.heap.size = ga := ⟨_, rfl⟩
  rw [hga] at hN ⊢
  have c1 : W.cell? ⟨b, 1, none⟩ = some (.string over) := Lib.cell_of_heap hA 1
  have c2 : W.cell? ⟨b, 2, none⟩ = some (.string under) := Lib.cell_of_heap hA 2
  have c3 : W.cell? ⟨b, 3, none⟩ = some (.pointer par) := Lib.cell_of_heap hA 3
  have n0 : W.cell? ⟨ga, 0, none⟩ = some (.string lo) := Lib.cell_of_heap hN 0
  have n1 : W.cell? ⟨ga, 1, none⟩ = some (.string hi) := Lib.cell_of_heap hN 1
  have q : (binOp .neq 155 (.pointer (some ⟨b, 0, none⟩)) (.pointer none)).run Tryz.prog W = .ok (.bool true) W := by
    have := ptr_eqlB (some ⟨b, 0, none⟩) none W hP (.inl rfl)
    simp only [binOp] at this ⊢
    cases hq : (Op.equal 155 (.pointer (some ⟨b, 0, none⟩)) (.pointer none)).run Tryz.prog W <;> simp_all
  have q2 : (binOp .neq 155 (.pointer (some ⟨b, 0, none⟩)) (.pointer none)).run Tryz.prog W.drew = .ok (.bool true) W.drew := by
    have hP2 : Ptr (some ⟨b, 0, none⟩) W.drew := .inr ⟨b, _, _, rfl, hA⟩
    have := ptr_eqlB (some ⟨b, 0, none⟩) none W.drew hP2 (.inl rfl)
    simp only [binOp] at this ⊢
    cases hq : (Op.equal 155 (.pointer (some ⟨b, 0, none⟩)) (.pointer none)).run Tryz.prog W.drew <;> simp_all
  clear hP hga h
  go_region_held3 (fun W => W.cell? ⟨b, 1, none⟩ = some (.string over) ∧ W.cell? ⟨b, 2, none⟩ = some (.string under) ∧ W.cell? ⟨b, 3, none⟩ = some (.pointer par) ∧ W.cell? ⟨ga, 0, none⟩ = some (.string lo) ∧ W.cell? ⟨ga, 1, none⟩ = some (.string hi)) (first | exact ⟨c1, c2, c3, n0, n1⟩ | exact ⟨Lib.cell_of_heap hA2 1, Lib.cell_of_heap hA2 2, Lib.cell_of_heap hA2 3, Lib.cell_of_heap hN2 0, Lib.cell_of_heap hN2 1⟩) (first | (go_at_call 130; refine (HC _).mono ?_; rintro e w2 ⟨rfl, hb2⟩; have hA2 := (hb2.block b (Array.getElem?_eq_some_iff.1 hA).1).trans hA; have hN2 := (hb2.block ga (Array.getElem?_eq_some_iff.1 hN).1).trans hN))
  go_wp2_with fail
  go_ret
  exact ⟨rfl, hb.trans (((Below.refl W.heap.size W).drew.trans hb2).mono hb.size)⟩
end Go.Proofs.YtgicihmdcnelaaaGreatDoor
namespace Go.Proofs.YtgicihmdcnelaaaGreatDoor
open Go.RowKit Go.Proofs.Sha

/-- A row of pairs. -/
def Is53 (k : Nat) (w : World) : Prop := ∃ cur t, w.heap[k]? = some (.cells cur 60 t)
/-- What may have turned: the blocks of 'N', rows of pairs from 'base' on, and what is new. -/
structure Fr (base : Nat) (N : Nat → Prop) (w w' : World) : Prop where
  os : w'.os = w.os
  tape : w'.tape = w.tape
  output : w'.output = w.output
  size : w.heap.size ≤ w'.heap.size
  block : ∀ k, k < w.heap.size → ¬ N k → ¬ (base ≤ k ∧ Is53 k w) → w'.heap[k]? = w.heap[k]?
section
variable {base : Nat} {N N' : Nat → Prop} {w w' w1 w2 : World}
theorem Fr.refl (base : Nat) (N : Nat → Prop) (w : World) : Fr base N w w := ⟨rfl, rfl, rfl, Nat.le_refl _, fun _ _ _ _ => rfl⟩
theorem Fr.trans (h : Fr base N w w1) (k : Fr base N' w1 w2) (hN : ∀ q, q < w.heap.size → N' q → N q) : Fr base N w w2 := by
  refine ⟨k.os.trans h.os, k.tape.trans h.tape, k.output.trans h.output, Nat.le_trans h.size k.size, fun q hq h1 h2 => ?_⟩
  have e := h.block q hq h1 h2
  refine (k.block q (Nat.lt_of_lt_of_le hq h.size) (fun x => h1 (hN q hq x)) (fun x => h2 ⟨x.1, ?_⟩)).trans e
  obtain ⟨cur, t, hx⟩ := x.2
  exact ⟨cur, t, e.symm.trans hx⟩
theorem Fr.mono (h : Fr base N w w1) (hN : ∀ q, q < w.heap.size → N q → N' q) : Fr base N' w w1 := ⟨h.os, h.tape, h.output, h.size, fun q hq h1 h2 => h.block q hq (fun x => h1 (hN q hq x)) h2⟩
theorem Fr.of_below (h : Below w.heap.size w w1) : Fr base N w w1 := ⟨h.os, h.tape, h.output, h.size, fun q hq _ _ => h.block q hq⟩
theorem Fr.of_grown {v : Value} {m : Nat} {xs : List Value} (h : w.grownBy w1 v.ownBlock) (ho : w.ownsRow base 60 2 v m xs) : Fr base N w w1 :=
  ⟨h.os, h.tape, h.output, h.size, fun q hq _ h2 => h.block q hq (fun e => h2 (by obtain ⟨e1, _, cur, e3⟩ := own2_cells ho e.symm; exact ⟨e1, cur, _, e3⟩))⟩
theorem Fr.setCell (h : Fr base N w w1) (g o : Nat) (v : Value) (hg : N g ∨ w.heap.size ≤ g) : Fr base N w (w1.setCell ⟨g, o, none⟩ v) := by
  have hb : Below g w1 (w1.setCell ⟨g, o, none⟩ v) := Below.setCell (p := ⟨g, o, none⟩) (Below.refl g w1) (Nat.le_refl g) v
  refine ⟨hb.os.trans h.os, hb.tape.trans h.tape, hb.output.trans h.output, Nat.le_trans h.size hb.size, fun q hq h1 h2 => ?_⟩
  rw [Below.heap_setCell _ _ _ _ (by show q ≠ g; intro e; subst e; rcases hg with hg | hg; exact h1 hg; omega)]
  exact h.block q hq h1 h2
theorem Fr.drew (h : Fr base N w w1) : Fr base N w w1.drew := ⟨h.os, h.tape, h.output, h.size, h.block⟩
theorem Fr.keep {q : Nat} {cs : Array Value} {t : TypeId} {z : Nat × Nat} (h : Fr base N w w1) (hq : w.heap[q]? = some (.cells cs t z)) (h1 : ¬ N q) (ht : t ≠ 60 ∨ q < base) : w1.heap[q]? = some (.cells cs t z) := by
  refine (h.block q (Array.getElem?_eq_some_iff.1 hq).1 h1 ?_).trans hq
  rintro ⟨h2, cur, z', h3⟩
  rw [hq] at h3
  rcases ht with ht | ht
  · simp only [Option.some.injEq, Obj.cells.injEq] at h3
    exact ht h3.2.1
  · omega
end
/-- The list that is put together, in the variable that is captured. -/
structure LS (c base : Nat) (ps : List PairT) (a : Option Addr) (cap : Nat) (w : World) : Prop where
  blk : w.heap[c]? = some (.cells #[.slice a ps.length cap] 33)
  own : w.ownsRow base 60 2 (.slice a ps.length cap) ps.length (flatP ps)
  hb : base ≤ w.heap.size
theorem LS.below {c base : Nat} {ps : List PairT} {a : Option Addr} {cap : Nat} {w w' : World} (h : LS c base ps a cap w) (hb : Below w.heap.size w w') : LS c base ps a cap w' :=
  ⟨(hb.block c (Array.getElem?_eq_some_iff.1 h.blk).1).trans h.blk, own2_kept h.own (fun g _ hg => hb.block g hg), Nat.le_trans h.hb hb.size⟩
end Go.Proofs.YtgicihmdcnelaaaGreatDoor
