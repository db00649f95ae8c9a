import Derived.Test.YtibjhkpgaaapaaaGreatDoorZvav
import Derived.Test.YtibjhkpgaaapaaaGreatDoorZvbb
import Derived.Deep.RegionLaw
namespace Go.Proofs.YtibjhkpgaaapaaaGreatDoor
open Go.RowKit Go.Proofs.Sha

/-- A row of pairs. -/
def Is53 (k : Nat) (w : World) : Prop := ∃ cur t, w.heap[k]? = some (.cells cur 81 t)
/-- What may have turned: the blocks of 'N', rows of pairs from 'base' on, and what is new. -/
structure Fr (base : Nat) (N : Nat → Prop) (w w' : World) : Prop where
  os : w'.os = w.os
  tape : w'.tape = w.tape
  output : w'.output = w.output
  size : w.heap.size ≤ w'.heap.size
  block : ∀ k, k < w.heap.size → ¬ N k → ¬ (base ≤ k ∧ Is53 k w) → w'.heap[k]? = w.heap[k]?
section
variable {base : Nat} {N N' : Nat → Prop} {w w' w1 w2 : World}
theorem Fr.refl (base : Nat) (N : Nat → Prop) (w : World) : Fr base N w w := ⟨rfl, rfl, rfl, Nat.le_refl _, fun _ _ _ _ => rfl⟩
theorem Fr.trans (h : Fr base N w w1) (k : Fr base N' w1 w2) (hN : ∀ q, q < w.heap.size → N' q → N q) : Fr base N w w2 := by
  refine ⟨k.os.trans h.os, k.tape.trans h.tape, k.output.trans h.output, Nat.le_trans h.size k.size, fun q hq h1 h2 => ?_⟩
  have e := h.block q hq h1 h2
  refine (k.block q (Nat.lt_of_lt_of_le hq h.size) (fun x => h1 (hN q hq x)) (fun x => h2 ⟨x.1, ?_⟩)).trans e
  obtain ⟨cur, t, hx⟩ := x.2
  exact ⟨cur, t, e.symm.trans hx⟩
theorem Fr.mono (h : Fr base N w w1) (hN : ∀ q, q < w.heap.size → N q → N' q) : Fr base N' w w1 := ⟨h.os, h.tape, h.output, h.size, fun q hq h1 h2 => h.block q hq (fun x => h1 (hN q hq x)) h2⟩
theorem Fr.of_below (h : Below w.heap.size w w1) : Fr base N w w1 := ⟨h.os, h.tape, h.output, h.size, fun q hq _ _ => h.block q hq⟩
theorem Fr.of_grown {v : Value} {m : Nat} {xs : List Value} (h : w.grownBy w1 v.ownBlock) (ho : w.ownsRow base 81 2 v m xs) : Fr base N w w1 :=
  ⟨h.os, h.tape, h.output, h.size, fun q hq _ h2 => h.block q hq (fun e => h2 (by obtain ⟨e1, _, cur, e3⟩ := own2_cells ho e.symm; exact ⟨e1, cur, _, e3⟩))⟩
theorem Fr.setCell (h : Fr base N w w1) (g o : Nat) (v : Value) (hg : N g ∨ w.heap.size ≤ g) : Fr base N w (w1.setCell ⟨g, o, none⟩ v) := by
  have hb : Below g w1 (w1.setCell ⟨g, o, none⟩ v) := Below.setCell (p := ⟨g, o, none⟩) (Below.refl g w1) (Nat.le_refl g) v
  refine ⟨hb.os.trans h.os, hb.tape.trans h.tape, hb.output.trans h.output, Nat.le_trans h.size hb.size, fun q hq h1 h2 => ?_⟩
  rw [Below.heap_setCell _ _ _ _ (by show q ≠ g; intro e; subst e; rcases hg with hg | hg; exact h1 hg; omega)]
  exact h.block q hq h1 h2
theorem Fr.drew (h : Fr base N w w1) : Fr base N w w1.drew := ⟨h.os, h.tape, h.output, h.size, h.block⟩
theorem Fr.keep {q : Nat} {cs : Array Value} {t : TypeId} {z : Nat × Nat} (h : Fr base N w w1) (hq : w.heap[q]? = some (.cells cs t z)) (h1 : ¬ N q) (ht : t ≠ 81 ∨ q < base) : w1.heap[q]? = some (.cells cs t z) := by
  refine (h.block q (Array.getElem?_eq_some_iff.1 hq).1 h1 ?_).trans hq
  rintro ⟨h2, cur, z', h3⟩
  rw [hq] at h3
  rcases ht with ht | ht
  · simp only [Option.some.injEq, Obj.cells.injEq] at h3
    exact ht h3.2.1
  · omega
end
/-- The list that is put together, in the variable that is captured. -/
structure LS (c base : Nat) (ps : List PairT) (a : Option Addr) (cap : Nat) (w : World) : Prop where
  blk : w.heap[c]? = some (.cells #[.slice a ps.length cap] 35)
  own : w.ownsRow base 81 2 (.slice a ps.length cap) ps.length (flatP ps)
  hb : base ≤ w.heap.size
theorem LS.below {c base : Nat} {ps : List PairT} {a : Option Addr} {cap : Nat} {w w' : World} (h : LS c base ps a cap w) (hb : Below w.heap.size w w') : LS c base ps a cap w' :=
  ⟨(hb.block c (Array.getElem?_eq_some_iff.1 h.blk).1).trans h.blk, own2_kept h.own (fun g _ hg => hb.block g hg), Nat.le_trans h.hb hb.size⟩
end Go.Proofs.YtibjhkpgaaapaaaGreatDoor
namespace Go.Proofs.YtibjhkpgaaapaaaGreatDoor
open Go.RowKit Go.Proofs.Sha

def pfR (D : Dec) (n : Int) (ss : List ByteArray) (hash : ByteArray) : (ByteArray × ByteArray × ByteArray × ByteArray) × Int :=
  if poolOk n ss.length = true ∧ (hash.size : Int) = n then foundR D ss (firstI (hitB n.toNat ss hash) ss.length) else ((⟨#[]⟩, ⟨#[]⟩, ⟨#[]⟩, ⟨#[]⟩), 1)

/-- A node's block. -/
def NBk (g : Nat) (k v l r : ByteArray) (w : World) : Prop := w.heap[g]? = some (.cells #[.string k, .string v, .string l, .string r] 73)
theorem NBk.below {g : Nat} {k v l r : ByteArray} {w w' : World} (h : NBk g k v l r w) (hb : Below w.heap.size w w') : NBk g k v l r w' := (hb.block g (Array.getElem?_eq_some_iff.1 h).1).trans h
theorem NBk.all {g : Nat} {k v l r : ByteArray} {w : World} (h : NBk g k v l r w) (x y z u : ByteArray) : NBk g x y z u ((((w.setCell ⟨g, 0, none⟩ (.string x)).setCell ⟨g, 1, none⟩ (.string y)).setCell ⟨g, 2, none⟩ (.string z)).setCell ⟨g, 3, none⟩ (.string u)) :=
  heap_setCell_same _ g 3 _ 73 _ (heap_setCell_same _ g 2 _ 73 _ (heap_setCell_same _ g 1 _ 73 _ (heap_setCell_same _ g 0 _ 73 _ h)))
theorem NBk.fr {g j : Nat} {k v l r : ByteArray} {w : World} (h : NBk g k v l r w) : w.frozen? ⟨g, j, none⟩ = false := by rw [World.frozen?, show w.heap[g]? = _ from h]; rfl
structure NBc (g : Nat) (k v l r : ByteArray) (w : World) : Prop where
  c0 : w.cell? ⟨g, 0, none⟩ = some (.string k)
  c1 : w.cell? ⟨g, 1, none⟩ = some (.string v)
  c2 : w.cell? ⟨g, 2, none⟩ = some (.string l)
  c3 : w.cell? ⟨g, 3, none⟩ = some (.string r)
  f0 : w.frozen? ⟨g, 0, none⟩ = false
  f1 : w.frozen? ⟨g, 1, none⟩ = false
  f2 : w.frozen? ⟨g, 2, none⟩ = false
  f3 : w.frozen? ⟨g, 3, none⟩ = false
theorem NBk.at {g : Nat} {k v l r : ByteArray} {w : World} (h : NBk g k v l r w) : NBc g k v l r w :=
  ⟨Lib.cell_of_heap h 0, Lib.cell_of_heap h 1, Lib.cell_of_heap h 2, Lib.cell_of_heap h 3, h.fr, h.fr, h.fr, h.fr⟩
set_option maxRecDepth 100000 in
theorem retN {fn : Func} {R : Ending → World → Prop} {A : Act} {p q : Tmp} {gb : Nat} {k v l r : ByteArray} {c : Int} {W : World} (hres : fn.results = #[.cell p 73, .tmp q]) (hp : A.tmps.getD p undef = .pointer (some ⟨gb, 0, none⟩)) (hq : A.tmps.getD q undef = .int .i64 c) (hd : A.defers = []) (n : NBk gb k v l r W)
    (h : R (.returned (nodeT ((k, v, l, r), c))) W) : bodyPost Tryz.prog fn R Exit.ret A W := by
  obtain ⟨c0, c1, c2, c3, _, _, _, _⟩ := n.at
  have hp' : A.tmps[p]?.getD undef = .pointer (some ⟨gb, 0, none⟩) := by simpa using hp
  have hq' : A.tmps[q]?.getD undef = .int .i64 c := by simpa using hq
  refine bodyPost_ret (v := nodeT ((k, v, l, r), c)) ?_ hd h
  unfold nodeT
  simp [results, hres, go_sem, asAddr, hp', hq', c0, c1, c2, c3]
/-- A call whose argument is a pool and which answers a node. -/
structure P2 (w : World) (ga gb : Nat) (n : Int) (a : Option Addr) (m c : Nat) (W : World) : Prop where
  sz : w.heap.size = ga
  nx : gb = ga + 1
  bl : Below ga w W
  na : W.heap[ga]? = some (.cells #[.int .i64 n, .slice a m c] 31)
  nb : NBk gb ⟨#[]⟩ ⟨#[]⟩ ⟨#[]⟩ ⟨#[]⟩ W
section
variable {w : World} {ga gb : Nat} {n : Int} {a : Option Addr} {m c : Nat} {W W' : World}
theorem P2.mk0 (w : World) (n : Int) (a : Option Addr) (m c : Nat) : P2 w w.heap.size (w.heap.size + 1) n a m c ((w.alloc (.cells #[.int .i64 n, .slice a m c] 31)).alloc (.cells #[.string ⟨#[]⟩, .string ⟨#[]⟩, .string ⟨#[]⟩, .string ⟨#[]⟩] 73)) := by
  refine ⟨rfl, rfl, ((Below.refl _ w).alloc (Nat.le_refl _) _).alloc (by simp) _, ?_, ?_⟩
  · exact (((Below.refl _ (w.alloc (.cells #[.int .i64 n, .slice a m c] 31))).alloc (Nat.le_refl _) _).block _ (by simp)).trans (heap_alloc_new w _)
  · have := heap_alloc_new (w.alloc (.cells #[.int .i64 n, .slice a m c] 31)) (.cells #[.string ⟨#[]⟩, .string ⟨#[]⟩, .string ⟨#[]⟩, .string ⟨#[]⟩] 73)
    rw [World.size_alloc] at this
    exact this
theorem P2.below (h : P2 w ga gb n a m c W) (hb : Below W.heap.size W W') : P2 w ga gb n a m c W' :=
  ⟨h.sz, h.nx, h.bl.trans (hb.mono (by have := h.bl.size; have := h.sz; omega)), (hb.block ga (Array.getElem?_eq_some_iff.1 h.na).1).trans h.na, h.nb.below hb⟩
theorem P2.fin (h : P2 w ga gb n a m c W) (x y z u : ByteArray) : Below w.heap.size w ((((W.setCell ⟨gb, 0, none⟩ (.string x)).setCell ⟨gb, 1, none⟩ (.string y)).setCell ⟨gb, 2, none⟩ (.string z)).setCell ⟨gb, 3, none⟩ (.string u)) := by
  have hge : ga ≤ gb := by have := h.nx; omega
  rw [h.sz]
  exact (((h.bl.setCell hge _).setCell hge _).setCell hge _).setCell hge _
theorem P2.set4 (h : P2 w ga gb n a m c W) {g : Nat} (hg : gb < g) (x y z u : Value) : P2 w ga gb n a m c ((((W.setCell ⟨g, 0, none⟩ x).setCell ⟨g, 1, none⟩ y).setCell ⟨g, 2, none⟩ z).setCell ⟨g, 3, none⟩ u) := by
  have hge : gb + 1 ≤ g := hg
  have hb : Below (gb + 1) W ((((W.setCell ⟨g, 0, none⟩ x).setCell ⟨g, 1, none⟩ y).setCell ⟨g, 2, none⟩ z).setCell ⟨g, 3, none⟩ u) := ((((Below.refl _ W).setCell hge _).setCell hge _).setCell hge _).setCell hge _
  have hx := h.nx
  exact ⟨h.sz, h.nx, h.bl.trans (hb.mono (by omega)), (hb.block ga (by omega)).trans h.na, (hb.block gb (by omega)).trans h.nb⟩
theorem P2.bw (h : P2 w ga gb n a m c W) : Below w.heap.size w W := by rw [h.sz]; exact h.bl
end

end Go.Proofs.YtibjhkpgaaapaaaGreatDoor
