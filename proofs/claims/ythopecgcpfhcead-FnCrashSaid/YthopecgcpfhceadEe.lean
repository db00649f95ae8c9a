import Derived.Test.YthopecgcpfhceadEd
namespace Go.Proofs.Ythopecgcpfhcead
open Go.RowKit Go.Proofs.Sha

abbrev nodeV (k v l r : ByteArray) : Value := .agg #[.string k, .string v, .string l, .string r]
/-- What DecodeNode answers. -/
def decPost (s : ByteArray) (n : Int) (e : Ending) : Prop :=
  (∃ k v l r, IsEnc s n k v l r ∧ e = .returned (.tuple #[nodeV k v l r, .bool true])) ∨
  ((∀ k v l r, ¬ IsEnc s n k v l r) ∧ e = .returned (.tuple #[nodeV ⟨#[]⟩ ⟨#[]⟩ ⟨#[]⟩ ⟨#[]⟩, .bool false]))

structure NodeAt (w : World) (g : Nat) (k v l r : ByteArray) : Prop where
  c0 : w.cell? ⟨g, 0, none⟩ = some (.string k)
  c1 : w.cell? ⟨g, 1, none⟩ = some (.string v)
  c2 : w.cell? ⟨g, 2, none⟩ = some (.string l)
  c3 : w.cell? ⟨g, 3, none⟩ = some (.string r)
  f0 : w.frozen? ⟨g, 0, none⟩ = false
  f1 : w.frozen? ⟨g, 1, none⟩ = false
  f2 : w.frozen? ⟨g, 2, none⟩ = false
  f3 : w.frozen? ⟨g, 3, none⟩ = false
theorem NodeAt.lt {w : World} {g : Nat} {k v l r : ByteArray} (h : NodeAt w g k v l r) : g < w.heap.size := World.block_lt_of_cell? w _ h.c0
theorem NodeAt.below {w w' : World} {g B : Nat} {k v l r : ByteArray} (h : NodeAt w g k v l r) (hb : Below B w w') (hg : g < B) : NodeAt w' g k v l r :=
  ⟨(hb.cell hg).trans h.c0, (hb.cell hg).trans h.c1, (hb.cell hg).trans h.c2, (hb.cell hg).trans h.c3, (hb.frozen hg).trans h.f0, (hb.frozen hg).trans h.f1, (hb.frozen hg).trans h.f2, (hb.frozen hg).trans h.f3⟩
theorem NodeAt.drew {w : World} {g : Nat} {k v l r : ByteArray} (h : NodeAt w g k v l r) : NodeAt w.drew g k v l r := ⟨h.c0, h.c1, h.c2, h.c3, h.f0, h.f1, h.f2, h.f3⟩
theorem NodeAt.mk4 (w : World) (k v l r : ByteArray) : NodeAt (w.alloc (.cells #[.string k, .string v, .string l, .string r] 52)) w.heap.size k v l r := by
  constructor <;> simp
theorem NodeAt.s0 {w : World} {g : Nat} {k v l r : ByteArray} (h : NodeAt w g k v l r) (x : ByteArray) : NodeAt (w.setCell ⟨g, 0, none⟩ (.string x)) g x v l r := by
  refine ⟨World.cell?_setCell_same _ _ _ h.c0, ?_, ?_, ?_, ?_, ?_, ?_, ?_⟩
  · rw [cell_set_ne _ _ _ _ _ (by omega)]; exact h.c1
  · rw [cell_set_ne _ _ _ _ _ (by omega)]; exact h.c2
  · rw [cell_set_ne _ _ _ _ _ (by omega)]; exact h.c3
  all_goals rw [World.frozen?_setCell]
  · exact h.f0
  · exact h.f1
  · exact h.f2
  · exact h.f3
theorem NodeAt.s1 {w : World} {g : Nat} {k v l r : ByteArray} (h : NodeAt w g k v l r) (x : ByteArray) : NodeAt (w.setCell ⟨g, 1, none⟩ (.string x)) g k x l r := by
  refine ⟨?_, World.cell?_setCell_same _ _ _ h.c1, ?_, ?_, ?_, ?_, ?_, ?_⟩
  · rw [cell_set_ne _ _ _ _ _ (by omega)]; exact h.c0
  · rw [cell_set_ne _ _ _ _ _ (by omega)]; exact h.c2
  · rw [cell_set_ne _ _ _ _ _ (by omega)]; exact h.c3
  all_goals rw [World.frozen?_setCell]
  · exact h.f0
  · exact h.f1
  · exact h.f2
  · exact h.f3
theorem NodeAt.s2 {w : World} {g : Nat} {k v l r : ByteArray} (h : NodeAt w g k v l r) (x : ByteArray) : NodeAt (w.setCell ⟨g, 2, none⟩ (.string x)) g k v x r := by
  refine ⟨?_, ?_, World.cell?_setCell_same _ _ _ h.c2, ?_, ?_, ?_, ?_, ?_⟩
  · rw [cell_set_ne _ _ _ _ _ (by omega)]; exact h.c0
  · rw [cell_set_ne _ _ _ _ _ (by omega)]; exact h.c1
  · rw [cell_set_ne _ _ _ _ _ (by omega)]; exact h.c3
  all_goals rw [World.frozen?_setCell]
  · exact h.f0
  · exact h.f1
  · exact h.f2
  · exact h.f3
theorem NodeAt.s3 {w : World} {g : Nat} {k v l r : ByteArray} (h : NodeAt w g k v l r) (x : ByteArray) : NodeAt (w.setCell ⟨g, 3, none⟩ (.string x)) g k v l x := by
  refine ⟨?_, ?_, ?_, World.cell?_setCell_same _ _ _ h.c3, ?_, ?_, ?_, ?_⟩
  · rw [cell_set_ne _ _ _ _ _ (by omega)]; exact h.c0
  · rw [cell_set_ne _ _ _ _ _ (by omega)]; exact h.c1
  · rw [cell_set_ne _ _ _ _ _ (by omega)]; exact h.c2
  all_goals rw [World.frozen?_setCell]
  · exact h.f0
  · exact h.f1
  · exact h.f2
  · exact h.f3
theorem NodeAt.set4 {w : World} {g : Nat} {k v l r : ByteArray} (h : NodeAt w g k v l r) (k' v' l' r' : ByteArray) :
    NodeAt ((((w.setCell ⟨g, 0, none⟩ (.string k')).setCell ⟨g, 1, none⟩ (.string v')).setCell ⟨g, 2, none⟩ (.string l')).setCell ⟨g, 3, none⟩ (.string r')) g k' v' l' r' :=
  (((h.s0 k').s1 v').s2 l').s3 r'
end Go.Proofs.Ythopecgcpfhcead
