import Derived.Test.YtmoajibmbppkjaeGreatDoorZac
namespace Go.Proofs.Sha
open Go Go.RowKit

/-- The state behind q blocks of the text p. -/
def blocks (p : List UInt8) : Nat → List UInt32
  | 0 => hTab
  | q + 1 => comp (blocks p q) (p.drop (64 * q))
theorem blocks_length (p : List UInt8) (q : Nat) : (blocks p q).length = 8 := by cases q <;> rfl

def byteAt (x : UInt32) (i : Nat) : UInt8 := UInt8.ofNat (x.toNat / 2 ^ (8 * i))
/-- The bytes of the first k words. -/
def outTo (h : List UInt32) : Nat → List UInt8
  | 0 => []
  | k + 1 => outTo h k ++ [byteAt (h.getD k 0) 3, byteAt (h.getD k 0) 2, byteAt (h.getD k 0) 1, byteAt (h.getD k 0) 0]
theorem outTo_length (h : List UInt32) (k : Nat) : (outTo h k).length = 4 * k := by
  induction k with
  | zero => rfl
  | succ k ih => simp [outTo, ih]; omega

def sha (l : List UInt8) : List UInt8 := outTo (blocks (pad l) ((pad l).length / 64)) 8

theorem pad_mod (l : List UInt8) : (pad l).length % 64 = 0 := by
  rw [pad_length]; have := zpad_eq l.length; omega

theorem byteAt_form (x : UInt32) (i : Nat) : IntKind.u8.wrap ((x.toNat : Int) / 2 ^ (8 * i)) = ((byteAt x i).toNat : Int) := by
  unfold byteAt
  rw [IntKind.wrap_u8', UInt8.toNat_ofNat']
  have e : ((x.toNat / 2 ^ (8 * i) % 2 ^ 8 : Nat) : Int) = ((x.toNat : Int) / 2 ^ (8 * i) % 256) := by
    rw [Int.natCast_emod, Int.natCast_ediv, Int.natCast_pow]; rfl
  exact e.symm
theorem byte3 (x : UInt32) : IntKind.u8.wrap ((x.toNat : Int) / (16777216 : Int)) = ((byteAt x 3).toNat : Int) := byteAt_form x 3
theorem byte2 (x : UInt32) : IntKind.u8.wrap ((x.toNat : Int) / (65536 : Int)) = ((byteAt x 2).toNat : Int) := byteAt_form x 2
theorem byte1 (x : UInt32) : IntKind.u8.wrap ((x.toNat : Int) / (256 : Int)) = ((byteAt x 1).toNat : Int) := byteAt_form x 1
theorem byte0 (x : UInt32) : IntKind.u8.wrap (x.toNat : Int) = ((byteAt x 0).toNat : Int) := by
  have := byteAt_form x 0
  simpa using this

theorem outTo_succ (h : List UInt32) (k : Nat) (x : UInt32) (hx : h.getD k 0 = x) :
    (outTo h (k + 1)).map B = (outTo h k).map B ++ [.int .u8 (IntKind.u8.wrap ((x.toNat : Int) / (16777216 : Int))), .int .u8 (IntKind.u8.wrap ((x.toNat : Int) / (65536 : Int))), .int .u8 (IntKind.u8.wrap ((x.toNat : Int) / (256 : Int))), .int .u8 (IntKind.u8.wrap (x.toNat : Int))] := by
  rw [outTo, hx, List.map_append, byte3, byte2, byte1, byte0]; rfl

theorem tab_cell (L : List UInt32) (j : Nat) (hj : j < L.length) : (L.map U).toArray[j]? = some (.int .u32 ((L.getD j 0).toNat : Int)) := by
  rw [List.getElem?_toArray, List.getElem?_map, List.getD_eq_getElem?_getD, List.getElem?_eq_getElem hj]; rfl
theorem row_b {w : World} {base g n cap : Nat} {L : List UInt8} (h : Row w base g n cap (L.map B)) (j : Nat) (hj : j < n) : w.cell? ⟨g, j, none⟩ = some (.int .u8 ((L.getD j 0).toNat : Int)) := by
  have hL : L.length = n := by have := h.len; simpa using this
  rw [h.cell j hj, List.getElem?_map, List.getD_eq_getElem?_getD, List.getElem?_eq_getElem (by omega)]; rfl
theorem row_u {w : World} {base g n cap : Nat} {L : List UInt32} (h : Row w base g n cap (L.map U)) (j : Nat) (hj : j < n) : w.cell? ⟨g, j, none⟩ = some (.int .u32 ((L.getD j 0).toNat : Int)) := by
  have hL : L.length = n := by have := h.len; simpa using this
  rw [h.cell j hj, List.getElem?_map, List.getD_eq_getElem?_getD, List.getElem?_eq_getElem (by omega)]; rfl
theorem two_blocks (w : World) (L M : List UInt32) (e : TypeId) : 
    (∀ j, j < L.length → ((w.alloc (.cells (L.map U).toArray e)).alloc (.cells (M.map U).toArray e)).cell? ⟨w.heap.size, j, none⟩ = some (.int .u32 ((L.getD j 0).toNat : Int))) ∧
    (∀ j, j < M.length → ((w.alloc (.cells (L.map U).toArray e)).alloc (.cells (M.map U).toArray e)).cell? ⟨w.heap.size + 1, j, none⟩ = some (.int .u32 ((M.getD j 0).toNat : Int))) := by
  constructor
  · intro j hj
    have h1 : ((w.alloc (.cells (L.map U).toArray e)).alloc (.cells (M.map U).toArray e)).heap[w.heap.size]? = some (.cells (L.map U).toArray e) := by
      rw [Below.heap_alloc _ _ _ (by simp)]; exact heap_alloc_new w _
    rw [cell_of_row _ _ _ _ _ _ h1]; exact tab_cell L j hj
  · intro j hj
    rw [cell_of_row _ _ _ _ _ _ (heap_alloc2_new w _ _)]; exact tab_cell M j hj

end Go.Proofs.Sha
