/-
  What the hasher's finish computes.
-/
import Derived.Test.YtglpjoandgbngacDoorJ
namespace Go.Proofs.Sha
open Go Go.RowKit

/-- n bytes of the size from place 56 on. -/
def lb (k : List UInt8) (N : Nat) : Nat → List UInt8
  | 0 => k
  | n + 1 => (lb k N n).set (56 + n) (lenByte (8 * N) (7 - n))
def fin (h : List UInt32) (k : List UInt8) (held N : Nat) : List UInt32 :=
  if held + 1 ≤ 56 then comp h (lb (zf (k.set held 128) (held + 1) (56 - (held + 1))) N 8)
  else comp (comp h (zf (k.set held 128) (held + 1) (64 - (held + 1)))) (lb (zf (zf (k.set held 128) (held + 1) (64 - (held + 1))) 0 (56 - 0)) N 8)

theorem grownBy_new {w a c : World} {b g : Nat} (h : w.grownBy a (some b)) (k : a.grownBy c (some g)) (hg : w.heap.size ≤ g) : w.grownBy c (some b) :=
  ⟨k.os.trans h.os, k.tape.trans h.tape, k.output.trans h.output, Nat.le_trans h.size k.size, fun i hi hn => (k.block i (Nat.lt_of_lt_of_le hi h.size) (by simp; omega)).trans (h.block i hi hn)⟩
theorem grownBy_belowR {w a c : World} {b : Nat} (h : w.grownBy a (some b)) (k : Below a.heap.size a c) : w.grownBy c (some b) := grownBy_trans h (grownBy_of_below k _)
theorem lenByte_wrap (n i : Nat) : IntKind.u8.wrap ((n : Int) * 8 / 2 ^ (8 * i)) = ((lenByte (8 * n) i).toNat : Int) := by rw [IntKind.wrap_u8']; exact lenByte_form n i

end Go.Proofs.Sha
