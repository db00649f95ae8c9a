/-
  Plain facts for the hasher's padding.
-/
import Derived.Test.YtglpjoandgbngacDoorH
namespace Go.Proofs.Sha
open Go Go.RowKit

def heldOf (w : World) (b : Nat) : Nat := (intOf ((w.cell? ⟨b, 72, none⟩).getD undef)).toNat
theorem Hsh.heldOf {w : World} {b : Nat} {h : List UInt32} {k : List UInt8} {held size : Nat} (H : Hsh w b h k held size) : heldOf w b = held := by
  unfold Sha.heldOf; rw [H.hd]; simp [intOf]

/-- n zeros from place p on. -/
def zf (k : List UInt8) (p : Nat) : Nat → List UInt8
  | 0 => k
  | n + 1 => (zf k p n).set (p + n) 0
theorem zf_length (k : List UInt8) (p n : Nat) : (zf k p n).length = k.length := by
  induction n with
  | zero => rfl
  | succ n ih => rw [zf, List.length_set, ih]
theorem zf_getD (k : List UInt8) (p n j : Nat) (hn : p + n ≤ k.length) : (zf k p n).getD j 0 = if p ≤ j ∧ j < p + n then 0 else k.getD j 0 := by
  induction n with
  | zero => rw [zf, if_neg (by omega)]
  | succ n ih =>
    rw [zf, getD_set _ _ _ _ _ (by rw [zf_length]; omega), ih (by omega)]
    by_cases e : j = p + n
    · rw [if_pos e, if_pos (by omega)]
    · rw [if_neg e]
      by_cases e2 : p ≤ j ∧ j < p + n
      · rw [if_pos e2, if_pos (by omega)]
      · rw [if_neg e2, if_neg (by omega)]


def outArr (h : List UInt32) (i : Nat) : List UInt8 := outTo h i ++ List.replicate (32 - 4 * i) 0
theorem set4 {α : Type} (A R : List α) (n : Nat) (hn : A.length = n) (z0 z1 z2 z3 a b c d : α) :
    ((((A ++ z0 :: z1 :: z2 :: z3 :: R).set n a).set (n + 1) b).set (n + 2) c).set (n + 3) d = (A ++ [a, b, c, d]) ++ R := by
  subst hn
  rw [List.set_append_right _ _ (Nat.le_refl _), List.set_append_right _ _ (by omega), List.set_append_right _ _ (by omega), List.set_append_right _ _ (by omega)]
  simp
theorem outArr_succ (h : List UInt32) (i : Nat) (x : UInt32) (hi : i < 8) (hx : h.getD i 0 = x) :
    (((((outArr h i).map B).set (4 * i) (.int .u8 ((byteAt x 3).toNat : Int))).set (4 * i + 1) (.int .u8 ((byteAt x 2).toNat : Int))).set (4 * i + 2) (.int .u8 ((byteAt x 1).toNat : Int))).set (4 * i + 3) (.int .u8 ((byteAt x 0).toNat : Int)) = (outArr h (i + 1)).map B := by
  have e : 32 - 4 * i = (32 - 4 * (i + 1)) + 4 := by omega
  show ((((_ : List Value).set (4 * i) (B (byteAt x 3))).set (4 * i + 1) (B (byteAt x 2))).set (4 * i + 2) (B (byteAt x 1))).set (4 * i + 3) (B (byteAt x 0)) = _
  rw [← List.map_set, ← List.map_set, ← List.map_set, ← List.map_set, outArr, e, outArr, outTo, hx]
  congr 1
  exact set4 (outTo h i) _ (4 * i) (outTo_length h i) 0 0 0 0 _ _ _ _
theorem outArr_full (h : List UInt32) : outArr h 8 = outTo h 8 := by simp [outArr]
theorem outArr_length (h : List UInt32) (i : Nat) (hi : i ≤ 8) : (outArr h i).length = 32 := by simp [outArr, outTo_length]; omega
theorem byteAt_mod (x : UInt32) (i : Nat) : ((x.toNat : Int) / 2 ^ (8 * i)) % 256 = ((byteAt x i).toNat : Int) := by
  have := byteAt_form x i; rw [IntKind.wrap_u8'] at this; exact this
theorem byteM3 (x : UInt32) : (x.toNat : Int) / (16777216 : Int) % 256 = ((byteAt x 3).toNat : Int) := byteAt_mod x 3
theorem byteM2 (x : UInt32) : (x.toNat : Int) / (65536 : Int) % 256 = ((byteAt x 2).toNat : Int) := byteAt_mod x 2
theorem byteM1 (x : UInt32) : (x.toNat : Int) / (256 : Int) % 256 = ((byteAt x 1).toNat : Int) := byteAt_mod x 1
theorem byteM0 (x : UInt32) : (x.toNat : Int) % 256 = ((byteAt x 0).toNat : Int) := by
  have := byteAt_mod x 0
  simpa using this


end Go.Proofs.Sha
