/-
  A step of feed.
-/
import Derived.Test.YtglpjoandgbngacDoorL
namespace Go.Proofs.Sha
open Go Go.RowKit

theorem extract_list (t : ByteArray) (n : Nat) : (t.extract n t.size).data.toList = t.data.toList.drop n := by
  rw [ByteArray.data_extract, Array.toList_extract, List.extract_eq_take_drop]
  apply List.take_of_length_le
  rw [List.length_drop]
  exact Nat.le_refl _
theorem extract_size (t : ByteArray) (n : Nat) : (t.extract n t.size).size = t.size - n := by
  rw [ByteArray.size_extract]; omega

theorem take_step (l : List UInt8) (c n : Nat) : l.take (c + n) = l.take c ++ (l.drop c).take n := by
  rw [List.take_add]

theorem fed_part {w : World} {b : Nat} {P k ys : List UInt8} {size held n : Nat} (H : Hsh w b (blocks P (P.length / 64)) (k.take held ++ ys ++ k.drop (held + n)) (held + n) size)
    (hh : P.length % 64 = held) (tk : k.take held = P.drop (64 * (P.length / 64))) (hy : ys.length = n) (hk : k.length = 64) (hlt : held + n < 64) :
    Fed w b (P ++ ys) (k.take held ++ ys ++ k.drop (held + n)) size := by
  have hl : (P ++ ys).length = P.length + n := by rw [List.length_append, hy]
  have e1 : (P.length + n) / 64 = P.length / 64 := by omega
  have e2 : (P.length + n) % 64 = held + n := by omega
  subst hh
  subst hy
  refine ⟨?_, ?_⟩
  · rw [hl, e1, e2, blocks_append _ _ _ (by omega)]; exact H
  · rw [hl, e1, e2]; exact fed_block P k ys hk tk (by omega)

theorem fed_full {w : World} {b : Nat} {P k ys : List UInt8} {size held n : Nat} (H : Hsh w b (comp (blocks P (P.length / 64)) (k.take held ++ ys ++ k.drop (held + n))) (k.take held ++ ys ++ k.drop (held + n)) 0 size)
    (hh : P.length % 64 = held) (tk : k.take held = P.drop (64 * (P.length / 64))) (hy : ys.length = n) (hk : k.length = 64) (hlt : held + n = 64) :
    Fed w b (P ++ ys) (k.take held ++ ys ++ k.drop (held + n)) size := by
  have hl : (P ++ ys).length = P.length + n := by rw [List.length_append, hy]
  have e1 : (P.length + n) / 64 = P.length / 64 + 1 := by omega
  have e2 : (P.length + n) % 64 = 0 := by omega
  subst hh
  subst hy
  have hb := fed_block P k ys hk tk (by omega)
  refine ⟨?_, ?_⟩
  · rw [hl, e1, e2, blocks, blocks_append _ _ _ (by omega), ← hb, hlt, comp_take]; rw [hlt] at H; exact H
  · rw [hl, e1, e2, List.take_zero, List.drop_of_length_le (by rw [hl]; omega)]

end Go.Proofs.Sha
