/-
  What finish computes is SHA-256.
-/
import Derived.Test.YtglpjoandgbngacDoorL2
namespace Go.Proofs.Sha
open Go Go.RowKit

theorem lb_length (k : List UInt8) (N n : Nat) : (lb k N n).length = k.length := by
  induction n with
  | zero => rfl
  | succ n ih => rw [lb, List.length_set, ih]
theorem lb_getD (k : List UInt8) (N n j : Nat) (hn : 56 + n ≤ k.length) : (lb k N n).getD j 0 = if 56 ≤ j ∧ j < 56 + n then lenByte (8 * N) (7 - (j - 56)) else k.getD j 0 := by
  induction n with
  | zero => rw [lb, if_neg (by omega)]
  | succ n ih =>
    rw [lb, getD_set _ _ _ _ _ (by rw [lb_length]; omega), ih (by omega)]
    by_cases e : j = 56 + n
    · rw [if_pos e, if_pos (by omega)]; congr 1; omega
    · rw [if_neg e]
      by_cases e2 : 56 ≤ j ∧ j < 56 + n
      · rw [if_pos e2, if_pos (by omega)]
      · rw [if_neg e2, if_neg (by omega)]

def tl (T : List UInt8) (z N : Nat) : List UInt8 := T ++ [128] ++ List.replicate z 0 ++ beTo (8 * N) 8
theorem getD_left (A C : List UInt8) (j : Nat) (h : j < A.length) : (A ++ C).getD j 0 = A.getD j 0 := by
  rw [List.getD_eq_getElem?_getD, List.getD_eq_getElem?_getD, List.getElem?_append_left h]
theorem getD_right (A C : List UInt8) (j : Nat) (h : A.length ≤ j) : (A ++ C).getD j 0 = C.getD (j - A.length) 0 := by
  rw [List.getD_eq_getElem?_getD, List.getD_eq_getElem?_getD, List.getElem?_append_right h]
theorem beTo_getD (N i : Nat) (hi : i < 8) : (beTo N 8).getD i 0 = lenByte N (7 - i) := by
  have : i = 0 ∨ i = 1 ∨ i = 2 ∨ i = 3 ∨ i = 4 ∨ i = 5 ∨ i = 6 ∨ i = 7 := by omega
  rcases this with h | h | h | h | h | h | h | h <;> subst h <;> rfl
theorem tl_1 (T : List UInt8) (z N j : Nat) (h : j < T.length) : (tl T z N).getD j 0 = T.getD j 0 := by
  unfold tl
  rw [getD_left _ _ _ (by simp; omega), getD_left _ _ _ (by simp; omega), getD_left _ _ _ h]
theorem tl_2 (T : List UInt8) (z N j : Nat) (h : j = T.length) : (tl T z N).getD j 0 = 128 := by
  unfold tl
  rw [getD_left _ _ _ (by simp; omega), getD_left _ _ _ (by simp; omega), getD_right _ _ _ (by omega), h, Nat.sub_self]; rfl
theorem tl_3 (T : List UInt8) (z N j : Nat) (h : T.length < j) (h2 : j < T.length + 1 + z) : (tl T z N).getD j 0 = 0 := by
  unfold tl
  rw [getD_left _ _ _ (by simp; omega), getD_right _ _ _ (by simp; omega), List.getD_eq_getElem?_getD, List.getElem?_replicate, if_pos (by simp; omega)]; rfl
theorem tl_4 (T : List UInt8) (z N j : Nat) (h : T.length + 1 + z ≤ j) (h2 : j < T.length + 1 + z + 8) : (tl T z N).getD j 0 = lenByte (8 * N) (7 - (j - (T.length + 1 + z))) := by
  unfold tl
  have hl : (T ++ [128] ++ List.replicate z 0).length = T.length + 1 + z := by simp; omega
  rw [getD_right _ _ _ (by omega), hl, beTo_getD _ _ (by omega)]

theorem pad_drop (l : List UInt8) (q : Nat) (hq : 64 * q ≤ l.length) : (pad l).drop (64 * q) = tl (l.drop (64 * q)) (zpad l.length) l.length := by
  unfold pad tl
  rw [List.drop_append_of_le_length (by simp; omega), List.drop_append_of_le_length (by simp; omega), List.drop_append_of_le_length hq]
theorem pad_blocks (l : List UInt8) (q : Nat) (hq : 64 * q ≤ l.length) : blocks (pad l) q = blocks l q := by
  unfold pad
  rw [List.append_assoc, List.append_assoc]; exact blocks_append l _ q hq

theorem fin_sha (l k : List UInt8) (hk : k.length = 64) (tk : k.take (l.length % 64) = l.drop (64 * (l.length / 64))) :
    outTo (fin (blocks l (l.length / 64)) k (l.length % 64) l.length) 8 = sha l := by
  have hplen := pad_length l
  have hq : 64 * (l.length / 64) ≤ l.length := by omega
  have hpd := pad_drop l _ hq
  have hpb := pad_blocks l _ hq
  have hT : (l.drop (64 * (l.length / 64))).length = l.length % 64 := by rw [List.length_drop]; omega
  have hTk : ∀ j, j < l.length % 64 → (l.drop (64 * (l.length / 64))).getD j 0 = k.getD j 0 := fun j hj => by rw [← tk]; exact getD_take k _ j hj
  have hh : l.length % 64 < 64 := by omega
  have hk1 : (k.set (l.length % 64) 128).length = 64 := by rw [List.length_set]; exact hk
  have hks : ∀ j, (k.set (l.length % 64) 128).getD j 0 = if j = l.length % 64 then 128 else k.getD j 0 := fun j => getD_set k _ j 128 0 (by omega)
  unfold sha fin
  congr 1
  by_cases hb : l.length % 64 + 1 ≤ 56
  · have hz : zpad l.length = 55 - l.length % 64 := by unfold zpad; omega
    have hn : (pad l).length / 64 = l.length / 64 + 1 := by rw [hplen, hz]; omega
    rw [if_pos hb, hn, blocks, hpb, hpd]
    refine comp_congr _ _ _ (fun j hj => ?_)
    rw [lb_getD _ _ _ _ (by rw [zf_length]; omega), zf_getD _ _ _ _ (by omega), hks j, hz]
    by_cases c1 : 56 ≤ j
    · rw [if_pos (by omega), tl_4 _ _ _ _ (by omega) (by omega)]; congr 1; omega
    · rw [if_neg (by omega)]
      by_cases c2 : l.length % 64 + 1 ≤ j
      · rw [if_pos (by omega), tl_3 _ _ _ _ (by omega) (by omega)]
      · rw [if_neg (by omega)]
        by_cases c3 : j = l.length % 64
        · rw [if_pos c3, tl_2 _ _ _ _ (by omega)]
        · rw [if_neg c3, tl_1 _ _ _ _ (by omega), hTk j (by omega)]
  · have hz : zpad l.length = 119 - l.length % 64 := by unfold zpad; omega
    have hn : (pad l).length / 64 = l.length / 64 + 1 + 1 := by rw [hplen, hz]; omega
    have hd2 : ∀ j, ((pad l).drop (64 * (l.length / 64 + 1))).getD j 0 = (tl (l.drop (64 * (l.length / 64))) (zpad l.length) l.length).getD (64 + j) 0 := fun j => by
      rw [← hpd, getD_drop, getD_drop]; congr 1; omega
    rw [if_neg hb, hn, blocks, blocks, hpb]
    have e1 : comp (blocks l (l.length / 64)) (zf (k.set (l.length % 64) 128) (l.length % 64 + 1) (64 - (l.length % 64 + 1))) = comp (blocks l (l.length / 64)) ((pad l).drop (64 * (l.length / 64))) := by
      rw [hpd]
      refine comp_congr _ _ _ (fun j hj => ?_)
      rw [zf_getD _ _ _ _ (by omega), hks j, hz]
      by_cases c2 : l.length % 64 + 1 ≤ j
      · rw [if_pos (by omega), tl_3 _ _ _ _ (by omega) (by omega)]
      · rw [if_neg (by omega)]
        by_cases c3 : j = l.length % 64
        · rw [if_pos c3, tl_2 _ _ _ _ (by omega)]
        · rw [if_neg c3, tl_1 _ _ _ _ (by omega), hTk j (by omega)]
    rw [e1]
    refine comp_congr _ _ _ (fun j hj => ?_)
    rw [hd2 j, lb_getD _ _ _ _ (by rw [zf_length, zf_length]; omega), zf_getD _ _ _ _ (by rw [zf_length]; omega), hz]
    by_cases c1 : 56 ≤ j
    · rw [if_pos (by omega), tl_4 _ _ _ _ (by omega) (by omega)]; congr 1; omega
    · rw [if_neg (by omega), if_pos (by omega), tl_3 _ _ _ _ (by omega) (by omega)]

end Go.Proofs.Sha
