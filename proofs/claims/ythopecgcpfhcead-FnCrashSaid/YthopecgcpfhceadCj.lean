import Derived.Test.YthopecgcpfhceadKh
namespace Go.Proofs.Disk

theorem keptB_nil (fr i : Nat) : keptB fr [] i = false := by
  unfold keptB
  rw [decide_eq_false (by simp), Bool.false_and]
theorem crash_nil (st now : List UInt8) : crash st now [] = st := by
  unfold crash
  generalize now.length - st.length = k
  induction k with
  | zero => rfl
  | succ k ih => rw [(full_no (keptB_nil _ _)).2]; exact ih
theorem crash_same (s : List UInt8) (ps : List Int) : crash s s ps = s := by
  unfold crash
  rw [Nat.sub_self]; rfl
theorem keptB_all (fr n m i : Nat) (_h1 : fr ≤ i) (h2 : i < n) (hm : n / 64 + 1 ≤ m) : keptB fr (List.replicate m 64) i = true := by
  unfold keptB
  have hj : i / 64 - fr / 64 < (List.replicate m (64 : Int)).length := by rw [List.length_replicate]; omega
  rw [decide_eq_true hj, Bool.true_and]
  have e : (List.replicate m (64 : Int)).getD (i / 64 - fr / 64) 0 = 64 := by
    rw [List.length_replicate] at hj
    rw [List.getD_eq_getElem?_getD, List.getElem?_replicate, if_pos hj]; rfl
  rw [e]
  exact decide_eq_true (by omega)
theorem crash_all (st t : List UInt8) (m : Nat) (hm : (st ++ t).length / 64 + 1 ≤ m) : crash st (st ++ t) (List.replicate m 64) = st ++ t := by
  have hk : ∀ k, k ≤ t.length → left st (st ++ t) (List.replicate m 64) k = st ++ t.take k := by
    intro k
    induction k with
    | zero => intro _; rw [List.take_zero, List.append_nil]; rfl
    | succ k ih =>
      intro h
      have hl : (st ++ t).length = st.length + t.length := List.length_append
      rw [left, if_pos (keptB_all st.length (st ++ t).length m (st.length + k) (by omega) (by omega) hm), ih (by omega)]
      have e1 : (st ++ t.take k).length = st.length + k := by rw [List.length_append, List.length_take]; omega
      have e2 : (st ++ t).getD (st.length + k) 0 = t.getD k 0 := by
        rw [List.getD_eq_getElem?_getD, List.getElem?_append_right (by omega), Nat.add_sub_cancel_left, List.getD_eq_getElem?_getD]
      rw [e1, Nat.sub_self, List.replicate_zero, List.append_nil, e2, List.append_assoc]
      congr 1
      rw [List.take_add_one, List.getD_eq_getElem?_getD, List.getElem?_eq_getElem (by omega)]
      rfl
  unfold crash
  have hl : (st ++ t).length = st.length + t.length := List.length_append
  rw [show (st ++ t).length - st.length = t.length by omega, hk _ (Nat.le_refl _), List.take_length]
theorem left_front (st now : List UInt8) (ps : List Int) (k : Nat) : ∃ r, left st now ps k = st ++ r := by
  induction k with
  | zero => exact ⟨[], (List.append_nil _).symm⟩
  | succ k ih =>
    obtain ⟨r, hr⟩ := ih
    rw [left]
    split
    · rw [hr, List.append_assoc, List.append_assoc]; exact ⟨_, rfl⟩
    · exact ⟨r, hr⟩
theorem left_bytes (st t : List UInt8) (ps : List Int) (k : Nat) : ∀ i, i < (left st (st ++ t) ps k).length → (left st (st ++ t) ps k).getD i 0 = (st ++ t).getD i 0 ∨ (left st (st ++ t) ps k).getD i 0 = 0 := by
  induction k with
  | zero =>
    intro i hi
    left
    show st.getD i 0 = _
    have hi' : i < st.length := hi
    rw [List.getD_eq_getElem?_getD, List.getD_eq_getElem?_getD, List.getElem?_append_left hi']
  | succ k ih =>
    intro i hi
    rw [left] at hi ⊢
    split
    · rename_i hk
      rw [if_pos hk] at hi
      have hll := left_len (st := st) (now := st ++ t) (ps := ps) k
      obtain ⟨L, hL⟩ : ∃ L, left st (st ++ t) ps k = L := ⟨_, rfl⟩
      rw [hL] at hi ih hll ⊢
      have hfl : (L ++ List.replicate (st.length + k - L.length) 0).length = st.length + k := by rw [List.length_append, List.length_replicate]; omega
      by_cases h1 : i < L.length
      · have := ih i h1
        rw [List.append_assoc, List.getD_eq_getElem?_getD, List.getElem?_append_left h1, ← List.getD_eq_getElem?_getD]
        exact this
      · by_cases h2 : i < st.length + k
        · right
          rw [List.getD_eq_getElem?_getD, List.getElem?_append_left (by omega), List.getElem?_append_right (by omega), List.getElem?_replicate]
          split <;> rfl
        · left
          have h3 : i = st.length + k := by
            rw [List.length_append, hfl] at hi
            simp at hi
            omega
          rw [List.getD_eq_getElem?_getD, List.getElem?_append_right (by omega), hfl, h3, Nat.sub_self]
          rfl
    · rename_i hk
      rw [if_neg hk] at hi
      exact ih i hi
end Go.Proofs.Disk
