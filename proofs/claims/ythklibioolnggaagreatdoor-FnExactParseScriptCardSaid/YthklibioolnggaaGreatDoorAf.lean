import Derived.Test.YthklibioolnggaaGreatDoorAe
import Derived.Lib.SplitLaws
import Derived.Lib.IndexLaws
namespace Go.Proofs.YthklibioolnggaaGreatDoor
open Go.RowKit Go.Proofs.Sha

/-- A text cut at every byte b. -/
def cutL (b : UInt8) : List UInt8 → List (List UInt8)
  | [] => [[]]
  | c :: r => if c = b then [] :: cutL b r else match cutL b r with
    | [] => [[c]]
    | h :: t => (c :: h) :: t
theorem cutL_ne (b : UInt8) (l : List UInt8) : cutL b l ≠ [] := by
  cases l with
  | nil => simp [cutL]
  | cons c r =>
    rw [cutL]
    split
    · simp
    · split <;> simp
theorem cutL_miss (b : UInt8) (l : List UInt8) (h : ∀ k : Nat, l[k]? ≠ some b) : cutL b l = [l] := by
  induction l with
  | nil => rfl
  | cons c r ih =>
    have hc : c ≠ b := fun e => h 0 (by simp [e])
    rw [cutL, if_neg hc, ih (fun k => by have := h (k + 1); simpa using this)]
theorem cutL_hit (b : UInt8) (l : List UInt8) (o : Nat) (ho : l[o]? = some b) (h : ∀ k : Nat, k < o → l[k]? ≠ some b) : cutL b l = l.take o :: cutL b (l.drop (o + 1)) := by
  induction l generalizing o with
  | nil => simp at ho
  | cons c r ih =>
    cases o with
    | zero =>
      have : c = b := by simpa using ho
      rw [cutL, if_pos this]; rfl
    | succ o =>
      have hc : c ≠ b := fun e => h 0 (by omega) (by simp [e])
      rw [cutL, if_neg hc, ih o (by simpa using ho) (fun k hk => by have := h (k + 1) (by omega); simpa using this)]
      rfl
theorem cutL_size (b : UInt8) (l : List UInt8) : (cutL b l).length ≤ l.length + 1 ∧ ∀ x ∈ cutL b l, x.length ≤ l.length := by
  induction l with
  | nil => simp [cutL]
  | cons c r ih =>
    rw [cutL]
    split
    · refine ⟨by simp; omega, fun x hx => ?_⟩
      rcases List.mem_cons.1 hx with rfl | hx
      · simp
      · have := ih.2 x hx; simp; omega
    · cases hcut : cutL b r with
      | nil => exact absurd hcut (cutL_ne b r)
      | cons h t =>
        rw [hcut] at ih
        refine ⟨by have := ih.1; simp at this ⊢; omega, fun x hx => ?_⟩
        rcases List.mem_cons.1 hx with rfl | hx
        · have := ih.2 h (by simp); simp; omega
        · have := ih.2 x (by simp [hx]); simp; omega

/-- The parts as texts. -/
def cutB (b : UInt8) (s : ByteArray) : List ByteArray := (cutL b s.data.toList).map fun l => ⟨l.toArray⟩
theorem cutB_miss (b : UInt8) (s : ByteArray) (h : ∀ k : Nat, s.data.toList[k]? ≠ some b) : cutB b s = [s] := by
  rw [cutB, cutL_miss b _ h]; rfl
theorem cutB_hit (b : UInt8) (s : ByteArray) (o : Nat) (ho : s.data.toList[o]? = some b) (h : ∀ k : Nat, k < o → s.data.toList[k]? ≠ some b) : cutB b s = s.extract 0 o :: cutB b (s.extract (o + 1) s.size) := by
  rw [cutB, cutL_hit b _ o ho h, List.map_cons, cutB]
  congr 1
  · apply ByteArray.ext; apply Array.ext'; simp
  · congr 2
    simp
    have : s.data.toList.length = s.size := rfl
    rw [List.take_of_length_le (by simp)]

theorem split_cut (b : UInt8) (k : Nat) : ∀ s : ByteArray, Lib.countB s ⟨#[b]⟩ = k → Lib.splitB ⟨#[b]⟩ 0 k s = cutB b s := by
  induction k with
  | zero =>
    intro s hk
    have h0 : s.data.toList.count b = 0 := by rw [← Lib.count_one]; exact hk
    rw [Lib.splitB_zero, cutB_miss]
    intro k hk'
    exact (List.count_eq_zero.1 h0) (List.mem_of_getElem? hk')
  | succ k ih =>
    intro s hk
    have h0 : s.data.toList.count b = k + 1 := by rw [← Lib.count_one]; exact hk
    rcases Lib.indexB_cases s ⟨#[b]⟩ with hm | ⟨i, hi, hi2⟩
    · exfalso
      have := Lib.indexByte_none (l := s.data.toList) (c := b) (by rw [← Lib.index_one]; exact hm)
      have hmem : b ∈ s.data.toList := List.count_pos_iff.1 (by omega)
      obtain ⟨j, hj⟩ := List.mem_iff_getElem?.1 hmem
      exact this j hj
    · obtain ⟨h1, h2⟩ := Lib.indexByte_some (l := s.data.toList) (c := b) (o := i) (by rw [← Lib.index_one]; exact hi)
      rw [Lib.splitB_hit _ _ _ _ i hi, cutB_hit b s i h1 h2]
      have hsz : (⟨#[b]⟩ : ByteArray).size = 1 := rfl
      rw [hsz, Nat.add_zero]
      congr 1
      refine ih _ ?_
      have hdrop : (s.extract (i + 1) s.size).data.toList = s.data.toList.drop (i + 1) := Lib.extract_to_end s (i + 1)
      have hcount : s.data.toList.count b = 1 + (s.data.toList.drop (i + 1)).count b := by
        have hlt : i < s.data.toList.length := (List.getElem?_eq_some_iff.1 h1).1
        conv => lhs; rw [← List.take_append_drop i s.data.toList, List.count_append]
        have ht : (s.data.toList.take i).count b = 0 := by
          rw [List.count_eq_zero]
          intro hmem
          obtain ⟨j, hj⟩ := List.mem_iff_getElem?.1 hmem
          rw [List.getElem?_take] at hj
          split at hj
          · rename_i hji; exact h2 j hji hj
          · cases hj
        have hd : s.data.toList.drop i = b :: s.data.toList.drop (i + 1) := by
          rw [List.drop_eq_getElem_cons hlt]; congr 1; exact (List.getElem?_eq_some_iff.1 h1).2
        rw [ht, hd, List.count_cons]; simp; omega
      show Lib.count (s.extract (i + 1) s.size).data.toList [b] = k
      rw [Lib.count_one, hdrop]; omega

theorem isplit_any (b : UInt8) (s : ByteArray) (w : World) (h : Env w) (hs : s.size ≤ 1048576) :
    Calls Tryz.prog 23 #[.string s, .string ⟨#[b]⟩] w fun e w' => e = .returned (.slice (some ⟨w.heap.size, 0, none⟩) (cutB b s).length (cutB b s).length) ∧ w' = w.alloc (.cells ((cutB b s).map Value.string).toArray 9) := by
  obtain ⟨m, hm⟩ := h.m
  have e1 := split_cut b _ s rfl
  have e2 : Lib.countB s ⟨#[b]⟩ + 1 = (cutB b s).length := by rw [← e1]; exact (Lib.splitB_all ⟨#[b]⟩ (Nat.le_refl 1) 0 _ s rfl).symm
  refine (Tryz.strings_Split s ⟨#[b]⟩ m w (by omega) hm (Nat.le_refl 1)).mono ?_
  rintro e w' ⟨rfl, rfl⟩
  rw [e1, e2]
  exact ⟨rfl, rfl⟩

end Go.Proofs.YthklibioolnggaaGreatDoor
