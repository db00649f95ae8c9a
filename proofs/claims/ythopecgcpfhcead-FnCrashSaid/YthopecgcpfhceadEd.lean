import Derived.Test.YthopecgcpfhceadEc
namespace Go.Proofs.Ythopecgcpfhcead
open Go.RowKit Go.Proofs.Sha

/-- The text is the encoding of this node at this width. -/
def IsEnc (s : ByteArray) (n : Int) (k v l r : ByteArray) : Prop :=
  nodeOk k.size v.size l.size r.size n = true ∧ s = T (encL k.data.toList v.data.toList l.data.toList r.data.toList)

theorem nodeOk_out {k v l r : Nat} {n : Int} (h : nodeOk k v l r n = true) : 1 ≤ n ∧ n ≤ 32 ∧ 1 ≤ k ∧ k ≤ 256 ∧ v ≤ 2000 ∧ (l = 0 ∨ (l : Int) = n) ∧ (r = 0 ∨ (r : Int) = n) := by
  simp only [nodeOk, hashOk, Bool.and_eq_true, Bool.or_eq_true, decide_eq_true_eq] at h
  omega

theorem T_extract (l : List UInt8) (a b : Nat) : (T l).extract a b = T ((l.drop a).take (b - a)) := ByteArray.extract_mk l a b
theorem T_list (l : List UInt8) : (T l).data.toList = l := rfl
theorem T_inj {a b : List UInt8} (h : T a = T b) : a = b := by have := congrArg (fun z : ByteArray => z.data.toList) h; exact this

theorem szAt_sized (P K Q : List UInt8) (hK : K.length < 65536) : szAt (T (P ++ (sized K ++ Q))) P.length = K.length := by
  unfold szAt sized
  rw [T_list, List.getD_eq_getElem?_getD, List.getD_eq_getElem?_getD, List.getElem?_append_right (Nat.le_refl _), List.getElem?_append_right (Nat.le_add_right P.length 1)]
  simp only [Nat.sub_self, Nat.add_sub_cancel_left, List.cons_append, List.getElem?_cons_zero, List.getElem?_cons_succ, Option.getD_some]
  rw [UInt8.toNat_ofNat_of_lt' (by show _ < 256; omega), UInt8.toNat_ofNat_of_lt' (by show _ < 256; omega)]
  omega

theorem piece_sized (P K Q : List UInt8) : (T (P ++ (sized K ++ Q))).extract (P.length + 2) (P.length + 2 + K.length) = T K := by
  rw [T_extract, ← List.drop_drop, List.drop_left]
  congr 1
  simp [sized]

theorem sized_length (K : List UInt8) : (sized K).length = K.length + 2 := rfl

theorem flag_odd (l r : Nat) : (UInt8.ofNat (flagOf l r)).toNat = flagOf l r := by
  unfold flagOf; rw [UInt8.toNat_ofNat_of_lt' (by show _ < 256; split <;> split <;> omega)]

/-- What a text that is an encoding shows where it is taken apart. -/
theorem IsEnc.parts {s : ByteArray} {n : Int} {k v l r : ByteArray} (h : IsEnc s n k v l r) :
    0 + 2 + szAt s 0 ≤ s.size ∧ k = s.extract (0 + 2) (0 + 2 + szAt s 0) ∧
    ∀ a, a = 0 + 2 + szAt s 0 → a + 2 + szAt s a < s.size ∧ v = s.extract (a + 2) (a + 2 + szAt s a) ∧
    ∀ b, b = a + 2 + szAt s a → (s.data.toList.getD b 0).toNat = flagOf l.size r.size ∧ s.extract (b + 1) s.size = l ++ r := by
  obtain ⟨hok, hs⟩ := h
  have ho := nodeOk_out hok
  have hkl : k.data.toList.length = k.size := rfl
  have hvl : v.data.toList.length = v.size := rfl
  have e0 : s = T ([] ++ (sized k.data.toList ++ (sized v.data.toList ++ ([UInt8.ofNat (flagOf l.size r.size)] ++ (l.data.toList ++ r.data.toList))))) := by
    rw [hs]; unfold encL; simp only [List.append_assoc, List.nil_append]; rfl
  have e1 : s = T (sized k.data.toList ++ (sized v.data.toList ++ ([UInt8.ofNat (flagOf l.size r.size)] ++ (l.data.toList ++ r.data.toList)))) := e0
  have e2 : s = T ((sized k.data.toList ++ sized v.data.toList) ++ (UInt8.ofNat (flagOf l.size r.size) :: (l.data.toList ++ r.data.toList))) := by
    rw [e1, List.append_assoc]; rfl
  have hz : s.size = 2 + k.size + (2 + v.size) + 1 + (l.size + r.size) := by
    rw [e1, T_size]; simp only [List.length_append, sized_length, List.length_cons, List.length_nil, hkl, hvl]
    show k.size + 2 + (v.size + 2 + (0 + 1 + (l.size + r.size))) = _
    omega
  have s0 : szAt s 0 = k.size := by rw [e0]; exact szAt_sized [] _ _ (by omega)
  refine ⟨by omega, ?_, ?_⟩
  · rw [s0]
    conv => rhs; rw [e0]
    exact ((piece_sized [] k.data.toList _).trans (T_of k)).symm
  · intro a ha
    have ha' : a = (sized k.data.toList).length := by rw [sized_length, hkl]; omega
    have s1 : szAt s a = v.size := by rw [ha', e1]; exact szAt_sized _ _ _ (by omega)
    refine ⟨by omega, ?_, ?_⟩
    · rw [s1, ha']
      conv => rhs; rw [e1]
      exact ((piece_sized (sized k.data.toList) v.data.toList _).trans (T_of v)).symm
    · intro b hb
      have hb' : b = (sized k.data.toList ++ sized v.data.toList).length := by rw [List.length_append, sized_length, sized_length, hkl, hvl]; omega
      constructor
      · conv => lhs; rw [e2]
        rw [T_list, hb', List.getD_eq_getElem?_getD, List.getElem?_append_right (Nat.le_refl _), Nat.sub_self]
        exact flag_odd _ _
      · rw [hz]
        conv => lhs; rw [e2]
        rw [T_extract, hb', ← List.drop_drop, List.drop_left, List.drop_succ_cons, List.drop_zero, List.take_of_length_le, ← T_append, T_of, T_of]
        rw [List.length_append, List.length_append, sized_length, sized_length, hkl, hvl]
        show l.size + r.size ≤ _
        omega

theorem flag_even (l r : Nat) : flagOf l r % 2 = 1 ↔ l ≠ 0 := by
  unfold flagOf; split <;> split <;> omega

theorem ext_left (a b : ByteArray) : (a ++ b).extract 0 a.size = a := by
  rw [← T_of a, ← T_of b, T_append, T_extract]
  congr 1
  rw [T_size]; simp
theorem ext_right (a b : ByteArray) : (a ++ b).extract a.size (a ++ b).size = b := by
  rw [← T_of a, ← T_of b, T_append, T_extract]
  congr 1
  rw [T_size, T_size, List.drop_left, List.take_of_length_le]
  rw [List.length_append]; omega

/-- The sides, as they are cut from what is behind the flag. -/
theorem IsEnc.sides {s : ByteArray} {n : Int} {k v l r : ByteArray} (h : IsEnc s n k v l r) {f : Nat} {q : ByteArray} (hf : f = flagOf l.size r.size) (hq : q = l ++ r) :
    (f % 2 = 1 → n ≤ q.size ∧ l = q.extract 0 n.toNat ∧ r = q.extract n.toNat q.size) ∧ (¬ f % 2 = 1 → l = ⟨#[]⟩ ∧ r = q) := by
  have ho := nodeOk_out h.1
  constructor
  · intro h1
    rw [hf, flag_even] at h1
    have hn : n.toNat = l.size := by omega
    refine ⟨?_, ?_, ?_⟩
    · rw [hq, ByteArray.size_append]; omega
    · rw [hn, hq, ext_left]
    · rw [hn, hq, ext_right]
  · intro h1
    rw [hf, flag_even] at h1
    have hl : l = ⟨#[]⟩ := by
      have : l.data.size = 0 := by show l.size = 0; omega
      apply ByteArray.ext
      exact Array.eq_empty_of_size_eq_zero this
    refine ⟨hl, ?_⟩
    rw [hq, hl]
    exact (ByteArray.empty_append).symm
end Go.Proofs.Ythopecgcpfhcead
