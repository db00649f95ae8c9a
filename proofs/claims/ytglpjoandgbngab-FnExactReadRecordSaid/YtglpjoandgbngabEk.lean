import Derived.Test.YtglpjoandgbngabEj
namespace Go.Proofs.Ytglpjoandgbngab
open Go.RowKit Go.Proofs.Sha

theorem part63_getD (s : List UInt8) (j : Nat) (hj : j < 63) : (part63 s 0).getD j 0 = s.getD j 0 := by
  unfold part63
  rw [List.drop_zero, List.getD_eq_getElem?_getD, List.getD_eq_getElem?_getD]
  by_cases h : j < s.length
  · rw [List.getElem?_append_left (by rw [List.length_take]; omega), List.getElem?_take_of_lt hj]
  · rw [List.getElem?_append_right (by rw [List.length_take]; omega), List.getElem?_eq_none (by omega : s.length ≤ j)]
    rw [List.getElem?_replicate]
    split <;> rfl
theorem markedTo_len1 (s : List UInt8) (c d : UInt8) (q : Nat) : (markedTo s [c] [d] q).length = 64 * q := by
  induction q with
  | zero => rfl
  | succ q ih =>
    rw [markedTo, List.length_append, List.length_append, part63_length, ih]
    split <;> simp only [List.length_cons, List.length_nil] <;> omega
/-- The first sector stands in front. -/
theorem markedTo_head (s f m : List UInt8) (q : Nat) (hq : 1 ≤ q) : ∃ r, markedTo s f m q = part63 s 0 ++ (f ++ r) := by
  induction q with
  | zero => omega
  | succ q ih =>
    by_cases h : q = 0
    · subst h
      exact ⟨[], by rw [markedTo, markedTo, if_pos rfl, List.append_nil, List.nil_append]⟩
    · obtain ⟨r, hr⟩ := ih (by omega)
      exact ⟨r ++ (part63 s (63 * q) ++ m), by rw [markedTo, hr, if_neg h]; simp only [List.append_assoc]⟩
theorem marked_low (s f m : List UInt8) (q j : Nat) (hq : 1 ≤ q) (hj : j < 63) : (markedTo s f m q).getD j 0 = s.getD j 0 := by
  obtain ⟨r, hr⟩ := markedTo_head s f m q hq
  rw [hr, ← part63_getD s j hj, List.getD_eq_getElem?_getD, List.getD_eq_getElem?_getD, List.getElem?_append_left (by rw [part63_length]; exact hj)]
theorem marked_mark (s m : List UInt8) (c : UInt8) (q : Nat) (hq : 1 ≤ q) : (markedTo s [c] m q).getD 63 0 = c := by
  obtain ⟨r, hr⟩ := markedTo_head s [c] m q hq
  rw [hr, List.getD_eq_getElem?_getD, List.getElem?_append_right (by rw [part63_length]; exact Nat.le_refl _), part63_length]; rfl
theorem marked_sector (s : List UInt8) (c d : UInt8) (q i : Nat) (hi : i < q) : ((markedTo s [c] [d] q).drop (64 * i)).take 63 = part63 s (63 * i) := by
  induction q with
  | zero => omega
  | succ q ih =>
    rw [markedTo, List.append_assoc]
    have hl := markedTo_len1 s c d q
    by_cases h : i = q
    · subst h
      rw [← hl, List.drop_left, List.take_append_of_le_length (by rw [part63_length]; exact Nat.le_refl _), List.take_of_length_le (by rw [part63_length]; exact Nat.le_refl _)]
    · rw [List.drop_append_of_le_length (by omega), List.take_append_of_le_length (by rw [List.length_drop]; omega)]
      exact ih (by omega)

/-- A text that stands in another. -/
theorem sub_getD {s : ByteArray} {a n : Nat} {L : List UInt8} (h : s.extract a (a + n) = T L) (j : Nat) (hj : j < n) : s.data.toList.getD (a + j) 0 = L.getD j 0 := by
  have e : L = (s.data.toList.drop a).take n := by
    have := h.symm
    rw [← T_of s, T_extract, Nat.add_sub_cancel_left] at this
    exact T_inj this
  rw [e, List.getD_eq_getElem?_getD, List.getD_eq_getElem?_getD, List.getElem?_take_of_lt hj, List.getElem?_drop]
theorem sub_extract {s : ByteArray} {a n : Nat} {L : List UInt8} (h : s.extract a (a + n) = T L) (x y : Nat) (hy : x + y ≤ n) : s.extract (a + x) (a + x + y) = T ((L.drop x).take y) := by
  have e : L = (s.data.toList.drop a).take n := by
    have := h.symm
    rw [← T_of s, T_extract, Nat.add_sub_cancel_left] at this
    exact T_inj this
  conv => lhs; rw [← T_of s, T_extract, Nat.add_sub_cancel_left]
  rw [e, List.drop_take, List.take_take, List.drop_drop]
  congr 2
  omega

theorem four_num (n : Nat) (hn : n < 4294967296) : ((four n).getD 0 0).toNat + ((four n).getD 1 0).toNat * 256 + ((four n).getD 2 0).toNat * 65536 + ((four n).getD 3 0).toNat * 16777216 = n := by
  show (UInt8.ofNat (n % 256)).toNat + (UInt8.ofNat (n / 256 % 256)).toNat * 256 + (UInt8.ofNat (n / 65536 % 256)).toNat * 65536 + (UInt8.ofNat (n / 16777216 % 256)).toNat * 16777216 = n
  rw [UInt8.toNat_ofNat_of_lt' (by show _ < 256; omega), UInt8.toNat_ofNat_of_lt' (by show _ < 256; omega), UInt8.toNat_ofNat_of_lt' (by show _ < 256; omega), UInt8.toNat_ofNat_of_lt' (by show _ < 256; omega)]
  omega
theorem four_getD (n : Nat) (R : List UInt8) (j : Nat) (hj : j < 4) : (four n ++ R).getD j 0 = (four n).getD j 0 := by
  rw [List.getD_eq_getElem?_getD, List.getD_eq_getElem?_getD, List.getElem?_append_left (by exact hj)]

/-- The number in front of a record's content. -/
theorem num_of {s : ByteArray} {a n q k : Nat} {R f m : List UInt8} (h : s.extract a (a + k) = T (markedTo (four n ++ R) f m q)) (hq : 1 ≤ q) (hk : 4 ≤ k) (hn : n < 4294967296) : numAt s a = n := by
  unfold numAt
  have g : ∀ j, j < 4 → s.data.toList.getD (a + j) 0 = (four n).getD j 0 := fun j hj => by
    rw [sub_getD h j (by omega), marked_low _ _ _ _ _ hq (by omega), four_getD n R j hj]
  have g0 := g 0 (by omega)
  rw [Nat.add_zero] at g0
  rw [g0, g 1 (by omega), g 2 (by omega), g 3 (by omega)]
  exact four_num n hn

def partsTo (s : List UInt8) : Nat → List UInt8
  | 0 => []
  | i + 1 => partsTo s i ++ part63 s (63 * i)
theorem partsTo_eq (s : List UInt8) (i : Nat) : partsTo s i = s.take (63 * i) ++ List.replicate (63 * i - s.length) 0 := by
  induction i with
  | zero => simp [partsTo]
  | succ i ih =>
    rw [partsTo, ih, part63]
    by_cases h : 63 * i ≤ s.length
    · rw [show 63 * i - s.length = 0 by omega, List.replicate_zero, List.append_nil, ← List.append_assoc, show 63 * (i + 1) = 63 * i + 63 by omega, List.take_add, show 63 * i + 63 - s.length = 63 - (s.length - 63 * i) by omega]
    · rw [List.drop_eq_nil_of_le (by omega), List.take_nil, List.nil_append, List.append_assoc, List.replicate_append_replicate, List.take_of_length_le (by omega), List.take_of_length_le (by omega)]
      congr 2
      omega
theorem un_of {s : ByteArray} {a q : Nat} {L : List UInt8} {c d : UInt8} (h : s.extract a (a + 64 * q) = T (markedTo L [c] [d] q)) (i : Nat) (hi : i ≤ q) : unTo s a i = partsTo L i := by
  induction i with
  | zero => rfl
  | succ i ih =>
    rw [unTo, partsTo, ih (by omega), sub_extract h (64 * i) 63 (by omega), marked_sector _ _ _ _ _ (by omega)]; rfl
theorem un_enc {s : ByteArray} {a q : Nat} {enc : ByteArray} {c d : UInt8} (h : s.extract a (a + 64 * q) = T (markedTo (four enc.size ++ enc.data.toList) [c] [d] q)) (hq : enc.size + 4 ≤ 63 * q) :
    (T (unTo s a q)).extract 4 (4 + enc.size) = enc := by
  rw [un_of h q (Nat.le_refl _), partsTo_eq, List.take_of_length_le (by rw [List.length_append]; show 4 + enc.size ≤ _; omega), T_extract, Nat.add_sub_cancel_left, List.append_assoc]
  rw [show List.drop 4 (four enc.size ++ (enc.data.toList ++ List.replicate (63 * q - (four enc.size ++ enc.data.toList).length) 0)) = enc.data.toList ++ List.replicate (63 * q - (four enc.size ++ enc.data.toList).length) 0 from rfl]
  rw [List.take_append_of_le_length (show enc.size ≤ enc.data.toList.length from Nat.le_refl _), List.take_of_length_le (show enc.data.toList.length ≤ enc.size from Nat.le_refl _), T_of]

/-- How many sectors an encoding of n bytes takes. -/
def secs (n : Nat) : Nat := (n + 4 + 62) / 63
/-- The record of this encoding begins at byte a. -/
def IsNode (s : ByteArray) (a : Nat) (enc : ByteArray) : Prop :=
  1 ≤ enc.size ∧ enc.size ≤ 4000 ∧ a + 64 * secs enc.size ≤ s.size ∧ s.extract a (a + 64 * secs enc.size) = nodeRec enc
/-- The record of this commit begins at byte a. -/
def IsCommit (s : ByteArray) (a : Nat) (v : Int) (root : ByteArray) : Prop :=
  1 ≤ v ∧ v ≤ 1000000 ∧ root.size ≤ 32 ∧ a + 64 ≤ s.size ∧ s.extract a (a + 64) = commitRec v root

theorem secs_eq (enc : ByteArray) : ((four enc.size ++ enc.data.toList).length + 62) / 63 = secs enc.size := by
  unfold secs; rw [List.length_append]; show (4 + enc.size + 62) / 63 = _; congr 1; omega
theorem IsNode.text {s : ByteArray} {a : Nat} {enc : ByteArray} (h : IsNode s a enc) : s.extract a (a + 64 * secs enc.size) = T (markedTo (four enc.size ++ enc.data.toList) [83] [77] (secs enc.size)) := by
  rw [h.2.2.2, nodeRec, if_pos ⟨h.1, h.2.1⟩, marked, secs_eq]
theorem IsNode.parts {s : ByteArray} {a : Nat} {enc : ByteArray} (h : IsNode s a enc) :
    a + 64 ≤ s.size ∧ (s.data.toList.getD (a + 63) 0) = 83 ∧ numAt s a = enc.size ∧ (T (unTo s a (secs (numAt s a)))).extract 4 (4 + numAt s a) = enc := by
  have ht := h.text
  have h1 := h.1
  have h2 := h.2.1
  have h3 := h.2.2.1
  have hq : 1 ≤ secs enc.size ∧ enc.size + 4 ≤ 63 * secs enc.size := by unfold secs; omega
  have hn : numAt s a = enc.size := num_of ht hq.1 (by omega) (by omega)
  refine ⟨by omega, ?_, hn, ?_⟩
  · rw [sub_getD ht 63 (by omega), marked_mark _ _ _ _ hq.1]
  · rw [hn]; exact un_enc ht hq.2

theorem commit_text {v : Int} {root : ByteArray} (h1 : 1 ≤ v) (h2 : v ≤ 1000000) (h3 : root.size ≤ 32) :
    commitRec v root = T (markedTo (four v.toNat ++ ([UInt8.ofNat root.size] ++ root.data.toList)) [67] [] 1) := by
  rw [commitRec, if_pos ⟨h1, h2, h3⟩, marked, List.append_assoc]
  congr 2
  rw [List.length_append, List.length_append]
  show (4 + (1 + root.size) + 62) / 63 = 1
  omega
theorem IsCommit.parts {s : ByteArray} {a : Nat} {v : Int} {root : ByteArray} (h : IsCommit s a v root) :
    (s.data.toList.getD (a + 63) 0) = 67 ∧ (numAt s a : Int) = v ∧ (s.data.toList.getD (a + 4) 0).toNat = root.size ∧ s.extract (a + 5) (a + 5 + root.size) = root := by
  obtain ⟨h1, h2, h3, h4, h5⟩ := h
  rw [commit_text h1 h2 h3] at h5
  refine ⟨?_, ?_, ?_, ?_⟩
  · rw [sub_getD h5 63 (by omega), marked_mark _ _ _ _ (Nat.le_refl _)]
  · rw [num_of h5 (Nat.le_refl _) (by omega) (by omega)]; omega
  · rw [sub_getD h5 4 (by omega), marked_low _ _ _ _ _ (Nat.le_refl _) (by omega)]
    show (UInt8.ofNat root.size).toNat = _
    exact UInt8.toNat_ofNat_of_lt' (by show _ < 256; omega)
  · obtain ⟨r, hr⟩ := markedTo_head (four v.toNat ++ ([UInt8.ofNat root.size] ++ root.data.toList)) [67] [] 1 (Nat.le_refl _)
    rw [sub_extract h5 5 root.size (by omega), hr]
    unfold part63
    have e : List.take 63 (four v.toNat ++ ([UInt8.ofNat root.size] ++ root.data.toList)) = four v.toNat ++ ([UInt8.ofNat root.size] ++ root.data.toList) :=
      List.take_of_length_le (by rw [List.length_append, List.length_append]; show 4 + (1 + root.size) ≤ 63; omega)
    rw [List.drop_zero, e, List.append_assoc]
    rw [show List.drop 5 (four v.toNat ++ ([UInt8.ofNat root.size] ++ root.data.toList) ++ (List.replicate (63 - ((four v.toNat ++ ([UInt8.ofNat root.size] ++ root.data.toList)).length - 0)) 0 ++ ([67] ++ r))) = root.data.toList ++ (List.replicate (63 - ((four v.toNat ++ ([UInt8.ofNat root.size] ++ root.data.toList)).length - 0)) 0 ++ ([67] ++ r)) from rfl]
    rw [List.take_append_of_le_length (show root.size ≤ root.data.toList.length from Nat.le_refl _), List.take_of_length_le (show root.data.toList.length ≤ root.size from Nat.le_refl _), T_of]
end Go.Proofs.Ytglpjoandgbngab
