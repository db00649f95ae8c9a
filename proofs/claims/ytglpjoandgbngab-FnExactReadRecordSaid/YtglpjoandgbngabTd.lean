import Derived.Test.YtglpjoandgbngabTc
import Derived.Test.YtglpjoandgbngabEn
import Derived.Test.YtglpjoandgbngabRj
namespace Go.Proofs.Ytglpjoandgbngab
open Go.RowKit Go.Proofs.Sha

theorem num_ex (s t1 : ByteArray) (a : Nat) (h : a + 4 ≤ s.size) (ht : t1 = s.extract a (a + 4)) : valTo 4 true (byteAt t1) t1.size = numAt s a := by
  rw [ht, ex_size s a 4 h, val4 _ (byteAt_lt _), byteAt_ex s a 4 0 (by omega), byteAt_ex s a 4 1 (by omega), byteAt_ex s a 4 2 (by omega), byteAt_ex s a 4 3 (by omega)]
  rfl
theorem SX4 {s : ByteArray} {a : Nat} {f : Bool} {t : ByteArray} {a' : Nat} {f' : Bool} (h : SX 4 true s a f t a' f') :
    (f = false ∧ a + 4 + numAt s a ≤ s.size ∧ t = s.extract (a + 4) (a + 4 + numAt s a) ∧ a' = a + 4 + numAt s a ∧ f' = false) ∨ ((f = true ∨ ¬ (a + 4 + numAt s a ≤ s.size)) ∧ f' = true) := by
  obtain ⟨t1, a1, f1, h1, h2⟩ := h
  rcases h1 with ⟨hf, hle, ht1, ha1, hf1⟩ | ⟨hf, ht1, ha1, hf1⟩
  · rw [num_ex s t1 a hle ht1] at h2
    subst ha1
    rcases h2 with ⟨_, hle2, ht, ha', hf'⟩ | ⟨hf2, _, _, hf'⟩
    · exact .inl ⟨hf, hle2, ht, ha', hf'⟩
    · refine .inr ⟨.inr fun hp => ?_, hf'⟩
      rcases hf2 with h | h
      · rw [hf1] at h; cases h
      · exact h hp
  · rcases h2 with ⟨hf2, _⟩ | ⟨_, _, _, hf'⟩
    · rw [hf1] at hf2; cases hf2
    · refine .inr ⟨?_, hf'⟩
      rcases hf with h | h
      · exact .inl h
      · exact .inr fun hp => h (by omega)
theorem seg_four (L : List UInt8) (a : Nat) (h : a + 4 ≤ L.length) : (L.drop a).take 4 = [L.getD a 0, L.getD (a + 1) 0, L.getD (a + 2) 0, L.getD (a + 3) 0] := by
  have := seg_add L a 2 2
  rw [← this, seg_two L a (by omega), seg_two L (a + 2) (by omega)]; rfl
theorem four_back (s : ByteArray) (a : Nat) (h : a + 4 ≤ s.size) : four (numAt s a) = (s.data.toList.drop a).take 4 := by
  rw [seg_four _ _ h, four]
  have h0 := (s.data.toList.getD a 0).toNat_lt
  have h1 := (s.data.toList.getD (a + 1) 0).toNat_lt
  have h2 := (s.data.toList.getD (a + 2) 0).toNat_lt
  have h3 := (s.data.toList.getD (a + 3) 0).toNat_lt
  have e0 : numAt s a % 256 = (s.data.toList.getD a 0).toNat := by unfold numAt; omega
  have e1 : numAt s a / 256 % 256 = (s.data.toList.getD (a + 1) 0).toNat := by unfold numAt; omega
  have e2 : numAt s a / 65536 % 256 = (s.data.toList.getD (a + 2) 0).toNat := by unfold numAt; omega
  have e3 : numAt s a / 16777216 % 256 = (s.data.toList.getD (a + 3) 0).toNat := by unfold numAt; omega
  rw [e0, e1, e2, e3]
  simp
theorem zeroT_rep {t : ByteArray} (h : zeroT t = true) : t.data.toList = List.replicate t.size 0 := by
  rw [List.eq_replicate_iff]
  refine ⟨rfl, fun b hb => ?_⟩
  have := List.all_eq_true.1 h b hb
  simpa using this
theorem rep_zeroT (n : Nat) {t : ByteArray} (h : t.data.toList = List.replicate n 0) : zeroT t = true := by
  unfold zeroT; rw [h, List.all_eq_true]
  intro b hb
  rw [List.eq_of_mem_replicate hb]; rfl

/-- A body that is read to its end. -/
theorem PX.yes {S t : ByteArray} {a' : Nat} (h : PX S 0 false t a' false) (ha : a' = S.size) :
    4 + numAt S 0 ≤ S.size ∧ t = S.extract 4 (4 + numAt S 0) ∧ S.data.toList = four (numAt S 0) ++ t.data.toList ++ List.replicate (S.size - (4 + numAt S 0)) 0 := by
  obtain ⟨a1, f1, t2, f2, h1, _, h3, hf⟩ := h
  have hf2 : f2 = false ∧ zeroT t2 = true := by
    cases f2 <;> cases hz : zeroT t2 <;> rw [hz] at hf <;> first | exact ⟨rfl, rfl⟩ | cases hf
  rcases SX4 h1 with ⟨_, hle, ht, ha1, hf1⟩ | ⟨_, hf1⟩
  · rw [Nat.zero_add] at hle ht ha1
    subst ha1
    rcases h3 with ⟨_, hle2, ht2, ha2, _⟩ | ⟨_, _, _, g⟩
    · refine ⟨hle, ht, ?_⟩
      have hz := zeroT_rep hf2.2
      have hg : gap (4 + numAt S 0) = S.size - (4 + numAt S 0) := by omega
      rw [ht2, ex_size S _ _ hle2, hg, ex_list] at hz
      have e0 := four_back S 0 (by omega)
      have hl : S.data.toList.length = S.size := rfl
      rw [e0, ht, ex_list, ← hz, List.drop_zero]
      have e1 := seg_add S.data.toList 0 4 (numAt S 0)
      rw [List.drop_zero, Nat.zero_add] at e1
      rw [e1, List.take_of_length_le (l := List.drop (4 + numAt S 0) S.data.toList) (by rw [List.length_drop]; omega), List.take_append_drop]
    · rw [g] at hf2; cases hf2.1
  · rcases h3 with ⟨g, _⟩ | ⟨_, _, _, g⟩
    · rw [hf1] at g; cases g
    · rw [g] at hf2; cases hf2.1
theorem PX.no {S t : ByteArray} {a' : Nat} {f' : Bool} (h : PX S 0 false t a' f') (N : Nat) (hN : numAt S 0 = N) (R : List UInt8) (hR : R.length = 4 + N) (hS : S.data.toList = R ++ List.replicate (gap (4 + N)) 0) : f' = false ∧ a' = S.size := by
  have hz : S.size = 4 + N + gap (4 + N) := by
    show S.data.toList.length = _
    rw [hS, List.length_append, List.length_replicate, hR]
  obtain ⟨a1, f1, t2, f2, h1, _, h3, hf⟩ := h
  rcases SX4 h1 with ⟨_, hle, ht, ha1, hf1⟩ | ⟨hno, _⟩
  · rw [Nat.zero_add, hN] at ha1
    subst ha1
    rcases h3 with ⟨_, hle2, ht2, ha2, g⟩ | ⟨hno, _⟩
    · refine ⟨?_, by omega⟩
      have : zeroT t2 = true := rep_zeroT (gap (4 + N)) (by
        rw [ht2, ex_list, hS, ← hR, List.drop_left, List.take_of_length_le (by rw [List.length_replicate]; exact Nat.le_refl _)])
      rw [hf, g, this]; rfl
    · rcases hno with g | g
      · rw [hf1] at g; cases g
      · omega
  · rcases hno with g | g
    · cases g
    · rw [hN] at g; omega

theorem un_head (s : ByteArray) (a : Nat) (j : Nat) (hj : j < 63) : ∀ q, a + 64 * (q + 1) ≤ s.size → (unTo s a (q + 1)).getD j 0 = s.data.toList.getD (a + j) 0
  | 0, h => by
    rw [unTo, unTo, List.nil_append, Nat.mul_zero, Nat.add_zero, ex_list, List.getD_eq_getElem?_getD, List.getD_eq_getElem?_getD, List.getElem?_take_of_lt hj, List.getElem?_drop]
  | q + 1, h => by
    rw [unTo, List.getD_eq_getElem?_getD, List.getElem?_append_left (by rw [un_len s a (q + 1) (by omega)]; omega), ← List.getD_eq_getElem?_getD]
    exact un_head s a j hj q (by omega)
theorem un_num (s : ByteArray) (a q : Nat) (hq : 1 ≤ q) (h : a + 64 * q ≤ s.size) : numAt (T (unTo s a q)) 0 = numAt s a := by
  obtain ⟨p, rfl⟩ : ∃ p, q = p + 1 := ⟨q - 1, by omega⟩
  have g := fun j hj => un_head s a j hj p h
  unfold numAt
  rw [T_data, g 0 (by omega), g (0 + 1) (by omega), g (0 + 2) (by omega), g (0 + 3) (by omega)]
  simp only [Nat.zero_add, Nat.add_zero]
theorem un_parts {s : ByteArray} {a : Nat} {L : List UInt8} : ∀ q, a + 64 * q ≤ s.size → unTo s a q = partsTo L q → ∀ j, j < q → (s.extract (a + 64 * j) (a + 64 * j + 63)).data.toList = part63 L (63 * j)
  | 0, _, _, j, hj => by omega
  | q + 1, h, he, j, hj => by
    rw [unTo, partsTo] at he
    have hl : (s.extract (a + 64 * q) (a + 64 * q + 63)).data.toList.length = (part63 L (63 * q)).length := by
      rw [part63_length]; exact ex_size s (a + 64 * q) 63 (by omega)
    have := List.append_inj' he hl
    by_cases hjq : j = q
    · subst hjq; exact this.2
    · exact un_parts q (by omega) this.1 j (by omega)
theorem marked_of {s : ByteArray} {a : Nat} {L : List UInt8} (h0 : s.data.toList.getD (a + 63) 0 = 83) : ∀ q, a + 64 * q ≤ s.size → (∀ j, 1 ≤ j → j < q → s.data.toList.getD (a + 64 * j + 63) 0 = 77) → (∀ j, j < q → (s.extract (a + 64 * j) (a + 64 * j + 63)).data.toList = part63 L (63 * j)) → (s.data.toList.drop a).take (64 * q) = markedTo L [83] [77] q
  | 0, _, _, _ => by rw [Nat.mul_zero, List.take_zero]; rfl
  | q + 1, h, hm, hp => by
    have hl : s.data.toList.length = s.size := rfl
    rw [markedTo, ← marked_of h0 q (by omega) (fun j h1 h2 => hm j h1 (by omega)) (fun j hj => hp j (by omega)), ← hp q (by omega), ex_list, show 64 * (q + 1) = 64 * q + (63 + 1) by omega, ← seg_add, ← seg_add, ← List.append_assoc, seg_one _ _ (by omega)]
    congr 2
    by_cases hq : q = 0
    · subst hq; rw [if_pos rfl, Nat.mul_zero, Nat.add_zero, h0]
    · rw [if_neg hq, hm q (by omega) (by omega)]
theorem marked_marks (L : List UInt8) (c d : UInt8) (j : Nat) : ∀ q, j < q → (markedTo L [c] [d] q).getD (64 * j + 63) 0 = if j = 0 then c else d
  | 0, h => by omega
  | q + 1, h => by
    have hl := markedTo_len1 L c d q
    rw [markedTo, List.append_assoc]
    by_cases hjq : j = q
    · subst hjq
      rw [List.getD_eq_getElem?_getD, List.getElem?_append_right (by omega), List.getElem?_append_right (by rw [part63_length]; omega), hl, part63_length, show 64 * j + 63 - 64 * j - 63 = 0 by omega]
      split <;> rfl
    · rw [List.getD_eq_getElem?_getD, List.getElem?_append_left (by omega), ← List.getD_eq_getElem?_getD]
      exact marked_marks L c d j q (by omega)

theorem node_yes {s : ByteArray} {a N q i a' a2 : Nat} {l : List UInt8} {t : ByteArray} (hq : secs N = q) (hN : N = numAt s a) (h1 : 1 ≤ N) (h2 : N ≤ 4000) (hmk : a + 64 ≤ s.size ∧ (s.data.toList.getD (a + 63) 0).toNat = 83) (hi : i + 1 = q) (hM : MI s a i a' false l) (hP : PX (T l) 0 false t a2 false) (ha2 : a2 = (T l).size) :
    IsNode s a t ∧ a' = a + 64 * secs t.size := by
  rcases hM with ⟨_, hg, ha', hl⟩ | ⟨_, g⟩
  · have hle : a + 64 * q ≤ s.size := by
      by_cases h : i = 0
      · omega
      · have := (hg i (by omega) (Nat.le_refl _)).1; omega
    rw [hi] at hl ha'
    subst hl
    have hq1 : 1 ≤ q := by omega
    have hn : numAt (T (unTo s a q)) 0 = N := by rw [un_num s a q hq1 hle, hN]
    have hsz : (T (unTo s a q)).size = 63 * q := un_len s a q hle
    obtain ⟨p1, p2, p3⟩ := hP.yes ha2
    rw [hn] at p1 p2 p3
    have hts : t.size = N := by rw [p2]; exact ex_size _ 4 N p1
    rw [hsz, T_data] at p3
    have hL : (four N ++ t.data.toList).length = 4 + N := by rw [List.length_append]; show 4 + t.size = _; rw [hts]
    have e : unTo s a q = partsTo (four N ++ t.data.toList) q := by
      rw [partsTo_eq, p3, List.take_of_length_le (by rw [hL]; omega), hL]
    have hx := marked_of (L := four N ++ t.data.toList) (UInt8.toNat.inj (by rw [hmk.2]; rfl)) q hle (fun j h1 h2 => UInt8.toNat.inj (by rw [(hg j h1 (by omega)).2]; rfl)) (un_parts q hle e)
    refine ⟨⟨by omega, by omega, by rw [hts, hq]; exact hle, ?_⟩, by rw [hts, hq]; exact ha'⟩
    rw [nodeRec, if_pos (by omega), marked, secs_eq, hts, hq, ← hx]
    conv => lhs; rw [← T_of s, T_extract, Nat.add_sub_cancel_left]
  · cases g
theorem node_no {s : ByteArray} {a N q i a' a2 : Nat} {f' f2 : Bool} {l : List UInt8} {t : ByteArray} (hq : secs N = q) (hN : N = numAt s a) (hi : i + 1 = q) (hM : MI s a i a' f' l) (hP : PX (T l) 0 false t a2 f2) (hno : ¬ (f' = false ∧ f2 = false ∧ a2 = (T l).size)) (enc : ByteArray) : ¬ IsNode s a enc := by
  intro hE
  have ht := hE.text
  have hn := hE.parts.2.2.1
  have hle := hE.2.2.1
  have hN2 : enc.size = N := by rw [hN, hn]
  rw [hN2, hq] at ht hle
  have hg : good s a i := fun j h1 h2 => by
    refine ⟨by omega, ?_⟩
    rw [Nat.add_assoc a, sub_getD ht (64 * j + 63) (by omega), marked_marks _ _ _ _ _ (by omega), if_neg (by omega)]; rfl
  rcases hM with ⟨hf, _, ha', hl⟩ | ⟨g, _⟩
  · rw [hi] at hl
    have hL : (four N ++ enc.data.toList).length = 4 + N := by rw [List.length_append]; show 4 + enc.size = _; rw [hN2]
    have hgap : 63 * q - (4 + N) = gap (4 + N) := by rw [← hq]; unfold secs gap; omega
    have hq63 : 4 + N ≤ 63 * q := by rw [← hq]; unfold secs; omega
    have e := un_of ht q (Nat.le_refl _)
    rw [partsTo_eq, List.take_of_length_le (by rw [hL]; exact hq63), hL, hgap] at e
    exact hno ⟨hf, hP.no N (by rw [hl, un_num s a q (by omega) hle, hN]) _ hL (by rw [T_data, hl]; exact e)⟩
  · exact g hg
end Go.Proofs.Ytglpjoandgbngab
