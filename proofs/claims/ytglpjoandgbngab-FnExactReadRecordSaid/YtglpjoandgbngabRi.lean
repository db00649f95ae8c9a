import Derived.Test.YtglpjoandgbngabRh
import Derived.Test.YtglpjoandgbngabEd
namespace Go.Proofs.Ytglpjoandgbngab
open Go.RowKit Go.Proofs.Sha

theorem ex_list (s : ByteArray) (a n : Nat) : (s.extract a (a + n)).data.toList = (s.data.toList.drop a).take n := by
  conv => lhs; rw [← T_of s, T_extract]
  rw [T_data, Nat.add_sub_cancel_left]
theorem ex_size (s : ByteArray) (a n : Nat) (h : a + n ≤ s.size) : (s.extract a (a + n)).size = n := by
  rw [ByteArray.size_extract]; omega
theorem byteAt_ex (s : ByteArray) (a n i : Nat) (hi : i < n) : byteAt (s.extract a (a + n)) i = (s.data.toList.getD (a + i) 0).toNat := by
  unfold byteAt
  rw [ex_list, List.getD_eq_getElem?_getD, List.getD_eq_getElem?_getD, List.getElem?_take_of_lt hi, List.getElem?_drop]
theorem or_add (x y k : Nat) (h : y < 2 ^ k) : x * 2 ^ k ||| y = x * 2 ^ k + y := by
  rw [Nat.mul_comm, ← Nat.two_pow_add_eq_or_of_lt h]
theorem val1 (b : Nat → Nat) : valTo 1 false b 1 = b 0 := by simp [valTo]
theorem val2 (b : Nat → Nat) (hb : ∀ i, b i < 256) : valTo 2 false b 2 = b 0 * 256 + b 1 := by
  have e : valTo 2 false b 2 = b 0 * 2 ^ 8 ||| b 1 := by simp [valTo]
  rw [e, or_add _ _ 8 (hb 1)]
theorem val4 (b : Nat → Nat) (hb : ∀ i, b i < 256) : valTo 4 true b 4 = b 0 + b 1 * 256 + b 2 * 65536 + b 3 * 16777216 := by
  have h0 := hb 0; have h1 := hb 1; have h2 := hb 2
  have e : valTo 4 true b 4 = ((b 0 ||| b 1 * 2 ^ 8) ||| b 2 * 2 ^ 16) ||| b 3 * 2 ^ 24 := by simp [valTo]
  rw [e, Nat.or_comm (b 0), or_add _ _ 8 (by omega), Nat.or_comm _ (b 2 * 2 ^ 16), or_add _ _ 16 (by omega), Nat.or_comm _ (b 3 * 2 ^ 24), or_add _ _ 24 (by omega)]
  omega

theorem SX2 {s : ByteArray} {a : Nat} {f : Bool} {t : ByteArray} {a' : Nat} {f' : Bool} (h : SX 2 false s a f t a' f') :
    (f = false ∧ pieceOk s a ∧ t = s.extract (a + 2) (a + 2 + szAt s a) ∧ a' = a + 2 + szAt s a ∧ f' = false) ∨ ((f = true ∨ ¬ pieceOk s a) ∧ f' = true) := by
  obtain ⟨t1, a1, f1, h1, h2⟩ := h
  rcases h1 with ⟨hf, hle, ht1, ha1, hf1⟩ | ⟨hf, ht1, ha1, hf1⟩
  · have hv : valTo 2 false (byteAt t1) t1.size = szAt s a := by
      rw [ht1, ex_size s a 2 hle, val2 _ (byteAt_lt _), byteAt_ex s a 2 0 (by omega), byteAt_ex s a 2 1 (by omega)]
      rfl
    rw [hv] at h2
    rcases h2 with ⟨_, hle2, ht, ha', hf'⟩ | ⟨hf2, _, _, hf'⟩
    · subst ha1
      exact .inl ⟨hf, ⟨hle, hle2⟩, ht, ha', hf'⟩
    · subst ha1
      refine .inr ⟨.inr fun hp => ?_, hf'⟩
      rcases hf2 with h | h
      · rw [hf1] at h; cases h
      · exact h hp.2
  · rcases h2 with ⟨hf2, _⟩ | ⟨_, _, _, hf'⟩
    · rw [hf1] at hf2; cases hf2
    · refine .inr ⟨?_, hf'⟩
      rcases hf with h | h
      · exact .inl h
      · exact .inr fun hp => h hp.1
theorem NX1 {s : ByteArray} {a : Nat} {f : Bool} {t : ByteArray} {a' : Nat} {f' : Bool} (h : NX s a f 1 t a' f') :
    (f = false ∧ a + 1 ≤ s.size ∧ valTo 1 false (byteAt t) t.size = (s.data.toList.getD a 0).toNat ∧ a' = a + 1 ∧ f' = false) ∨ ((f = true ∨ ¬ a + 1 ≤ s.size) ∧ f' = true) := by
  rcases h with ⟨hf, hle, ht, ha', hf'⟩ | ⟨hf, _, _, hf'⟩
  · refine .inl ⟨hf, hle, ?_, ha', hf'⟩
    rw [ht, ex_size s a 1 hle, val1, byteAt_ex s a 1 0 (by omega)]
    rfl
  · exact .inr ⟨hf, hf'⟩

/-- Where every step goes through. -/
theorem NR.ok {n : Nat} {s k v l x : ByteArray} {a' : Nat} (h : NR n s 0 false k v l x a' false) :
    ∃ a1 a2 fl, pieceOk s 0 ∧ k = s.extract (0 + 2) (0 + 2 + szAt s 0) ∧ a1 = 0 + 2 + szAt s 0 ∧ pieceOk s a1 ∧ v = s.extract (a1 + 2) (a1 + 2 + szAt s a1) ∧ a2 = a1 + 2 + szAt s a1 ∧ a2 + 1 ≤ s.size ∧ fl = (s.data.toList.getD a2 0).toNat ∧
      a2 + 1 + (if fl &&& 1 = 0 then 0 else n) + (if fl &&& 2 = 0 then 0 else n) ≤ s.size ∧ l = s.extract (a2 + 1) (a2 + 1 + (if fl &&& 1 = 0 then 0 else n)) ∧
      x = s.extract (a2 + 1 + (if fl &&& 1 = 0 then 0 else n)) (a2 + 1 + (if fl &&& 1 = 0 then 0 else n) + (if fl &&& 2 = 0 then 0 else n)) ∧ a' = a2 + 1 + (if fl &&& 1 = 0 then 0 else n) + (if fl &&& 2 = 0 then 0 else n) ∧ fl ≤ 3 ∧ nodeOk k.size v.size l.size x.size (n : Int) = true := by
  obtain ⟨a1, f1, a2, f2, fl, t3, a3, f3, a4, f4, f5, h1, h2, h3, hfl, h4, h5, hf⟩ := h
  have hf5 : f5 = false ∧ ¬ 3 < fl ∧ nodeOk k.size v.size l.size x.size (n : Int) = true := by
    cases f5
    · simp at hf; exact ⟨rfl, by omega, hf.2⟩
    · simp at hf
  rcases h5 with ⟨g4, hle5, hx, ha', _⟩ | ⟨_, _, _, g⟩
  rotate_left
  · rw [hf5.1] at g; cases g
  rcases h4 with ⟨g3, hle4, hl, ha4, _⟩ | ⟨_, _, _, g⟩
  rotate_left
  · rw [g4] at g; cases g
  rcases NX1 h3 with ⟨g2, hle3, hv3, ha3, _⟩ | ⟨_, g⟩
  rotate_left
  · rw [g3] at g; cases g
  rcases SX2 h2 with ⟨g1, hp2, hv, ha2, _⟩ | ⟨_, g⟩
  rotate_left
  · rw [g2] at g; cases g
  rcases SX2 h1 with ⟨_, hp1, hk, ha1, _⟩ | ⟨_, g⟩
  rotate_left
  · rw [g1] at g; cases g
  subst ha4 ha3
  exact ⟨a1, a2, fl, hp1, hk, ha1, hp2, hv, ha2, hle3, by rw [hfl, hv3], hle5, hl, hx, ha', by omega, hf5.2.2⟩
end Go.Proofs.Ytglpjoandgbngab
