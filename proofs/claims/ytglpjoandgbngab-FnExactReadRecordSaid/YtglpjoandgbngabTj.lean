import Derived.Test.YtglpjoandgbngabTi
namespace Go.Proofs.Ytglpjoandgbngab
open Go.RowKit Go.Proofs.Sha

theorem SX1 {s : ByteArray} {a : Nat} {f : Bool} {t : ByteArray} {a' : Nat} {f' : Bool} (h : SX 1 false s a f t a' f') (b : Nat) (hb : (s.data.toList.getD a 0).toNat = b) :
    (f = false ∧ a + 1 + b ≤ s.size ∧ t = s.extract (a + 1) (a + 1 + b) ∧ a' = a + 1 + b ∧ f' = false) ∨ ((f = true ∨ ¬ (a + 1 + b ≤ s.size)) ∧ f' = true) := by
  obtain ⟨t1, a1, f1, h1, h2⟩ := h
  rcases NX1 h1 with ⟨hf, hle, hv, ha1, hf1⟩ | ⟨hf, hf1⟩
  · rw [hv, hb] at h2
    subst ha1
    rcases h2 with ⟨_, hle2, ht, ha', hf'⟩ | ⟨hf2, _, _, hf'⟩
    · exact .inl ⟨hf, hle2, ht, ha', hf'⟩
    · refine .inr ⟨.inr fun hp => ?_, hf'⟩
      rcases hf2 with h | h
      · rw [hf1] at h; cases h
      · exact h hp
  · rcases h2 with ⟨hf2, _⟩ | ⟨_, _, _, hf'⟩
    · rw [hf1] at hf2; cases hf2
    · refine .inr ⟨?_, hf'⟩
      rcases hf with h | h
      · exact .inl h
      · exact .inr fun hp => h (by omega)

/-- What a commit record's reading answers and leaves. -/
def CommitR (s : ByteArray) (a : Nat) (k : Int) (enc : ByteArray) (v : Int) (root : ByteArray) (nx : Int) (a' : Nat) (f' : Bool) : Prop :=
  (f' = false ∧ IsCommit s a v root ∧ a' = a + 64 ∧ k = 2 ∧ enc = ⟨#[]⟩ ∧ nx = 0) ∨ (f' = true ∧ ∀ v' root', ¬ IsCommit s a v' root')

theorem gap5 (b : Nat) (h : b ≤ 32) : gap (5 + b) = 63 - (5 + b) := by unfold gap; omega

theorem QX.yes {t : ByteArray} {k v nx : Int} {enc root : ByteArray} {a' : Nat} (h : QX t 0 false k enc v root nx a' false) (ht : t.size = 63) :
    1 ≤ v ∧ v ≤ 1000000 ∧ root.size ≤ 32 ∧ k = 2 ∧ enc = ⟨#[]⟩ ∧ nx = 0 ∧ t.data.toList = part63 (four v.toNat ++ ([UInt8.ofNat root.size] ++ root.data.toList)) 0 := by
  obtain ⟨a1, f1, n, rt, t2, f2, hK, hh, _, h3, hf⟩ := h
  have hf2 : f2 = false ∧ zeroT t2 = true := by
    cases f2 <;> cases hz : zeroT t2 <;> rw [hz] at hf <;> first | exact ⟨rfl, rfl⟩ | cases hf
  rcases h3 with ⟨hf1, hle2, ht2, _, _⟩ | ⟨_, _, _, g⟩
  · obtain ⟨rfl, rfl, rfl, rfl, rfl⟩ := hh hf1
    obtain ⟨t1, a0, f0, f3, h1, hn, h2, hf3⟩ := hK
    have hf30 : f3 = false ∧ (1 ≤ n ∧ n ≤ 1000000 ∧ root.size ≤ 32) := by
      rw [hf1] at hf3
      cases f3
      · refine ⟨rfl, ?_⟩
        by_cases hd : 1 ≤ n ∧ n ≤ 1000000 ∧ root.size ≤ 32
        · exact hd
        · rw [decide_eq_false hd] at hf3; cases hf3
      · cases hf3
    rcases h1 with ⟨_, hle1, ht1, ha0, _⟩ | ⟨hno, _⟩
    · rw [num_ex t t1 0 hle1 ht1] at hn
      rw [Nat.zero_add] at ha0
      subst ha0
      obtain ⟨b, hb⟩ : ∃ b, (t.data.toList.getD 4 0).toNat = b := ⟨_, rfl⟩
      rcases SX1 h2 b hb with ⟨_, hle, hrt, ha1, _⟩ | ⟨_, g⟩
      · have hrs : root.size = b := by rw [hrt]; exact ex_size t (4 + 1) b hle
        subst ha1
        refine ⟨by omega, by omega, hf30.2.2.2, rfl, rfl, rfl, ?_⟩
        have hz := zeroT_rep hf2.2
        have hl : t.data.toList.length = 63 := ht
        have hg := gap5 b (by omega)
        rw [ht2, ex_size t _ _ hle2, ex_list, show 4 + 1 + b = 5 + b from rfl, hg] at hz
        have hL : (four (n : Int).toNat ++ ([UInt8.ofNat root.size] ++ root.data.toList)).length = 5 + b := by
          rw [List.length_append, List.length_append]; show 4 + (1 + root.size) = _; omega
        unfold part63
        rw [List.drop_zero, List.take_of_length_le (by rw [hL]; omega), hL, Nat.sub_zero, ← hz, Int.toNat_natCast, hn, four_back t 0 (by omega), hrs, ← hb, UInt8.ofNat_toNat, ← seg_one t.data.toList 4 (by omega), hrt, ex_list, seg_add, hb, List.drop_zero]
        have e1 := seg_add t.data.toList 0 4 (1 + b)
        rw [List.drop_zero, Nat.zero_add] at e1
        rw [e1, List.take_of_length_le (l := List.drop (5 + b) t.data.toList) (by rw [List.length_drop]; omega), show 4 + (1 + b) = 5 + b by omega, List.take_append_drop]
      · rw [hf30.1] at g; cases g
    · rcases hno with g | g
      · cases g
      · omega
  · rw [g] at hf2; cases hf2.1

theorem QX.no {t : ByteArray} {k v nx : Int} {enc root : ByteArray} {a' : Nat} {f' : Bool} (h : QX t 0 false k enc v root nx a' f') {v' : Int} {root' : ByteArray} (h1 : 1 ≤ v') (h2 : v' ≤ 1000000) (h3 : root'.size ≤ 32)
    (ht : t.data.toList = four v'.toNat ++ ([UInt8.ofNat root'.size] ++ root'.data.toList) ++ List.replicate (63 - (5 + root'.size)) 0) : f' = false ∧ a' = t.size := by
  have hL : (four v'.toNat ++ ([UInt8.ofNat root'.size] ++ root'.data.toList)).length = 5 + root'.size := by
    rw [List.length_append, List.length_append]; show 4 + (1 + root'.size) = _; omega
  have hsz : t.size = 63 := by
    show t.data.toList.length = _
    rw [ht, List.length_append, List.length_replicate, hL]; omega
  have hnum : numAt t 0 = v'.toNat := by
    have g : ∀ j, j < 4 → t.data.toList.getD j 0 = (four v'.toNat).getD j 0 := fun j hj => by rw [ht, List.append_assoc, four_getD _ _ j hj]
    have := four_num v'.toNat (by omega)
    unfold numAt
    rw [g 0 (by omega), g (0 + 1) (by omega), g (0 + 2) (by omega), g (0 + 3) (by omega)]
    exact this
  have hb : (t.data.toList.getD 4 0).toNat = root'.size := by
    rw [ht]
    show (UInt8.ofNat root'.size).toNat = _
    exact UInt8.toNat_ofNat_of_lt' (by show _ < 256; omega)
  obtain ⟨a1, f1, n, rt, t2, f2, hK, _, _, h5, hf⟩ := h
  obtain ⟨t1, a0, f0, f3, k1, hn, k2, hf3⟩ := hK
  rcases k1 with ⟨_, hle1, ht1, ha0, hf0⟩ | ⟨hno, _⟩
  · rw [num_ex t t1 0 hle1 ht1, hnum] at hn
    rw [Nat.zero_add] at ha0
    subst ha0
    rcases SX1 k2 _ hb with ⟨_, hle, hrt, ha1, hf3'⟩ | ⟨hno, _⟩
    · have hrs : rt.size = root'.size := by rw [hrt]; exact ex_size t (4 + 1) _ hle
      have hf1 : f1 = false := by rw [hf3, hf3', decide_eq_true (by omega)]; rfl
      subst ha1
      have hg := gap5 root'.size h3
      rcases h5 with ⟨_, hle2, ht2, ha2, g⟩ | ⟨hno, _⟩
      · refine ⟨?_, ?_⟩
        · have : zeroT t2 = true := rep_zeroT (63 - (5 + root'.size)) (by
            rw [ht2, ex_list, show 4 + 1 + root'.size = 5 + root'.size from rfl, hg, ht, ← hL, List.drop_left, List.take_of_length_le (by rw [List.length_replicate]; exact Nat.le_refl _)])
          rw [hf, g, this]; rfl
        · rw [ha2, show 4 + 1 + root'.size = 5 + root'.size from rfl, hg]; omega
      · rcases hno with g | g
        · rw [hf1] at g; cases g
        · rw [show 4 + 1 + root'.size = 5 + root'.size from rfl, hg] at g; omega
    · rcases hno with g | g
      · rw [hf0] at g; cases g
      · omega
  · rcases hno with g | g
    · cases g
    · omega

theorem commit_yes {s : ByteArray} {a a' a2 : Nat} {t : ByteArray} {k v nx : Int} {enc root : ByteArray} (hC : CX 67 s a false t a' false) (hQ : QX t 0 false k enc v root nx a2 false) : IsCommit s a v root ∧ a' = a + 64 ∧ k = 2 ∧ enc = ⟨#[]⟩ ∧ nx = 0 := by
  rcases hC with ⟨_, hle, hmk, ht, ha', _⟩ | ⟨_, g⟩
  · have hts : t.size = 63 := by rw [ht]; exact ex_size s a 63 (by omega)
    obtain ⟨h1, h2, h3, rfl, rfl, rfl, hl⟩ := hQ.yes hts
    refine ⟨⟨h1, h2, h3, hle, ?_⟩, ha', rfl, rfl, rfl⟩
    have hsl : s.data.toList.length = s.size := rfl
    rw [commit_text h1 h2 h3, markedTo, markedTo, List.nil_append, Nat.mul_zero, ← hl, if_pos rfl, ht, ex_list]
    conv => lhs; rw [← T_of s, T_extract, Nat.add_sub_cancel_left]
    have e := seg_add s.data.toList a 63 1
    rw [seg_one _ _ (by omega), UInt8.toNat.inj (show _ = (67 : UInt8).toNat from hmk)] at e
    rw [e]
  · cases g
theorem commit_no {s : ByteArray} {a a' a2 : Nat} {f' f2 : Bool} {t : ByteArray} {k v nx : Int} {enc root : ByteArray} (hC : CX 67 s a false t a' f') (hQ : QX t 0 false k enc v root nx a2 f2) (hno : ¬ (f' = false ∧ f2 = false ∧ a2 = t.size)) (v' : Int) (root' : ByteArray) : ¬ IsCommit s a v' root' := by
  intro hE
  have hmk := hE.parts.1
  obtain ⟨h1, h2, h3, hle, he⟩ := hE
  rcases hC with ⟨_, _, _, ht, _, hf'⟩ | ⟨hn, _⟩
  · refine hno ⟨hf', ?_⟩
    rw [commit_text h1 h2 h3] at he
    have hx := sub_extract he 0 63 (by omega)
    rw [Nat.add_zero, List.drop_zero, markedTo, markedTo, List.nil_append, Nat.mul_zero, List.take_append_of_le_length (by rw [part63_length]; exact Nat.le_refl _), List.take_of_length_le (by rw [part63_length]; exact Nat.le_refl _)] at hx
    have hL : (four v'.toNat ++ ([UInt8.ofNat root'.size] ++ root'.data.toList)).length = 5 + root'.size := by
      rw [List.length_append, List.length_append]; show 4 + (1 + root'.size) = _; omega
    refine hQ.no h1 h2 h3 ?_
    rw [ht, hx, T_data, part63, List.drop_zero, List.take_of_length_le (by rw [hL]; omega), hL, Nat.sub_zero]
  · rcases hn with g | g
    · cases g
    · exact g ⟨hle, by rw [hmk]; rfl⟩
end Go.Proofs.Ytglpjoandgbngab
