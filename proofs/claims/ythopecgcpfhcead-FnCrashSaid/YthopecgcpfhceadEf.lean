import Derived.Test.YthopecgcpfhceadEe
import Derived.Laws.StructEq
namespace Go.Proofs.Ythopecgcpfhcead
open Go.RowKit Go.Proofs.Sha

/-- What EncodeNode answers. -/
def encS (k v l r : ByteArray) (n : Int) : ByteArray := if nodeOk k.size v.size l.size r.size n = true then T (encL k.data.toList v.data.toList l.data.toList r.data.toList) else ⟨#[]⟩
theorem enc_any (k v l r : ByteArray) (n : Int) (w : World) (hk : k.size ≤ 1048576) (hv : v.size ≤ 1048576) (hl : l.size ≤ 1048576) (hr : r.size ≤ 1048576) :
    Calls Try.prog 23 #[nodeV k v l r, .int .i64 n] w fun e w' => ∃ t, e = .returned (.string t) ∧ Hid (t = encS k v l r n) ∧ Below w.heap.size w w' := by
  by_cases h : nodeOk k.size v.size l.size r.size n = true
  · exact (enc_yes k v l r n w hk hv hl hr h).mono fun e w' ⟨he, hb⟩ => ⟨_, he, by show _ = encS k v l r n; rw [encS, if_pos h], hb⟩
  · exact (enc_no k v l r n w hk hv hl hr (by simpa using h)).mono fun e w' ⟨he, hb⟩ => ⟨_, he, by show _ = encS k v l r n; rw [encS, if_neg h], hb⟩
theorem encS_is {s k v l r : ByteArray} {n : Int} (hs : 0 < s.size) : encS k v l r n = s ↔ IsEnc s n k v l r := by
  unfold encS IsEnc
  constructor
  · intro h
    split at h
    · exact ⟨by assumption, h.symm⟩
    · subst h; cases hs
  · intro h; rw [if_pos h.1, ← h.2]

theorem str_ne {t s : ByteArray} (h : ¬ t = s) : (t.toList == s.toList) = false := by
  rw [ByteArray.toList_eq, ByteArray.toList_eq, beq_eq_false_iff_ne]
  intro e
  exact h ((T_of t).symm.trans ((congrArg T e).trans (T_of s)))
theorem extract_size_le (s : ByteArray) (a b : Nat) : (s.extract a b).size ≤ s.size := by
  rw [← T_of s, T_extract, T_size, T_size, List.length_take, List.length_drop]; omega

end Go.Proofs.Ythopecgcpfhcead
