import Derived.WalkKit
namespace Go.Proofs.Disk

/-- Whether byte i behind the first fr is on the disk. -/
def keptB (fr : Nat) (ps : List Int) (i : Nat) : Bool := decide (i / 64 - fr / 64 < ps.length) && decide (((i - max (i / 64 * 64) fr : Nat) : Int) < ps.getD (i / 64 - fr / 64) 0)
/-- What is left when k bytes behind Stable were looked at. -/
def left (st now : List UInt8) (ps : List Int) : Nat → List UInt8
  | 0 => st
  | k + 1 => if keptB st.length ps (st.length + k) then left st now ps k ++ List.replicate (st.length + k - (left st now ps k).length) 0 ++ [now.getD (st.length + k) 0] else left st now ps k
def full (st now : List UInt8) (ps : List Int) (k : Nat) : List UInt8 := left st now ps k ++ List.replicate (st.length + k - (left st now ps k).length) 0
def crash (st now : List UInt8) (ps : List Int) : List UInt8 := left st now ps (now.length - st.length)

variable {st now : List UInt8} {ps : List Int}
theorem left_len (k : Nat) : st.length ≤ (left st now ps k).length ∧ (left st now ps k).length ≤ st.length + k := by
  induction k with
  | zero => exact ⟨Nat.le_refl _, Nat.le_refl _⟩
  | succ k ih =>
    rw [left]
    split
    · simp only [List.length_append, List.length_replicate, List.length_cons, List.length_nil]; omega
    · omega
theorem full_len (k : Nat) : (full st now ps k).length = st.length + k := by
  have := left_len (st := st) (now := now) (ps := ps) k
  simp only [full, List.length_append, List.length_replicate]; omega
theorem full_take (k : Nat) : (full st now ps k).take (left st now ps k).length = left st now ps k := by
  rw [full, List.take_left']
  rfl
theorem full_yes {k : Nat} (h : keptB st.length ps (st.length + k) = true) : full st now ps (k + 1) = full st now ps k ++ [now.getD (st.length + k) 0] ∧ (left st now ps (k + 1)).length = st.length + k + 1 := by
  have e : left st now ps (k + 1) = full st now ps k ++ [now.getD (st.length + k) 0] := by rw [left, if_pos h]; rfl
  have l : (left st now ps (k + 1)).length = st.length + k + 1 := by rw [e, List.length_append, full_len]; rfl
  refine ⟨?_, l⟩
  rw [full, l, show st.length + (k + 1) - (st.length + k + 1) = 0 by omega, e, List.replicate_zero, List.append_nil]
theorem full_no {k : Nat} (h : keptB st.length ps (st.length + k) = false) : full st now ps (k + 1) = full st now ps k ++ [0] ∧ left st now ps (k + 1) = left st now ps k := by
  have e : left st now ps (k + 1) = left st now ps k := by rw [left, if_neg (by rw [h]; decide)]
  have := left_len (st := st) (now := now) (ps := ps) k
  refine ⟨?_, e⟩
  rw [full, e, full, show st.length + (k + 1) - (left st now ps k).length = st.length + k - (left st now ps k).length + 1 by omega, List.replicate_succ', List.append_assoc]

/-- Where open sector number m begins. -/
def pos (fr n m : Nat) : Nat := if m = 0 then fr else min n ((fr / 64 + m) * 64)
theorem pos_zero (fr n : Nat) : pos fr n 0 = fr := rfl
theorem pos_le {fr n : Nat} (h : fr ≤ n) (m : Nat) : fr ≤ pos fr n m ∧ pos fr n m ≤ n := by
  unfold pos
  split <;> omega
theorem pos_succ {fr n : Nat} (_h : fr ≤ n) (m : Nat) : pos fr n (m + 1) = min ((pos fr n m / 64 + 1) * 64) n := by
  unfold pos
  rw [if_neg (by omega)]
  split
  · subst m; omega
  · omega

theorem kept_in {fr n m i : Nat} {ps : List Int} (h : fr ≤ n) (h1 : pos fr n m ≤ i) (h2 : i < pos fr n (m + 1)) (hm : m < ps.length) : keptB fr ps i = decide (((i - pos fr n m : Nat) : Int) < ps.getD m 0) := by
  have hj : i / 64 - fr / 64 = m ∧ max (i / 64 * 64) fr = pos fr n m := by
    unfold pos at h1 h2 ⊢
    rw [if_neg (by omega)] at h2
    split at h1
    · subst m; simp; omega
    · rename_i hm0
      rw [if_neg hm0]; omega
  unfold keptB
  rw [hj.1, hj.2, decide_eq_true hm, Bool.true_and]
theorem kept_out {fr n i : Nat} {ps : List Int} (h1 : pos fr n ps.length ≤ i) (h2 : i < n) : keptB fr ps i = false := by
  unfold keptB
  rw [decide_eq_false, Bool.false_and]
  unfold pos at h1
  split at h1
  · omega
  · omega

theorem take_get (now : List UInt8) (a t : Nat) (h : a + t < now.length) : (now.drop a).take (t + 1) = (now.drop a).take t ++ [now.getD (a + t) 0] := by
  rw [List.take_add_one, List.getElem?_drop, List.getElem?_eq_getElem h]
  simp [List.getD_eq_getElem?_getD, List.getElem?_eq_getElem h]

/-- One open sector. -/
theorem left_part (hle : st.length ≤ now.length) (m : Nat) (hm : m < ps.length) (c : Nat) (hc : (c : Int) = min (max (ps.getD m 0) 0) ((pos st.length now.length (m + 1) - pos st.length now.length m : Nat) : Int)) :
    ∀ t, t ≤ pos st.length now.length (m + 1) - pos st.length now.length m →
      left st now ps (pos st.length now.length m - st.length + t) = if min t c = 0 then left st now ps (pos st.length now.length m - st.length) else full st now ps (pos st.length now.length m - st.length) ++ (now.drop (pos st.length now.length m)).take (min t c) := by
  obtain ⟨a, ha⟩ : ∃ a, pos st.length now.length m = a := ⟨_, rfl⟩
  obtain ⟨b, hb⟩ : ∃ b, pos st.length now.length (m + 1) = b := ⟨_, rfl⟩
  have p1 := pos_le hle m
  have p2 := pos_le hle (m + 1)
  rw [ha] at p1
  rw [hb] at p2
  rw [ha, hb] at hc ⊢
  intro t
  induction t with
  | zero => intro _; rw [Nat.zero_min, if_pos rfl]; rfl
  | succ t ih =>
    intro ht
    have ih' := ih (by omega)
    have hk : keptB st.length ps (st.length + (a - st.length + t)) = decide ((t : Int) < ps.getD m 0) := by
      rw [show st.length + (a - st.length + t) = a + t by omega, kept_in (n := now.length) hle (by omega : pos st.length now.length m ≤ a + t) (by omega) hm, ha, show a + t - a = t by omega]
    rw [show a - st.length + (t + 1) = (a - st.length + t) + 1 by omega]
    have hlen := full_len (st := st) (now := now) (ps := ps) (a - st.length)
    by_cases hp : (t : Int) < ps.getD m 0
    · rw [decide_eq_true hp] at hk
      have hct : t < c := by omega
      rw [show min t c = t by omega] at ih'
      rw [left, if_pos hk, show min (t + 1) c = t + 1 by omega, if_neg (by omega), take_get now a t (by omega), show st.length + (a - st.length + t) = a + t by omega]
      by_cases h0 : t = 0
      · subst h0
        rw [ih', if_pos rfl, List.take_zero, List.nil_append]
        show _ = (left st now ps (a - st.length) ++ List.replicate (st.length + (a - st.length) - (left st now ps (a - st.length)).length) 0) ++ _
        rw [show st.length + (a - st.length) = a + 0 by omega]
      · rw [ih', if_neg h0]
        have hz : (full st now ps (a - st.length) ++ (now.drop a).take t).length = a + t := by
          rw [List.length_append, hlen, List.length_take, List.length_drop]; omega
        rw [hz, Nat.sub_self, List.replicate_zero, List.append_nil, List.append_assoc]
    · rw [decide_eq_false hp] at hk
      rw [left, if_neg (by rw [hk]; decide), ih', show min (t + 1) c = min t c by omega]
theorem left_round (hle : st.length ≤ now.length) (m : Nat) (hm : m < ps.length) (c : Nat) (hc : (c : Int) = min (max (ps.getD m 0) 0) ((pos st.length now.length (m + 1) - pos st.length now.length m : Nat) : Int)) :
    left st now ps (pos st.length now.length (m + 1) - st.length) = if c = 0 then left st now ps (pos st.length now.length m - st.length) else full st now ps (pos st.length now.length m - st.length) ++ (now.drop (pos st.length now.length m)).take c := by
  have p1 := pos_le hle m
  have p2 := pos_le hle (m + 1)
  have p3 := pos_succ hle m
  have hp : pos st.length now.length m ≤ pos st.length now.length (m + 1) := by omega
  have := left_part hle m hm c hc _ (Nat.le_refl _)
  rw [show pos st.length now.length m - st.length + (pos st.length now.length (m + 1) - pos st.length now.length m) = pos st.length now.length (m + 1) - st.length by omega] at this
  rw [this, show min (pos st.length now.length (m + 1) - pos st.length now.length m) c = c by omega]
theorem left_rest (hle : st.length ≤ now.length) (k : Nat) (h1 : pos st.length now.length ps.length - st.length ≤ k) (h2 : k ≤ now.length - st.length) : left st now ps k = left st now ps (pos st.length now.length ps.length - st.length) := by
  have p1 := pos_le hle ps.length
  induction k with
  | zero => rw [show pos st.length now.length ps.length - st.length = 0 by omega]
  | succ k ih =>
    by_cases h : pos st.length now.length ps.length - st.length = k + 1
    · rw [h]
    · rw [(full_no (kept_out (n := now.length) (by omega) (by omega))).2, ih (by omega) (by omega)]
theorem crash_eq (hle : st.length ≤ now.length) : crash st now ps = left st now ps (pos st.length now.length ps.length - st.length) := by
  have p1 := pos_le hle ps.length
  exact left_rest hle _ (by omega) (by omega)
end Go.Proofs.Disk
