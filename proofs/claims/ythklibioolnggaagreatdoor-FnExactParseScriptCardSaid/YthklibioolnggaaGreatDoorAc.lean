import Derived.Test.YthklibioolnggaaGreatDoorAb
import Derived.Lib.AtoiAllCases
import Derived.Lib.ItoaNum
namespace Go.Proofs.YthklibioolnggaaGreatDoor
open Go.RowKit Go.Proofs.Sha

def dgt (c : UInt8) : Bool := decide (48 ≤ c.toNat) && decide (c.toNat ≤ 57)
def stepD (n : Nat) (c : UInt8) : Nat := n * 10 + (c.toNat - 48)
def valD (l : List UInt8) : Nat := l.foldl stepD 0

theorem dd_digit (u : Nat) : (Lib.decDigits u).all dgt = true := by
  induction u using Nat.strongRecOn with
  | ind u ih =>
    rw [Lib.decDigits]
    split
    · have : (UInt8.ofNat (48 + u)).toNat = 48 + u := by simp; omega
      simp [dgt]; omega
    · rw [List.all_append, ih (u / 10) (by omega)]
      simp [dgt]; omega
theorem dd_val (u : Nat) : valD (Lib.decDigits u) = u := by
  induction u using Nat.strongRecOn with
  | ind u ih =>
    rw [Lib.decDigits]
    split
    · simp [valD, stepD]; omega
    · have h := ih (u / 10) (by omega)
      unfold valD at h ⊢
      rw [List.foldl_append, h]
      simp [stepD]; omega
theorem dd_len (k : Nat) : ∀ u, u < 10 ^ (k + 1) → (Lib.decDigits u).length ≤ k + 1 := by
  induction k with
  | zero => intro u h; rw [Lib.decDigits, dif_pos (by simpa using h)]; simp
  | succ k ih =>
    intro u h
    rw [Lib.decDigits]
    split
    · simp
    · have := ih (u / 10) (by rw [Nat.pow_succ] at h; omega)
      simp; omega
theorem dd_ne (u : Nat) : Lib.decDigits u ≠ [] := by
  rw [Lib.decDigits]; split <;> simp
theorem val_lt (l : List UInt8) (h : l.all dgt = true) : ∀ n, l.foldl stepD n + 1 ≤ (n + 1) * 10 ^ l.length := by
  induction l with
  | nil => intro n; simp
  | cons c r ih =>
    intro n
    rw [List.all_cons, Bool.and_eq_true] at h
    have h1 := h.1
    simp [dgt] at h1
    have := ih h.2 (stepD n c)
    rw [List.foldl_cons, List.length_cons, Nat.pow_succ]
    refine Nat.le_trans this ?_
    have hs : stepD n c + 1 ≤ (n + 1) * 10 := by unfold stepD; omega
    calc (stepD n c + 1) * 10 ^ r.length ≤ ((n + 1) * 10) * 10 ^ r.length := Nat.mul_le_mul_right _ hs
      _ = (n + 1) * (10 ^ r.length * 10) := by rw [Nat.mul_assoc, Nat.mul_comm 10]
theorem valD_lt (l : List UInt8) (h : l.all dgt = true) (hl : l.length ≤ 8) : valD l ≤ 99999999 := by
  have := val_lt l h 0
  have h2 : (10 : Nat) ^ l.length ≤ 10 ^ 8 := Nat.pow_le_pow_right (by decide) hl
  unfold valD
  have h3 : (10 : Nat) ^ 8 = 100000000 := by decide
  omega
theorem parse_val (l : List UInt8) (h : l.all dgt = true) : ∀ n, l.foldl stepD n < 9223372036854775808 → Lib.parseUint10 n l = .ok (l.foldl stepD n) := by
  induction l with
  | nil => intro n _; rfl
  | cons c r ih =>
    intro n hn
    rw [List.all_cons, Bool.and_eq_true] at h
    have h1 := h.1
    simp [dgt] at h1
    rw [List.foldl_cons] at hn ⊢
    have hm : ∀ (l : List UInt8) (m : Nat), m ≤ l.foldl stepD m := by
      intro l
      induction l with
      | nil => intro m; exact Nat.le_refl _
      | cons a t iht => intro m; rw [List.foldl_cons]; exact Nat.le_trans (by unfold stepD; omega) (iht _)
    have h2 := hm r (stepD n c)
    have h3 : stepD n c = n * 10 + (c.toNat - 48) := rfl
    rw [Lib.parseUint10, if_pos ⟨h1.1, h1.2⟩, if_neg (by omega), if_neg (by omega)]
    exact ih h.2 _ hn
theorem atoi_dd (u : Nat) (hu : u ≤ 99999999) : Lib.atoiAll (Lib.decDigits u) = .ok (u : Int) := by
  have hd := dd_digit u
  have hv := dd_val u
  have hp := parse_val (Lib.decDigits u) hd 0 (by unfold valD at hv; omega)
  cases hl : Lib.decDigits u with
  | nil => exact absurd hl (dd_ne u)
  | cons c r =>
    rw [hl] at hd hp hv
    rw [List.all_cons, Bool.and_eq_true] at hd
    have h1 := hd.1
    simp [dgt] at h1
    rw [Lib.atoiAll_plain c r (by omega) (by omega), Lib.parseMag, if_neg (by simp), hp]
    unfold valD at hv
    rw [hv, Lib.signless, if_neg (by omega)]

/-- What the program makes of a text that should be a number. -/
def numI (l : List UInt8) : Int × Bool :=
  match Lib.atoiAll l with
  | .ok v => (v, decide (-1 ≤ v) && decide (v ≤ 99999999) && decide (Lib.itoa v = l))
  | .syntax => (0, false)
  | .range => (Lib.atoiSat l, false)
/-- What the model makes of it. -/
def numS (l : List UInt8) : Int × Bool :=
  if l = [45, 49] then (-1, true) else if l.length < 1 ∨ 8 < l.length then (0, false) else if l.all dgt = true then ((valD l : Nat), decide (Lib.decDigits (valD l) = l)) else (0, false)

theorem num_both (l : List UInt8) : (numI l).2 = (numS l).2 ∧ ((numI l).2 = true → (numI l).1 = (numS l).1) := by
  by_cases hm : l = [45, 49]
  · subst hm
    have h1 : Lib.atoiAll [45, 49] = .ok (-1) := by decide
    have h2 : Lib.itoa (-1) = [45, 49] := by
      rw [Lib.itoa, if_pos (by decide), show (-1 : Int).natAbs = 1 from rfl, Lib.decDigits]; decide
    have h3 : numI [45, 49] = (-1, true) := by
      simp only [numI, h1, h2]; decide
    have h4 : numS [45, 49] = (-1, true) := by simp [numS]
    rw [h3, h4]; exact ⟨rfl, fun _ => rfl⟩
  · have key : (numI l).2 = true → numS l = ((numI l).1, true) := by
      intro h
      unfold numI at h ⊢
      cases ha : Lib.atoiAll l with
      | «syntax» => rw [ha] at h; cases h
      | range => rw [ha] at h; cases h
      | ok v =>
        rw [ha] at h
        simp only [Bool.and_eq_true, decide_eq_true_eq] at h
        obtain ⟨⟨h1, h2⟩, h3⟩ := h
        have h0 : 0 ≤ v := by
          refine Classical.byContradiction fun hn => hm ?_
          have : v = -1 := by omega
          subst this
          rw [← h3, Lib.itoa, if_pos (by decide), show (-1 : Int).natAbs = 1 from rfl, Lib.decDigits]; decide
        obtain ⟨u, rfl⟩ : ∃ u : Nat, v = (u : Int) := ⟨v.toNat, by omega⟩
        rw [Lib.itoa, if_neg (by omega), Int.toNat_natCast] at h3
        have hl := dd_len 7 u (by omega)
        have hn := dd_ne u
        have hd := dd_digit u
        have hv := dd_val u
        rw [h3] at hl hn hd hv
        have hp : 1 ≤ l.length := by cases l with | nil => exact absurd rfl hn | cons => simp
        simp only [numS, if_neg hm, if_neg (show ¬ (l.length < 1 ∨ 8 < l.length) by omega), if_pos hd, hv, h3]
        simp
    have back : (numS l).2 = true → (numI l).2 = true := by
      intro h
      unfold numS at h
      rw [if_neg hm] at h
      split at h
      · cases h
      · split at h
        · rename_i h8 hd
          simp only [decide_eq_true_eq] at h
          have hv := valD_lt l hd (by omega)
          have ha := atoi_dd (valD l) hv
          rw [h] at ha
          simp only [numI, ha]
          rw [Lib.itoa, if_neg (by omega), Int.toNat_natCast, h]
          simp; omega
        · cases h
    cases hi : (numI l).2 with
    | true => rw [key hi]; exact ⟨rfl, fun _ => rfl⟩
    | false =>
      refine ⟨?_, fun h => by cases h⟩
      cases hs : (numS l).2 with
      | true => rw [back hs] at hi; cases hi
      | false => rfl
end Go.Proofs.YthklibioolnggaaGreatDoor
