import Derived.Test.YtibjhkpgaaapaaaGreatDoorZgaq
import Derived.Test.YtibjhkpgaaapaaaGreatDoorZgar
import Derived.Test.YtibjhkpgaaapaaaGreatDoorZgal
import Derived.Test.YtibjhkpgaaapaaaGreatDoorZgaj
set_option maxRecDepth 100000
set_option maxHeartbeats 1000000
namespace Go.Proofs.YtibjhkpgaaapaaaGreatDoor
open Go.RowKit Go.Proofs.Sha

theorem lessL (a b : ByteArray) : Op.bytesLess a.data.toList b.data.toList = lessB a b := by unfold lessB; rw [ByteArray.toList_eq, ByteArray.toList_eq]
theorem lessS_q (p q : ByteArray) (w : World) (hp : p.size ≤ 1048576) (hq : q.size ≤ 1048576) : Calls Tryz.prog 85 #[.string p, .string q] w fun e w' => e = .returned (.bool (lessB p q)) ∧ (∃ m, w' = w.drewN m) := by
  have := less_q p q w hp hq
  rw [lessL] at this
  exact this
theorem draws_below {a w : World} {B : Nat} (n : Nat) (h : Below B a w) : Below B a (w.drewN n) := ⟨h.os, h.tape, h.output, h.size, h.block⟩
theorem emp_size {s : ByteArray} {b : Bool} (h : emp s = b) : (b = true → s.size = 0) ∧ (b = false → 0 < s.size) := by
  unfold emp at h
  subst h
  exact ⟨fun h => by simpa using h, fun h => by rw [decide_eq_false_iff_not] at h; omega⟩
theorem emp_beq {s : ByteArray} {b : Bool} (h : emp s = b) : ((s.size : Int) == 0) = b := by
  rw [← h]
  unfold emp
  by_cases e : s.size = 0
  · rw [decide_eq_true e]; simp [e]
  · rw [decide_eq_false e, beq_eq_false_iff_ne]; omega
theorem emp_ne {s : ByteArray} (h : emp s = false) : ¬ s = ByteArray.empty := fun e => by
  subst e
  cases h
/-- 'canW' as the model asks it. -/
theorem canW_spec (over under lo hi : ByteArray) : canW over under lo hi = (if (!emp hi && !lessB lo hi) = true then false else if (!emp under && !lessB lo under) = true then false else (emp over || emp hi || lessB over hi)) := by
  have h0 : emp over = true → lessB over hi = !emp hi := fun h => by
    have hs : over.size = 0 := by unfold emp at h; simpa using h
    have ho : over.toList = [] := by rw [ByteArray.toList_eq]; exact List.length_eq_zero_iff.1 hs
    unfold lessB
    rw [ho, ← emp_iff]
    cases hi.toList <;> rfl
  unfold canW
  cases h1 : emp hi <;> cases h2 : emp under <;> cases h3 : emp over <;> cases h4 : lessB lo hi <;> cases h5 : lessB lo under <;> cases h6 : lessB over hi <;> simp_all
theorem wants_any (over under lo hi : ByteArray) (w : World) (h1 : over.size ≤ 1048576) (h2 : under.size ≤ 1048576) (h3 : lo.size ≤ 1048576) (h4 : hi.size ≤ 1048576) :
    Calls Tryz.prog 106 #[.agg #[.string over, .string under], .string lo, .string hi] w fun e w' => e = .returned (.bool (canW over under lo hi)) ∧ Below w.heap.size w w' := by
  have hbA : Below w.heap.size w (w.alloc (.cells #[.string over, .string under] 94)) := (Below.refl _ _).alloc (Nat.le_refl _) _
  have HA := fun w' => lessS_q lo hi w' h3 h4
  have HB := fun w' => lessS_q lo under w' h3 h2
  have HC := fun w' => lessS_q over hi w' h1 h4
  have HR := canW_spec over under lo hi
  cases e1 : emp hi with
  | false =>
    cases a1 : lessB lo hi with
    | false =>
      rw [e1, a1] at HR
      have HR2 : Hid _ := HR
      clear HR
      rw [a1] at HA
      try have ne1 := emp_ne e1
      have be1 := emp_beq e1
      have se1 := emp_size e1
      simp only [Bool.false_eq_true, false_implies, forall_const, true_and] at se1
      go_enter Tryz.func106, Tryz.ntmps106
      go_wp2_with (first | (go_at_call_of 85 (Value.string over); refine (HC _).mono ?_; rintro e w1 ⟨rfl, m3, rfl⟩) | (go_at_call_of 85 (Value.string hi); refine (HA _).mono ?_; rintro e w1 ⟨rfl, m1, rfl⟩) | (go_at_call_of 85 (Value.string under); refine (HB _).mono ?_; rintro e w1 ⟨rfl, m2, rfl⟩))
      go_ret
      exact ⟨by rw [HR2.out]; rfl, by first | exact hbA | exact draws_below _ hbA | exact draws_below _ (draws_below _ hbA) | exact draws_below _ (draws_below _ (draws_below _ hbA))⟩
    | true =>
      cases e2 : emp under with
      | false =>
        cases a2 : lessB lo under with
        | false =>
          rw [e1, a1, e2, a2] at HR
          have HR2 : Hid _ := HR
          clear HR
          rw [a1] at HA
          rw [a2] at HB
          try have ne1 := emp_ne e1
          have be1 := emp_beq e1
          have se1 := emp_size e1
          simp only [Bool.false_eq_true, false_implies, forall_const, true_and] at se1
          try have ne2 := emp_ne e2
          have be2 := emp_beq e2
          have se2 := emp_size e2
          simp only [Bool.false_eq_true, false_implies, forall_const, true_and] at se2
          go_enter Tryz.func106, Tryz.ntmps106
          go_wp2_with (first | (go_at_call_of 85 (Value.string over); refine (HC _).mono ?_; rintro e w1 ⟨rfl, m3, rfl⟩) | (go_at_call_of 85 (Value.string hi); refine (HA _).mono ?_; rintro e w1 ⟨rfl, m1, rfl⟩) | (go_at_call_of 85 (Value.string under); refine (HB _).mono ?_; rintro e w1 ⟨rfl, m2, rfl⟩))
          go_ret
          exact ⟨by rw [HR2.out]; rfl, by first | exact hbA | exact draws_below _ hbA | exact draws_below _ (draws_below _ hbA) | exact draws_below _ (draws_below _ (draws_below _ hbA))⟩
        | true =>
          cases e3 : emp over with
          | false =>
            cases a3 : lessB over hi with
            | false =>
              rw [e1, a1, e2, a2, e3, a3] at HR
              have HR2 : Hid _ := HR
              clear HR
              rw [a1] at HA
              rw [a2] at HB
              rw [a3] at HC
              try have ne1 := emp_ne e1
              have be1 := emp_beq e1
              have se1 := emp_size e1
              simp only [Bool.false_eq_true, false_implies, forall_const, true_and] at se1
              try have ne2 := emp_ne e2
              have be2 := emp_beq e2
              have se2 := emp_size e2
              simp only [Bool.false_eq_true, false_implies, forall_const, true_and] at se2
              try have ne3 := emp_ne e3
              have be3 := emp_beq e3
              have se3 := emp_size e3
              simp only [Bool.false_eq_true, false_implies, forall_const, true_and] at se3
              go_enter Tryz.func106, Tryz.ntmps106
              go_wp2_with (first | (go_at_call_of 85 (Value.string over); refine (HC _).mono ?_; rintro e w1 ⟨rfl, m3, rfl⟩) | (go_at_call_of 85 (Value.string hi); refine (HA _).mono ?_; rintro e w1 ⟨rfl, m1, rfl⟩) | (go_at_call_of 85 (Value.string under); refine (HB _).mono ?_; rintro e w1 ⟨rfl, m2, rfl⟩))
              go_ret
              exact ⟨by rw [HR2.out]; rfl, by first | exact hbA | exact draws_below _ hbA | exact draws_below _ (draws_below _ hbA) | exact draws_below _ (draws_below _ (draws_below _ hbA))⟩
            | true =>
              rw [e1, a1, e2, a2, e3, a3] at HR
              have HR2 : Hid _ := HR
              clear HR
              rw [a1] at HA
              rw [a2] at HB
              rw [a3] at HC
              try have ne1 := emp_ne e1
              have be1 := emp_beq e1
              have se1 := emp_size e1
              simp only [Bool.false_eq_true, false_implies, forall_const, true_and] at se1
              try have ne2 := emp_ne e2
              have be2 := emp_beq e2
              have se2 := emp_size e2
              simp only [Bool.false_eq_true, false_implies, forall_const, true_and] at se2
              try have ne3 := emp_ne e3
              have be3 := emp_beq e3
              have se3 := emp_size e3
              simp only [Bool.false_eq_true, false_implies, forall_const, true_and] at se3
              go_enter Tryz.func106, Tryz.ntmps106
              go_wp2_with (first | (go_at_call_of 85 (Value.string over); refine (HC _).mono ?_; rintro e w1 ⟨rfl, m3, rfl⟩) | (go_at_call_of 85 (Value.string hi); refine (HA _).mono ?_; rintro e w1 ⟨rfl, m1, rfl⟩) | (go_at_call_of 85 (Value.string under); refine (HB _).mono ?_; rintro e w1 ⟨rfl, m2, rfl⟩))
              go_ret
              exact ⟨by rw [HR2.out]; rfl, by first | exact hbA | exact draws_below _ hbA | exact draws_below _ (draws_below _ hbA) | exact draws_below _ (draws_below _ (draws_below _ hbA))⟩
          | true =>
            rw [e1, a1, e2, a2, e3] at HR
            have HR2 : Hid _ := HR
            clear HR
            rw [a1] at HA
            rw [a2] at HB
            try have ne1 := emp_ne e1
            have be1 := emp_beq e1
            have se1 := emp_size e1
            simp only [Bool.false_eq_true, false_implies, forall_const, true_and] at se1
            try have ne2 := emp_ne e2
            have be2 := emp_beq e2
            have se2 := emp_size e2
            simp only [Bool.false_eq_true, false_implies, forall_const, true_and] at se2
            try have ne3 := emp_ne e3
            have be3 := emp_beq e3
            have se3 := emp_size e3
            simp only [Bool.true_eq_false, false_implies, forall_const, and_true] at se3
            go_enter Tryz.func106, Tryz.ntmps106
            go_wp2_with (first | (go_at_call_of 85 (Value.string over); refine (HC _).mono ?_; rintro e w1 ⟨rfl, m3, rfl⟩) | (go_at_call_of 85 (Value.string hi); refine (HA _).mono ?_; rintro e w1 ⟨rfl, m1, rfl⟩) | (go_at_call_of 85 (Value.string under); refine (HB _).mono ?_; rintro e w1 ⟨rfl, m2, rfl⟩))
            go_ret
            exact ⟨by rw [HR2.out]; rfl, by first | exact hbA | exact draws_below _ hbA | exact draws_below _ (draws_below _ hbA) | exact draws_below _ (draws_below _ (draws_below _ hbA))⟩
      | true =>
        cases e3 : emp over with
        | false =>
          cases a3 : lessB over hi with
          | false =>
            rw [e1, a1, e2, e3, a3] at HR
            have HR2 : Hid _ := HR
            clear HR
            rw [a1] at HA
            rw [a3] at HC
            try have ne1 := emp_ne e1
            have be1 := emp_beq e1
            have se1 := emp_size e1
            simp only [Bool.false_eq_true, false_implies, forall_const, true_and] at se1
            try have ne2 := emp_ne e2
            have be2 := emp_beq e2
            have se2 := emp_size e2
            simp only [Bool.true_eq_false, false_implies, forall_const, and_true] at se2
            try have ne3 := emp_ne e3
            have be3 := emp_beq e3
            have se3 := emp_size e3
            simp only [Bool.false_eq_true, false_implies, forall_const, true_and] at se3
            go_enter Tryz.func106, Tryz.ntmps106
            go_wp2_with (first | (go_at_call_of 85 (Value.string over); refine (HC _).mono ?_; rintro e w1 ⟨rfl, m3, rfl⟩) | (go_at_call_of 85 (Value.string hi); refine (HA _).mono ?_; rintro e w1 ⟨rfl, m1, rfl⟩) | (go_at_call_of 85 (Value.string under); refine (HB _).mono ?_; rintro e w1 ⟨rfl, m2, rfl⟩))
            go_ret
            exact ⟨by rw [HR2.out]; rfl, by first | exact hbA | exact draws_below _ hbA | exact draws_below _ (draws_below _ hbA) | exact draws_below _ (draws_below _ (draws_below _ hbA))⟩
          | true =>
            rw [e1, a1, e2, e3, a3] at HR
            have HR2 : Hid _ := HR
            clear HR
            rw [a1] at HA
            rw [a3] at HC
            try have ne1 := emp_ne e1
            have be1 := emp_beq e1
            have se1 := emp_size e1
            simp only [Bool.false_eq_true, false_implies, forall_const, true_and] at se1
            try have ne2 := emp_ne e2
            have be2 := emp_beq e2
            have se2 := emp_size e2
            simp only [Bool.true_eq_false, false_implies, forall_const, and_true] at se2
            try have ne3 := emp_ne e3
            have be3 := emp_beq e3
            have se3 := emp_size e3
            simp only [Bool.false_eq_true, false_implies, forall_const, true_and] at se3
            go_enter Tryz.func106, Tryz.ntmps106
            go_wp2_with (first | (go_at_call_of 85 (Value.string over); refine (HC _).mono ?_; rintro e w1 ⟨rfl, m3, rfl⟩) | (go_at_call_of 85 (Value.string hi); refine (HA _).mono ?_; rintro e w1 ⟨rfl, m1, rfl⟩) | (go_at_call_of 85 (Value.string under); refine (HB _).mono ?_; rintro e w1 ⟨rfl, m2, rfl⟩))
            go_ret
            exact ⟨by rw [HR2.out]; rfl, by first | exact hbA | exact draws_below _ hbA | exact draws_below _ (draws_below _ hbA) | exact draws_below _ (draws_below _ (draws_below _ hbA))⟩
        | true =>
          rw [e1, a1, e2, e3] at HR
          have HR2 : Hid _ := HR
          clear HR
          rw [a1] at HA
          try have ne1 := emp_ne e1
          have be1 := emp_beq e1
          have se1 := emp_size e1
          simp only [Bool.false_eq_true, false_implies, forall_const, true_and] at se1
          try have ne2 := emp_ne e2
          have be2 := emp_beq e2
          have se2 := emp_size e2
          simp only [Bool.true_eq_false, false_implies, forall_const, and_true] at se2
          try have ne3 := emp_ne e3
          have be3 := emp_beq e3
          have se3 := emp_size e3
          simp only [Bool.true_eq_false, false_implies, forall_const, and_true] at se3
          go_enter Tryz.func106, Tryz.ntmps106
          go_wp2_with (first | (go_at_call_of 85 (Value.string over); refine (HC _).mono ?_; rintro e w1 ⟨rfl, m3, rfl⟩) | (go_at_call_of 85 (Value.string hi); refine (HA _).mono ?_; rintro e w1 ⟨rfl, m1, rfl⟩) | (go_at_call_of 85 (Value.string under); refine (HB _).mono ?_; rintro e w1 ⟨rfl, m2, rfl⟩))
          go_ret
          exact ⟨by rw [HR2.out]; rfl, by first | exact hbA | exact draws_below _ hbA | exact draws_below _ (draws_below _ hbA) | exact draws_below _ (draws_below _ (draws_below _ hbA))⟩
  | true =>
    cases e2 : emp under with
    | false =>
      cases a2 : lessB lo under with
      | false =>
        rw [e1, e2, a2] at HR
        have HR2 : Hid _ := HR
        clear HR
        rw [a2] at HB
        try have ne1 := emp_ne e1
        have be1 := emp_beq e1
        have se1 := emp_size e1
        simp only [Bool.true_eq_false, false_implies, forall_const, and_true] at se1
        try have ne2 := emp_ne e2
        have be2 := emp_beq e2
        have se2 := emp_size e2
        simp only [Bool.false_eq_true, false_implies, forall_const, true_and] at se2
        go_enter Tryz.func106, Tryz.ntmps106
        go_wp2_with (first | (go_at_call_of 85 (Value.string over); refine (HC _).mono ?_; rintro e w1 ⟨rfl, m3, rfl⟩) | (go_at_call_of 85 (Value.string hi); refine (HA _).mono ?_; rintro e w1 ⟨rfl, m1, rfl⟩) | (go_at_call_of 85 (Value.string under); refine (HB _).mono ?_; rintro e w1 ⟨rfl, m2, rfl⟩))
        go_ret
        exact ⟨by rw [HR2.out]; rfl, by first | exact hbA | exact draws_below _ hbA | exact draws_below _ (draws_below _ hbA) | exact draws_below _ (draws_below _ (draws_below _ hbA))⟩
      | true =>
        cases e3 : emp over with
        | false =>
          rw [e1, e2, a2, e3] at HR
          have HR2 : Hid _ := HR
          clear HR
          rw [a2] at HB
          try have ne1 := emp_ne e1
          have be1 := emp_beq e1
          have se1 := emp_size e1
          simp only [Bool.true_eq_false, false_implies, forall_const, and_true] at se1
          try have ne2 := emp_ne e2
          have be2 := emp_beq e2
          have se2 := emp_size e2
          simp only [Bool.false_eq_true, false_implies, forall_const, true_and] at se2
          try have ne3 := emp_ne e3
          have be3 := emp_beq e3
          have se3 := emp_size e3
          simp only [Bool.false_eq_true, false_implies, forall_const, true_and] at se3
          go_enter Tryz.func106, Tryz.ntmps106
          go_wp2_with (first | (go_at_call_of 85 (Value.string over); refine (HC _).mono ?_; rintro e w1 ⟨rfl, m3, rfl⟩) | (go_at_call_of 85 (Value.string hi); refine (HA _).mono ?_; rintro e w1 ⟨rfl, m1, rfl⟩) | (go_at_call_of 85 (Value.string under); refine (HB _).mono ?_; rintro e w1 ⟨rfl, m2, rfl⟩))
          go_ret
          exact ⟨by rw [HR2.out]; rfl, by first | exact hbA | exact draws_below _ hbA | exact draws_below _ (draws_below _ hbA) | exact draws_below _ (draws_below _ (draws_below _ hbA))⟩
        | true =>
          rw [e1, e2, a2, e3] at HR
          have HR2 : Hid _ := HR
          clear HR
          rw [a2] at HB
          try have ne1 := emp_ne e1
          have be1 := emp_beq e1
          have se1 := emp_size e1
          simp only [Bool.true_eq_false, false_implies, forall_const, and_true] at se1
          try have ne2 := emp_ne e2
          have be2 := emp_beq e2
          have se2 := emp_size e2
          simp only [Bool.false_eq_true, false_implies, forall_const, true_and] at se2
          try have ne3 := emp_ne e3
          have be3 := emp_beq e3
          have se3 := emp_size e3
          simp only [Bool.true_eq_false, false_implies, forall_const, and_true] at se3
          go_enter Tryz.func106, Tryz.ntmps106
          go_wp2_with (first | (go_at_call_of 85 (Value.string over); refine (HC _).mono ?_; rintro e w1 ⟨rfl, m3, rfl⟩) | (go_at_call_of 85 (Value.string hi); refine (HA _).mono ?_; rintro e w1 ⟨rfl, m1, rfl⟩) | (go_at_call_of 85 (Value.string under); refine (HB _).mono ?_; rintro e w1 ⟨rfl, m2, rfl⟩))
          go_ret
          exact ⟨by rw [HR2.out]; rfl, by first | exact hbA | exact draws_below _ hbA | exact draws_below _ (draws_below _ hbA) | exact draws_below _ (draws_below _ (draws_below _ hbA))⟩
    | true =>
      cases e3 : emp over with
      | false =>
        rw [e1, e2, e3] at HR
        have HR2 : Hid _ := HR
        clear HR
        try have ne1 := emp_ne e1
        have be1 := emp_beq e1
        have se1 := emp_size e1
        simp only [Bool.true_eq_false, false_implies, forall_const, and_true] at se1
        try have ne2 := emp_ne e2
        have be2 := emp_beq e2
        have se2 := emp_size e2
        simp only [Bool.true_eq_false, false_implies, forall_const, and_true] at se2
        try have ne3 := emp_ne e3
        have be3 := emp_beq e3
        have se3 := emp_size e3
        simp only [Bool.false_eq_true, false_implies, forall_const, true_and] at se3
        go_enter Tryz.func106, Tryz.ntmps106
        go_wp2_with (first | (go_at_call_of 85 (Value.string over); refine (HC _).mono ?_; rintro e w1 ⟨rfl, m3, rfl⟩) | (go_at_call_of 85 (Value.string hi); refine (HA _).mono ?_; rintro e w1 ⟨rfl, m1, rfl⟩) | (go_at_call_of 85 (Value.string under); refine (HB _).mono ?_; rintro e w1 ⟨rfl, m2, rfl⟩))
        go_ret
        exact ⟨by rw [HR2.out]; rfl, by first | exact hbA | exact draws_below _ hbA | exact draws_below _ (draws_below _ hbA) | exact draws_below _ (draws_below _ (draws_below _ hbA))⟩
      | true =>
        rw [e1, e2, e3] at HR
        have HR2 : Hid _ := HR
        clear HR
        try have ne1 := emp_ne e1
        have be1 := emp_beq e1
        have se1 := emp_size e1
        simp only [Bool.true_eq_false, false_implies, forall_const, and_true] at se1
        try have ne2 := emp_ne e2
        have be2 := emp_beq e2
        have se2 := emp_size e2
        simp only [Bool.true_eq_false, false_implies, forall_const, and_true] at se2
        try have ne3 := emp_ne e3
        have be3 := emp_beq e3
        have se3 := emp_size e3
        simp only [Bool.true_eq_false, false_implies, forall_const, and_true] at se3
        go_enter Tryz.func106, Tryz.ntmps106
        go_wp2_with (first | (go_at_call_of 85 (Value.string over); refine (HC _).mono ?_; rintro e w1 ⟨rfl, m3, rfl⟩) | (go_at_call_of 85 (Value.string hi); refine (HA _).mono ?_; rintro e w1 ⟨rfl, m1, rfl⟩) | (go_at_call_of 85 (Value.string under); refine (HB _).mono ?_; rintro e w1 ⟨rfl, m2, rfl⟩))
        go_ret
        exact ⟨by rw [HR2.out]; rfl, by first | exact hbA | exact draws_below _ hbA | exact draws_below _ (draws_below _ hbA) | exact draws_below _ (draws_below _ (draws_below _ hbA))⟩
theorem insW_spec (over under key : ByteArray) (hk : emp key = false) : insW over under key = ((emp over || lessB over key) && (emp under || lessB key under)) := by
  have h0 : emp over = true → lessB over key = true := fun h => by
    have hs : over.size = 0 := by unfold emp at h; simpa using h
    have ho : over.toList = [] := by rw [ByteArray.toList_eq]; exact List.length_eq_zero_iff.1 hs
    rw [← emp_iff] at hk
    unfold lessB
    rw [ho]
    cases hq : key.toList with
    | nil => rw [hq] at hk; cases hk
    | cons a b => rfl
  unfold insW
  cases h1 : emp over with
  | false => rfl
  | true => rw [h0 h1]; rfl
theorem inside_any (over under key : ByteArray) (w : World) (hk : emp key = false) (h1 : over.size ≤ 1048576) (h2 : under.size ≤ 1048576) (h3 : key.size ≤ 1048576) :
    Calls Tryz.prog 139 #[.string key, .agg #[.string over, .string under]] w fun e w' => e = .returned (.bool (insW over under key)) ∧ Below w.heap.size w w' := by
  have hbA : Below w.heap.size w (w.alloc (.cells #[.string over, .string under] 94)) := (Below.refl _ _).alloc (Nat.le_refl _) _
  have HA := fun w' => lessS_q over key w' h1 h3
  have HB := fun w' => lessS_q key under w' h3 h2
  have HR := insW_spec over under key hk
  cases e1 : emp over with
  | false =>
    cases a1 : lessB over key with
    | false =>
      rw [e1, a1] at HR
      have HR2 : Hid _ := HR
      clear HR
      rw [a1] at HA
      try have ne1 := emp_ne e1
      have be1 := emp_beq e1
      have se1 := emp_size e1
      simp only [Bool.false_eq_true, false_implies, forall_const, true_and] at se1
      go_enter Tryz.func139, Tryz.ntmps139
      go_wp2_with (first | (go_at_call_of 85 (Value.string over); refine (HA _).mono ?_; rintro e w1 ⟨rfl, m1, rfl⟩) | (go_at_call_of 85 (Value.string under); refine (HB _).mono ?_; rintro e w1 ⟨rfl, m2, rfl⟩))
      go_ret
      exact ⟨by rw [HR2.out]; rfl, by first | exact hbA | exact draws_below _ hbA | exact draws_below _ (draws_below _ hbA)⟩
    | true =>
      cases e2 : emp under with
      | false =>
        cases a2 : lessB key under with
        | false =>
          rw [e1, a1, e2, a2] at HR
          have HR2 : Hid _ := HR
          clear HR
          rw [a1] at HA
          rw [a2] at HB
          try have ne1 := emp_ne e1
          have be1 := emp_beq e1
          have se1 := emp_size e1
          simp only [Bool.false_eq_true, false_implies, forall_const, true_and] at se1
          try have ne2 := emp_ne e2
          have be2 := emp_beq e2
          have se2 := emp_size e2
          simp only [Bool.false_eq_true, false_implies, forall_const, true_and] at se2
          go_enter Tryz.func139, Tryz.ntmps139
          go_wp2_with (first | (go_at_call_of 85 (Value.string over); refine (HA _).mono ?_; rintro e w1 ⟨rfl, m1, rfl⟩) | (go_at_call_of 85 (Value.string under); refine (HB _).mono ?_; rintro e w1 ⟨rfl, m2, rfl⟩))
          go_ret
          exact ⟨by rw [HR2.out]; rfl, by first | exact hbA | exact draws_below _ hbA | exact draws_below _ (draws_below _ hbA)⟩
        | true =>
          rw [e1, a1, e2, a2] at HR
          have HR2 : Hid _ := HR
          clear HR
          rw [a1] at HA
          rw [a2] at HB
          try have ne1 := emp_ne e1
          have be1 := emp_beq e1
          have se1 := emp_size e1
          simp only [Bool.false_eq_true, false_implies, forall_const, true_and] at se1
          try have ne2 := emp_ne e2
          have be2 := emp_beq e2
          have se2 := emp_size e2
          simp only [Bool.false_eq_true, false_implies, forall_const, true_and] at se2
          go_enter Tryz.func139, Tryz.ntmps139
          go_wp2_with (first | (go_at_call_of 85 (Value.string over); refine (HA _).mono ?_; rintro e w1 ⟨rfl, m1, rfl⟩) | (go_at_call_of 85 (Value.string under); refine (HB _).mono ?_; rintro e w1 ⟨rfl, m2, rfl⟩))
          go_ret
          exact ⟨by rw [HR2.out]; rfl, by first | exact hbA | exact draws_below _ hbA | exact draws_below _ (draws_below _ hbA)⟩
      | true =>
        rw [e1, a1, e2] at HR
        have HR2 : Hid _ := HR
        clear HR
        rw [a1] at HA
        try have ne1 := emp_ne e1
        have be1 := emp_beq e1
        have se1 := emp_size e1
        simp only [Bool.false_eq_true, false_implies, forall_const, true_and] at se1
        try have ne2 := emp_ne e2
        have be2 := emp_beq e2
        have se2 := emp_size e2
        simp only [Bool.true_eq_false, false_implies, forall_const, and_true] at se2
        go_enter Tryz.func139, Tryz.ntmps139
        go_wp2_with (first | (go_at_call_of 85 (Value.string over); refine (HA _).mono ?_; rintro e w1 ⟨rfl, m1, rfl⟩) | (go_at_call_of 85 (Value.string under); refine (HB _).mono ?_; rintro e w1 ⟨rfl, m2, rfl⟩))
        go_ret
        exact ⟨by rw [HR2.out]; rfl, by first | exact hbA | exact draws_below _ hbA | exact draws_below _ (draws_below _ hbA)⟩
  | true =>
    cases e2 : emp under with
    | false =>
      cases a2 : lessB key under with
      | false =>
        rw [e1, e2, a2] at HR
        have HR2 : Hid _ := HR
        clear HR
        rw [a2] at HB
        try have ne1 := emp_ne e1
        have be1 := emp_beq e1
        have se1 := emp_size e1
        simp only [Bool.true_eq_false, false_implies, forall_const, and_true] at se1
        try have ne2 := emp_ne e2
        have be2 := emp_beq e2
        have se2 := emp_size e2
        simp only [Bool.false_eq_true, false_implies, forall_const, true_and] at se2
        go_enter Tryz.func139, Tryz.ntmps139
        go_wp2_with (first | (go_at_call_of 85 (Value.string over); refine (HA _).mono ?_; rintro e w1 ⟨rfl, m1, rfl⟩) | (go_at_call_of 85 (Value.string under); refine (HB _).mono ?_; rintro e w1 ⟨rfl, m2, rfl⟩))
        go_ret
        exact ⟨by rw [HR2.out]; rfl, by first | exact hbA | exact draws_below _ hbA | exact draws_below _ (draws_below _ hbA)⟩
      | true =>
        rw [e1, e2, a2] at HR
        have HR2 : Hid _ := HR
        clear HR
        rw [a2] at HB
        try have ne1 := emp_ne e1
        have be1 := emp_beq e1
        have se1 := emp_size e1
        simp only [Bool.true_eq_false, false_implies, forall_const, and_true] at se1
        try have ne2 := emp_ne e2
        have be2 := emp_beq e2
        have se2 := emp_size e2
        simp only [Bool.false_eq_true, false_implies, forall_const, true_and] at se2
        go_enter Tryz.func139, Tryz.ntmps139
        go_wp2_with (first | (go_at_call_of 85 (Value.string over); refine (HA _).mono ?_; rintro e w1 ⟨rfl, m1, rfl⟩) | (go_at_call_of 85 (Value.string under); refine (HB _).mono ?_; rintro e w1 ⟨rfl, m2, rfl⟩))
        go_ret
        exact ⟨by rw [HR2.out]; rfl, by first | exact hbA | exact draws_below _ hbA | exact draws_below _ (draws_below _ hbA)⟩
    | true =>
      rw [e1, e2] at HR
      have HR2 : Hid _ := HR
      clear HR
      try have ne1 := emp_ne e1
      have be1 := emp_beq e1
      have se1 := emp_size e1
      simp only [Bool.true_eq_false, false_implies, forall_const, and_true] at se1
      try have ne2 := emp_ne e2
      have be2 := emp_beq e2
      have se2 := emp_size e2
      simp only [Bool.true_eq_false, false_implies, forall_const, and_true] at se2
      go_enter Tryz.func139, Tryz.ntmps139
      go_wp2_with (first | (go_at_call_of 85 (Value.string over); refine (HA _).mono ?_; rintro e w1 ⟨rfl, m1, rfl⟩) | (go_at_call_of 85 (Value.string under); refine (HB _).mono ?_; rintro e w1 ⟨rfl, m2, rfl⟩))
      go_ret
      exact ⟨by rw [HR2.out]; rfl, by first | exact hbA | exact draws_below _ hbA | exact draws_below _ (draws_below _ hbA)⟩
theorem letter_any (w : World) : Calls Tryz.prog 141 #[] w fun e w' => e = .returned (.agg #[.int .i64 1, .bool false]) ∧ Below w.heap.size w w' := by
  go_enter Tryz.func141, Tryz.ntmps141
  go_wp2
  have c0 := Lib.cell_of_heap (heap_alloc_new w (.cells #[.int .i64 1, .bool false] 208)) 0
  have c1 := Lib.cell_of_heap (heap_alloc_new w (.cells #[.int .i64 1, .bool false] 208)) 1
  refine bodyPost_ret (v := .agg #[.int .i64 1, .bool false]) ?_ rfl ⟨rfl, (Below.refl _ _).alloc (Nat.le_refl _) _⟩
  simp [results, Tryz.results141, go_sem, asAddr, c0, c1]
end Go.Proofs.YtibjhkpgaaapaaaGreatDoor
