import Derived.Test.YtfmpjlpakldheaaGreatDoorZpao
import Derived.Test.YtfmpjlpakldheaaGreatDoorZpaq
import Derived.Test.YtfmpjlpakldheaaGreatDoorZpaa
import Derived.OrdersHeld
import Derived.Deep.RegionHeld3
import Derived.LaidEql
set_option maxRecDepth 100000
set_option maxHeartbeats 1000000
namespace Go.Proofs.YtfmpjlpakldheaaGreatDoor
open Tryz
open Go.RowKit Go.Proofs.Sha
theorem lessL (a b : ByteArray) : Op.bytesLess a.data.toList b.data.toList = lessB a b := by unfold lessB; rw [ByteArray.toList_eq, ByteArray.toList_eq]
theorem lessS_q (p q : ByteArray) (w : World) (hp : p.size <= 1048576) (hq : q.size <= 1048576) : Calls prog 95 #[.string p, .string q] w fun e w' => e = .returned (.bool (lessB p q)) /\ (∃ m, w' = w.drewN m) := by
 have := less_q p q w hp hq
 rw [lessL] at this
 exact this
theorem draws_below {a w : World} {B : Nat} (n : Nat) (h : Below B a w) : Below B a (w.drewN n) := ⟨h.os, h.tape, h.output, h.size, h.block⟩
theorem emp_size {s : ByteArray} {b : Bool} (h : emp s = b) : (b = true -> s.size = 0) /\ (b = false -> 0 < s.size) := by
 unfold emp at h
 subst h
 exact ⟨fun h => by simpa using h, fun h => by rw [decide_eq_false_iff_not] at h; omega⟩
theorem emp_beq {s : ByteArray} {b : Bool} (h : emp s = b) : ((s.size : Int) == 0) = b := by
 rw [<- h]
 unfold emp
 by_cases e : s.size = 0
 · rw [decide_eq_true e]; simp [e]
 · rw [decide_eq_false e, beq_eq_false_iff_ne]; omega
theorem emp_ne {s : ByteArray} (h : emp s = false) : ¬ s = ByteArray.empty := fun e => by
 subst e
 cases h
theorem canW_spec (over under lo hi : ByteArray) : canW over under lo hi = (if (!emp hi && !lessB lo hi) = true then false else if (!emp under && !lessB lo under) = true then false else (emp over || emp hi || lessB over hi)) := by
 have h0 : emp over = true -> lessB over hi = !emp hi := fun h => by
  have hs : over.size = 0 := by unfold emp at h; simpa using h
  have ho : over.toList = [] := by rw [ByteArray.toList_eq]; exact List.length_eq_zero_iff.1 hs
  unfold lessB
  rw [ho, <- emp_iff]
  cases hi.toList <;> rfl
 unfold canW
 cases h1 : emp hi <;> cases h2 : emp under <;> cases h3 : emp over <;> cases h4 : lessB lo hi <;> cases h5 : lessB lo under <;> cases h6 : lessB over hi <;> simp_all
theorem wants_any (over under lo hi : ByteArray) (w : World) (h1 : over.size <= 1048576) (h2 : under.size <= 1048576) (h3 : lo.size <= 1048576) (h4 : hi.size <= 1048576) :
 Calls prog 115 #[.agg #[.string over, .string under], .string lo, .string hi] w fun e w' => e = .returned (.bool (canW over under lo hi)) /\ Below w.heap.size w w' := by
 have hbA : Below w.heap.size w (w.alloc (.cells #[.string over, .string under] 106)) := (Below.refl _ _).alloc (Nat.le_refl _) _
 have HA := fun w' => lessS_q lo hi w' h3 h4
 have HB := fun w' => lessS_q lo under w' h3 h2
 have HC := fun w' => lessS_q over hi w' h1 h4
 have HR := canW_spec over under lo hi
 cases e1 : emp hi with
 | false =>
  cases a1 : lessB lo hi with
  | false =>
   rw [e1, a1] at HR
   have HR2 : Hid _ := HR
   clear HR
   rw [a1] at HA
   try have ne1 := emp_ne e1
   have be1 := emp_beq e1
   have se1 := emp_size e1
   simp only [Bool.false_eq_true, false_implies, forall_const, true_and] at se1
   go_enter func115, ntmps115
   go_wp2_with (first | (go_at_call_of 95 (Value.string over); refine (HC _).mono ?_; rintro e w1 ⟨rfl, m3, rfl⟩) | (go_at_call_of 95 (Value.string hi); refine (HA _).mono ?_; rintro e w1 ⟨rfl, m1, rfl⟩) | (go_at_call_of 95 (Value.string under); refine (HB _).mono ?_; rintro e w1 ⟨rfl, m2, rfl⟩))
   go_ret
   exact ⟨by rw [HR2.out]; rfl, by first | exact hbA | exact draws_below _ hbA | exact draws_below _ (draws_below _ hbA) | exact draws_below _ (draws_below _ (draws_below _ hbA))⟩
  | true =>
   cases e2 : emp under with
   | false =>
    cases a2 : lessB lo under with
    | false =>
     rw [e1, a1, e2, a2] at HR
     have HR2 : Hid _ := HR
     clear HR
     rw [a1] at HA
     rw [a2] at HB
     try have ne1 := emp_ne e1
     have be1 := emp_beq e1
     have se1 := emp_size e1
     simp only [Bool.false_eq_true, false_implies, forall_const, true_and] at se1
     try have ne2 := emp_ne e2
     have be2 := emp_beq e2
     have se2 := emp_size e2
     simp only [Bool.false_eq_true, false_implies, forall_const, true_and] at se2
     go_enter func115, ntmps115
     go_wp2_with (first | (go_at_call_of 95 (Value.string over); refine (HC _).mono ?_; rintro e w1 ⟨rfl, m3, rfl⟩) | (go_at_call_of 95 (Value.string hi); refine (HA _).mono ?_; rintro e w1 ⟨rfl, m1, rfl⟩) | (go_at_call_of 95 (Value.string under); refine (HB _).mono ?_; rintro e w1 ⟨rfl, m2, rfl⟩))
     go_ret
     exact ⟨by rw [HR2.out]; rfl, by first | exact hbA | exact draws_below _ hbA | exact draws_below _ (draws_below _ hbA) | exact draws_below _ (draws_below _ (draws_below _ hbA))⟩
    | true =>
     cases e3 : emp over with
     | false =>
      cases a3 : lessB over hi with
      | false =>
       rw [e1, a1, e2, a2, e3, a3] at HR
       have HR2 : Hid _ := HR
       clear HR
       rw [a1] at HA
       rw [a2] at HB
       rw [a3] at HC
       try have ne1 := emp_ne e1
       have be1 := emp_beq e1
       have se1 := emp_size e1
       simp only [Bool.false_eq_true, false_implies, forall_const, true_and] at se1
       try have ne2 := emp_ne e2
       have be2 := emp_beq e2
       have se2 := emp_size e2
       simp only [Bool.false_eq_true, false_implies, forall_const, true_and] at se2
       try have ne3 := emp_ne e3
       have be3 := emp_beq e3
       have se3 := emp_size e3
       simp only [Bool.false_eq_true, false_implies, forall_const, true_and] at se3
       go_enter func115, ntmps115
       go_wp2_with (first | (go_at_call_of 95 (Value.string over); refine (HC _).mono ?_; rintro e w1 ⟨rfl, m3, rfl⟩) | (go_at_call_of 95 (Value.string hi); refine (HA _).mono ?_; rintro e w1 ⟨rfl, m1, rfl⟩) | (go_at_call_of 95 (Value.string under); refine (HB _).mono ?_; rintro e w1 ⟨rfl, m2, rfl⟩))
       go_ret
       exact ⟨by rw [HR2.out]; rfl, by first | exact hbA | exact draws_below _ hbA | exact draws_below _ (draws_below _ hbA) | exact draws_below _ (draws_below _ (draws_below _ hbA))⟩
      | true =>
       rw [e1, a1, e2, a2, e3, a3] at HR
       have HR2 : Hid _ := HR
       clear HR
       rw [a1] at HA
       rw [a2] at HB
       rw [a3] at HC
       try have ne1 := emp_ne e1
       have be1 := emp_beq e1
       have se1 := emp_size e1
       simp only [Bool.false_eq_true, false_implies, forall_const, true_and] at se1
       try have ne2 := emp_ne e2
       have be2 := emp_beq e2
       have se2 := emp_size e2
       simp only [Bool.false_eq_true, false_implies, forall_const, true_and] at se2
       try have ne3 := emp_ne e3
       have be3 := emp_beq e3
       have se3 := emp_size e3
       simp only [Bool.false_eq_true, false_implies, forall_const, true_and] at se3
       go_enter func115, ntmps115
       go_wp2_with (first | (go_at_call_of 95 (Value.string over); refine (HC _).mono ?_; rintro e w1 ⟨rfl, m3, rfl⟩) | (go_at_call_of 95 (Value.string hi); refine (HA _).mono ?_; rintro e w1 ⟨rfl, m1, rfl⟩) | (go_at_call_of 95 (Value.string under); refine (HB _).mono ?_; rintro e w1 ⟨rfl, m2, rfl⟩))
       go_ret
       exact ⟨by rw [HR2.out]; rfl, by first | exact hbA | exact draws_below _ hbA | exact draws_below _ (draws_below _ hbA) | exact draws_below _ (draws_below _ (draws_below _ hbA))⟩
     | true =>
      rw [e1, a1, e2, a2, e3] at HR
      have HR2 : Hid _ := HR
      clear HR
      rw [a1] at HA
      rw [a2] at HB
      try have ne1 := emp_ne e1
      have be1 := emp_beq e1
      have se1 := emp_size e1
      simp only [Bool.false_eq_true, false_implies, forall_const, true_and] at se1
      try have ne2 := emp_ne e2
      have be2 := emp_beq e2
      have se2 := emp_size e2
      simp only [Bool.false_eq_true, false_implies, forall_const, true_and] at se2
      try have ne3 := emp_ne e3
      have be3 := emp_beq e3
      have se3 := emp_size e3
      simp only [Bool.true_eq_false, false_implies, forall_const, and_true] at se3
      go_enter func115, ntmps115
      go_wp2_with (first | (go_at_call_of 95 (Value.string over); refine (HC _).mono ?_; rintro e w1 ⟨rfl, m3, rfl⟩) | (go_at_call_of 95 (Value.string hi); refine (HA _).mono ?_; rintro e w1 ⟨rfl, m1, rfl⟩) | (go_at_call_of 95 (Value.string under); refine (HB _).mono ?_; rintro e w1 ⟨rfl, m2, rfl⟩))
      go_ret
      exact ⟨by rw [HR2.out]; rfl, by first | exact hbA | exact draws_below _ hbA | exact draws_below _ (draws_below _ hbA) | exact draws_below _ (draws_below _ (draws_below _ hbA))⟩
   | true =>
    cases e3 : emp over with
    | false =>
     cases a3 : lessB over hi with
     | false =>
      rw [e1, a1, e2, e3, a3] at HR
      have HR2 : Hid _ := HR
      clear HR
      rw [a1] at HA
      rw [a3] at HC
      try have ne1 := emp_ne e1
      have be1 := emp_beq e1
      have se1 := emp_size e1
      simp only [Bool.false_eq_true, false_implies, forall_const, true_and] at se1
      try have ne2 := emp_ne e2
      have be2 := emp_beq e2
      have se2 := emp_size e2
      simp only [Bool.true_eq_false, false_implies, forall_const, and_true] at se2
      try have ne3 := emp_ne e3
      have be3 := emp_beq e3
      have se3 := emp_size e3
      simp only [Bool.false_eq_true, false_implies, forall_const, true_and] at se3
      go_enter func115, ntmps115
      go_wp2_with (first | (go_at_call_of 95 (Value.string over); refine (HC _).mono ?_; rintro e w1 ⟨rfl, m3, rfl⟩) | (go_at_call_of 95 (Value.string hi); refine (HA _).mono ?_; rintro e w1 ⟨rfl, m1, rfl⟩) | (go_at_call_of 95 (Value.string under); refine (HB _).mono ?_; rintro e w1 ⟨rfl, m2, rfl⟩))
      go_ret
      exact ⟨by rw [HR2.out]; rfl, by first | exact hbA | exact draws_below _ hbA | exact draws_below _ (draws_below _ hbA) | exact draws_below _ (draws_below _ (draws_below _ hbA))⟩
     | true =>
      rw [e1, a1, e2, e3, a3] at HR
      have HR2 : Hid _ := HR
      clear HR
      rw [a1] at HA
      rw [a3] at HC
      try have ne1 := emp_ne e1
      have be1 := emp_beq e1
      have se1 := emp_size e1
      simp only [Bool.false_eq_true, false_implies, forall_const, true_and] at se1
      try have ne2 := emp_ne e2
      have be2 := emp_beq e2
      have se2 := emp_size e2
      simp only [Bool.true_eq_false, false_implies, forall_const, and_true] at se2
      try have ne3 := emp_ne e3
      have be3 := emp_beq e3
      have se3 := emp_size e3
      simp only [Bool.false_eq_true, false_implies, forall_const, true_and] at se3
      go_enter func115, ntmps115
      go_wp2_with (first | (go_at_call_of 95 (Value.string over); refine (HC _).mono ?_; rintro e w1 ⟨rfl, m3, rfl⟩) | (go_at_call_of 95 (Value.string hi); refine (HA _).mono ?_; rintro e w1 ⟨rfl, m1, rfl⟩) | (go_at_call_of 95 (Value.string under); refine (HB _).mono ?_; rintro e w1 ⟨rfl, m2, rfl⟩))
      go_ret
      exact ⟨by rw [HR2.out]; rfl, by first | exact hbA | exact draws_below _ hbA | exact draws_below _ (draws_below _ hbA) | exact draws_below _ (draws_below _ (draws_below _ hbA))⟩
    | true =>
     rw [e1, a1, e2, e3] at HR
     have HR2 : Hid _ := HR
     clear HR
     rw [a1] at HA
     try have ne1 := emp_ne e1
     have be1 := emp_beq e1
     have se1 := emp_size e1
     simp only [Bool.false_eq_true, false_implies, forall_const, true_and] at se1
     try have ne2 := emp_ne e2
     have be2 := emp_beq e2
     have se2 := emp_size e2
     simp only [Bool.true_eq_false, false_implies, forall_const, and_true] at se2
     try have ne3 := emp_ne e3
     have be3 := emp_beq e3
     have se3 := emp_size e3
     simp only [Bool.true_eq_false, false_implies, forall_const, and_true] at se3
     go_enter func115, ntmps115
     go_wp2_with (first | (go_at_call_of 95 (Value.string over); refine (HC _).mono ?_; rintro e w1 ⟨rfl, m3, rfl⟩) | (go_at_call_of 95 (Value.string hi); refine (HA _).mono ?_; rintro e w1 ⟨rfl, m1, rfl⟩) | (go_at_call_of 95 (Value.string under); refine (HB _).mono ?_; rintro e w1 ⟨rfl, m2, rfl⟩))
     go_ret
     exact ⟨by rw [HR2.out]; rfl, by first | exact hbA | exact draws_below _ hbA | exact draws_below _ (draws_below _ hbA) | exact draws_below _ (draws_below _ (draws_below _ hbA))⟩
 | true =>
  cases e2 : emp under with
  | false =>
   cases a2 : lessB lo under with
   | false =>
    rw [e1, e2, a2] at HR
    have HR2 : Hid _ := HR
    clear HR
    rw [a2] at HB
    try have ne1 := emp_ne e1
    have be1 := emp_beq e1
    have se1 := emp_size e1
    simp only [Bool.true_eq_false, false_implies, forall_const, and_true] at se1
    try have ne2 := emp_ne e2
    have be2 := emp_beq e2
    have se2 := emp_size e2
    simp only [Bool.false_eq_true, false_implies, forall_const, true_and] at se2
    go_enter func115, ntmps115
    go_wp2_with (first | (go_at_call_of 95 (Value.string over); refine (HC _).mono ?_; rintro e w1 ⟨rfl, m3, rfl⟩) | (go_at_call_of 95 (Value.string hi); refine (HA _).mono ?_; rintro e w1 ⟨rfl, m1, rfl⟩) | (go_at_call_of 95 (Value.string under); refine (HB _).mono ?_; rintro e w1 ⟨rfl, m2, rfl⟩))
    go_ret
    exact ⟨by rw [HR2.out]; rfl, by first | exact hbA | exact draws_below _ hbA | exact draws_below _ (draws_below _ hbA) | exact draws_below _ (draws_below _ (draws_below _ hbA))⟩
   | true =>
    cases e3 : emp over with
    | false =>
     rw [e1, e2, a2, e3] at HR
     have HR2 : Hid _ := HR
     clear HR
     rw [a2] at HB
     try have ne1 := emp_ne e1
     have be1 := emp_beq e1
     have se1 := emp_size e1
     simp only [Bool.true_eq_false, false_implies, forall_const, and_true] at se1
     try have ne2 := emp_ne e2
     have be2 := emp_beq e2
     have se2 := emp_size e2
     simp only [Bool.false_eq_true, false_implies, forall_const, true_and] at se2
     try have ne3 := emp_ne e3
     have be3 := emp_beq e3
     have se3 := emp_size e3
     simp only [Bool.false_eq_true, false_implies, forall_const, true_and] at se3
     go_enter func115, ntmps115
     go_wp2_with (first | (go_at_call_of 95 (Value.string over); refine (HC _).mono ?_; rintro e w1 ⟨rfl, m3, rfl⟩) | (go_at_call_of 95 (Value.string hi); refine (HA _).mono ?_; rintro e w1 ⟨rfl, m1, rfl⟩) | (go_at_call_of 95 (Value.string under); refine (HB _).mono ?_; rintro e w1 ⟨rfl, m2, rfl⟩))
     go_ret
     exact ⟨by rw [HR2.out]; rfl, by first | exact hbA | exact draws_below _ hbA | exact draws_below _ (draws_below _ hbA) | exact draws_below _ (draws_below _ (draws_below _ hbA))⟩
    | true =>
     rw [e1, e2, a2, e3] at HR
     have HR2 : Hid _ := HR
     clear HR
     rw [a2] at HB
     try have ne1 := emp_ne e1
     have be1 := emp_beq e1
     have se1 := emp_size e1
     simp only [Bool.true_eq_false, false_implies, forall_const, and_true] at se1
     try have ne2 := emp_ne e2
     have be2 := emp_beq e2
     have se2 := emp_size e2
     simp only [Bool.false_eq_true, false_implies, forall_const, true_and] at se2
     try have ne3 := emp_ne e3
     have be3 := emp_beq e3
     have se3 := emp_size e3
     simp only [Bool.true_eq_false, false_implies, forall_const, and_true] at se3
     go_enter func115, ntmps115
     go_wp2_with (first | (go_at_call_of 95 (Value.string over); refine (HC _).mono ?_; rintro e w1 ⟨rfl, m3, rfl⟩) | (go_at_call_of 95 (Value.string hi); refine (HA _).mono ?_; rintro e w1 ⟨rfl, m1, rfl⟩) | (go_at_call_of 95 (Value.string under); refine (HB _).mono ?_; rintro e w1 ⟨rfl, m2, rfl⟩))
     go_ret
     exact ⟨by rw [HR2.out]; rfl, by first | exact hbA | exact draws_below _ hbA | exact draws_below _ (draws_below _ hbA) | exact draws_below _ (draws_below _ (draws_below _ hbA))⟩
  | true =>
   cases e3 : emp over with
   | false =>
    rw [e1, e2, e3] at HR
    have HR2 : Hid _ := HR
    clear HR
    try have ne1 := emp_ne e1
    have be1 := emp_beq e1
    have se1 := emp_size e1
    simp only [Bool.true_eq_false, false_implies, forall_const, and_true] at se1
    try have ne2 := emp_ne e2
    have be2 := emp_beq e2
    have se2 := emp_size e2
    simp only [Bool.true_eq_false, false_implies, forall_const, and_true] at se2
    try have ne3 := emp_ne e3
    have be3 := emp_beq e3
    have se3 := emp_size e3
    simp only [Bool.false_eq_true, false_implies, forall_const, true_and] at se3
    go_enter func115, ntmps115
    go_wp2_with (first | (go_at_call_of 95 (Value.string over); refine (HC _).mono ?_; rintro e w1 ⟨rfl, m3, rfl⟩) | (go_at_call_of 95 (Value.string hi); refine (HA _).mono ?_; rintro e w1 ⟨rfl, m1, rfl⟩) | (go_at_call_of 95 (Value.string under); refine (HB _).mono ?_; rintro e w1 ⟨rfl, m2, rfl⟩))
    go_ret
    exact ⟨by rw [HR2.out]; rfl, by first | exact hbA | exact draws_below _ hbA | exact draws_below _ (draws_below _ hbA) | exact draws_below _ (draws_below _ (draws_below _ hbA))⟩
   | true =>
    rw [e1, e2, e3] at HR
    have HR2 : Hid _ := HR
    clear HR
    try have ne1 := emp_ne e1
    have be1 := emp_beq e1
    have se1 := emp_size e1
    simp only [Bool.true_eq_false, false_implies, forall_const, and_true] at se1
    try have ne2 := emp_ne e2
    have be2 := emp_beq e2
    have se2 := emp_size e2
    simp only [Bool.true_eq_false, false_implies, forall_const, and_true] at se2
    try have ne3 := emp_ne e3
    have be3 := emp_beq e3
    have se3 := emp_size e3
    simp only [Bool.true_eq_false, false_implies, forall_const, and_true] at se3
    go_enter func115, ntmps115
    go_wp2_with (first | (go_at_call_of 95 (Value.string over); refine (HC _).mono ?_; rintro e w1 ⟨rfl, m3, rfl⟩) | (go_at_call_of 95 (Value.string hi); refine (HA _).mono ?_; rintro e w1 ⟨rfl, m1, rfl⟩) | (go_at_call_of 95 (Value.string under); refine (HB _).mono ?_; rintro e w1 ⟨rfl, m2, rfl⟩))
    go_ret
    exact ⟨by rw [HR2.out]; rfl, by first | exact hbA | exact draws_below _ hbA | exact draws_below _ (draws_below _ hbA) | exact draws_below _ (draws_below _ (draws_below _ hbA))⟩
theorem insW_spec (over under key : ByteArray) (hk : emp key = false) : insW over under key = ((emp over || lessB over key) && (emp under || lessB key under)) := by
 have h0 : emp over = true -> lessB over key = true := fun h => by
  have hs : over.size = 0 := by unfold emp at h; simpa using h
  have ho : over.toList = [] := by rw [ByteArray.toList_eq]; exact List.length_eq_zero_iff.1 hs
  rw [<- emp_iff] at hk
  unfold lessB
  rw [ho]
  cases hq : key.toList with
  | nil => rw [hq] at hk; cases hk
  | cons a b => rfl
 unfold insW
 cases h1 : emp over with
 | false => rfl
 | true => rw [h0 h1]; rfl
theorem inside_any (over under key : ByteArray) (w : World) (hk : emp key = false) (h1 : over.size <= 1048576) (h2 : under.size <= 1048576) (h3 : key.size <= 1048576) :
 Calls prog 117 #[.string key, .agg #[.string over, .string under]] w fun e w' => e = .returned (.bool (insW over under key)) /\ Below w.heap.size w w' := by
 have hbA : Below w.heap.size w (w.alloc (.cells #[.string over, .string under] 106)) := (Below.refl _ _).alloc (Nat.le_refl _) _
 have HA := fun w' => lessS_q over key w' h1 h3
 have HB := fun w' => lessS_q key under w' h3 h2
 have HR := insW_spec over under key hk
 cases e1 : emp over with
 | false =>
  cases a1 : lessB over key with
  | false =>
   rw [e1, a1] at HR
   have HR2 : Hid _ := HR
   clear HR
   rw [a1] at HA
   try have ne1 := emp_ne e1
   have be1 := emp_beq e1
   have se1 := emp_size e1
   simp only [Bool.false_eq_true, false_implies, forall_const, true_and] at se1
   go_enter func117, ntmps117
   go_wp2_with (first | (go_at_call_of 95 (Value.string over); refine (HA _).mono ?_; rintro e w1 ⟨rfl, m1, rfl⟩) | (go_at_call_of 95 (Value.string under); refine (HB _).mono ?_; rintro e w1 ⟨rfl, m2, rfl⟩))
   go_ret
   exact ⟨by rw [HR2.out]; rfl, by first | exact hbA | exact draws_below _ hbA | exact draws_below _ (draws_below _ hbA)⟩
  | true =>
   cases e2 : emp under with
   | false =>
    cases a2 : lessB key under with
    | false =>
     rw [e1, a1, e2, a2] at HR
     have HR2 : Hid _ := HR
     clear HR
     rw [a1] at HA
     rw [a2] at HB
     try have ne1 := emp_ne e1
     have be1 := emp_beq e1
     have se1 := emp_size e1
     simp only [Bool.false_eq_true, false_implies, forall_const, true_and] at se1
     try have ne2 := emp_ne e2
     have be2 := emp_beq e2
     have se2 := emp_size e2
     simp only [Bool.false_eq_true, false_implies, forall_const, true_and] at se2
     go_enter func117, ntmps117
     go_wp2_with (first | (go_at_call_of 95 (Value.string over); refine (HA _).mono ?_; rintro e w1 ⟨rfl, m1, rfl⟩) | (go_at_call_of 95 (Value.string under); refine (HB _).mono ?_; rintro e w1 ⟨rfl, m2, rfl⟩))
     go_ret
     exact ⟨by rw [HR2.out]; rfl, by first | exact hbA | exact draws_below _ hbA | exact draws_below _ (draws_below _ hbA)⟩
    | true =>
     rw [e1, a1, e2, a2] at HR
     have HR2 : Hid _ := HR
     clear HR
     rw [a1] at HA
     rw [a2] at HB
     try have ne1 := emp_ne e1
     have be1 := emp_beq e1
     have se1 := emp_size e1
     simp only [Bool.false_eq_true, false_implies, forall_const, true_and] at se1
     try have ne2 := emp_ne e2
     have be2 := emp_beq e2
     have se2 := emp_size e2
     simp only [Bool.false_eq_true, false_implies, forall_const, true_and] at se2
     go_enter func117, ntmps117
     go_wp2_with (first | (go_at_call_of 95 (Value.string over); refine (HA _).mono ?_; rintro e w1 ⟨rfl, m1, rfl⟩) | (go_at_call_of 95 (Value.string under); refine (HB _).mono ?_; rintro e w1 ⟨rfl, m2, rfl⟩))
     go_ret
     exact ⟨by rw [HR2.out]; rfl, by first | exact hbA | exact draws_below _ hbA | exact draws_below _ (draws_below _ hbA)⟩
   | true =>
    rw [e1, a1, e2] at HR
    have HR2 : Hid _ := HR
    clear HR
    rw [a1] at HA
    try have ne1 := emp_ne e1
    have be1 := emp_beq e1
    have se1 := emp_size e1
    simp only [Bool.false_eq_true, false_implies, forall_const, true_and] at se1
    try have ne2 := emp_ne e2
    have be2 := emp_beq e2
    have se2 := emp_size e2
    simp only [Bool.true_eq_false, false_implies, forall_const, and_true] at se2
    go_enter func117, ntmps117
    go_wp2_with (first | (go_at_call_of 95 (Value.string over); refine (HA _).mono ?_; rintro e w1 ⟨rfl, m1, rfl⟩) | (go_at_call_of 95 (Value.string under); refine (HB _).mono ?_; rintro e w1 ⟨rfl, m2, rfl⟩))
    go_ret
    exact ⟨by rw [HR2.out]; rfl, by first | exact hbA | exact draws_below _ hbA | exact draws_below _ (draws_below _ hbA)⟩
 | true =>
  cases e2 : emp under with
  | false =>
   cases a2 : lessB key under with
   | false =>
    rw [e1, e2, a2] at HR
    have HR2 : Hid _ := HR
    clear HR
    rw [a2] at HB
    try have ne1 := emp_ne e1
    have be1 := emp_beq e1
    have se1 := emp_size e1
    simp only [Bool.true_eq_false, false_implies, forall_const, and_true] at se1
    try have ne2 := emp_ne e2
    have be2 := emp_beq e2
    have se2 := emp_size e2
    simp only [Bool.false_eq_true, false_implies, forall_const, true_and] at se2
    go_enter func117, ntmps117
    go_wp2_with (first | (go_at_call_of 95 (Value.string over); refine (HA _).mono ?_; rintro e w1 ⟨rfl, m1, rfl⟩) | (go_at_call_of 95 (Value.string under); refine (HB _).mono ?_; rintro e w1 ⟨rfl, m2, rfl⟩))
    go_ret
    exact ⟨by rw [HR2.out]; rfl, by first | exact hbA | exact draws_below _ hbA | exact draws_below _ (draws_below _ hbA)⟩
   | true =>
    rw [e1, e2, a2] at HR
    have HR2 : Hid _ := HR
    clear HR
    rw [a2] at HB
    try have ne1 := emp_ne e1
    have be1 := emp_beq e1
    have se1 := emp_size e1
    simp only [Bool.true_eq_false, false_implies, forall_const, and_true] at se1
    try have ne2 := emp_ne e2
    have be2 := emp_beq e2
    have se2 := emp_size e2
    simp only [Bool.false_eq_true, false_implies, forall_const, true_and] at se2
    go_enter func117, ntmps117
    go_wp2_with (first | (go_at_call_of 95 (Value.string over); refine (HA _).mono ?_; rintro e w1 ⟨rfl, m1, rfl⟩) | (go_at_call_of 95 (Value.string under); refine (HB _).mono ?_; rintro e w1 ⟨rfl, m2, rfl⟩))
    go_ret
    exact ⟨by rw [HR2.out]; rfl, by first | exact hbA | exact draws_below _ hbA | exact draws_below _ (draws_below _ hbA)⟩
  | true =>
   rw [e1, e2] at HR
   have HR2 : Hid _ := HR
   clear HR
   try have ne1 := emp_ne e1
   have be1 := emp_beq e1
   have se1 := emp_size e1
   simp only [Bool.true_eq_false, false_implies, forall_const, and_true] at se1
   try have ne2 := emp_ne e2
   have be2 := emp_beq e2
   have se2 := emp_size e2
   simp only [Bool.true_eq_false, false_implies, forall_const, and_true] at se2
   go_enter func117, ntmps117
   go_wp2_with (first | (go_at_call_of 95 (Value.string over); refine (HA _).mono ?_; rintro e w1 ⟨rfl, m1, rfl⟩) | (go_at_call_of 95 (Value.string under); refine (HB _).mono ?_; rintro e w1 ⟨rfl, m2, rfl⟩))
   go_ret
   exact ⟨by rw [HR2.out]; rfl, by first | exact hbA | exact draws_below _ hbA | exact draws_below _ (draws_below _ hbA)⟩
theorem zq1 {α : Type _} (l : List α) (i : Nat) (a : α) : l.toArray.setIfInBounds i a = (l.set i a).toArray := List.setIfInBounds_toArray l i a
theorem zq2 {α : Type _} {x : α} {xs : List α} {a : α} : (x :: xs).set 0 a = a :: xs := List.set_cons_zero
theorem zq3 {α : Type _} {x : α} {xs : List α} {i : Nat} {a : α} : (x :: xs).set (i + 1) a = x :: xs.set i a := List.set_cons_succ
theorem zq4 {α : Type _} {xs : List α} {i : Nat} (h : i < xs.toArray.size) : xs.toArray[i] = xs[i] := List.getElem_toArray h
theorem zq5 {α : Type _} (a : α) (bs : List α) (h : 0 < (a :: bs).length) : (a :: bs)[0] = a := List.getElem_cons_zero a bs h
theorem zq6 {α : Type _} (a : α) (bs : List α) (i : Nat) (h : i + 1 < (a :: bs).length) : (a :: bs)[i + 1] = bs[i]'(Nat.lt_of_succ_lt_succ h) := List.getElem_cons_succ a bs i h
theorem tkH {P : Program} {md : Region.Mode} {ops : Array Oper} {Q : Exit -> Act -> World -> Prop} {S : World -> Prop} {i : Nat} {oi : Oper} {v : Value} {fuel : Nat} {listed : Array Bool} {a : Act} {w : World} (hi : ops[i]? = some oi) (hy : YieldsIf P ops S oi v a)
 (h : wpAnyH P md ops Q S fuel (listed.setIfInBounds i true) (a.put oi.dst v) w)
 (hs : Region.noSelect ops = true := by kernel_rfl) (hf : Region.free md ops listed i = true := by kernel_rfl) (hr : (Region.ready md ops listed).contains i = true := by kernel_rfl)
 (hQ : ∀ c a w, Q (.panic c) (a.put oi.dst v) w -> Q (.panic c) a w := by exact fun _ _ _ h => h) (hS : S w := by assumption) : wpAnyH P md ops Q S (fuel + 1) listed a w := wpAnyH_take hi hs hf hr hQ hy hS h
theorem zq {α : Type _} : (∀ (l : List α) (i : Nat) (a : α), l.toArray.setIfInBounds i a = (l.set i a).toArray) /\ (∀ (x : α) xs a, (x :: xs).set 0 a = a :: xs) /\ (∀ (x : α) xs i a, (x :: xs).set (i + 1) a = x :: xs.set i a) /\ (∀ (xs : List α) i (h : i < xs.toArray.size), xs.toArray[i] = xs[i]) /\ (∀ (a : α) bs (h : 0 < (a :: bs).length), (a :: bs)[0] = a) /\ (∀ (a : α) bs i (h : i + 1 < (a :: bs).length), (a :: bs)[i + 1] = bs[i]'(Nat.lt_of_succ_lt_succ h)) :=
 ⟨zq1, fun _ _ _ => zq2, fun _ _ _ _ => zq3, fun _ _ => zq4, zq5, zq6⟩
theorem tkI {P : Program} {md : Region.Mode} {ops : Array Oper} {Q : Exit -> Act -> World -> Prop} {S : World -> Prop} (i : Nat) {oi : Oper} {v : Value} {fuel : Nat} {listed : Array Bool} {a : Act} {w : World}
 (h : wpAnyH P md ops Q S fuel (listed.setIfInBounds i true) (a.put oi.dst v) w) (hi : ops[i]? = some oi := by rfl) (hy : YieldsIf P ops S oi v a := by refine Or.inl ⟨by rfl, ?_⟩; intro w hSw; go_simp; rfl)
 (hs : Region.noSelect ops = true := by kernel_rfl) (hf : Region.free md ops listed i = true := by kernel_rfl) (hr : (Region.ready md ops listed).contains i = true := by kernel_rfl)
 (hQ : ∀ c a w, Q (.panic c) (a.put oi.dst v) w -> Q (.panic c) a w := by exact fun _ _ _ h => h) (hS : S w := by assumption) : wpAnyH P md ops Q S (fuel + 1) listed a w := tkH hi hy h hs hf hr hQ hS
theorem rdH {P : Program} {md : Region.Mode} {ops : Array Oper} {Q : Exit -> Act -> World -> Prop} {S : World -> Prop} (i : Nat) {o : Oper} {fuel : Nat} {listed : Array Bool} {a : Act} {w : World}
 (h : ∀ K' : Act -> World -> Prop, Shut (∀ a w, S w -> (S w -> wpAnyH P md ops Q S fuel (listed.setIfInBounds i true) a w) -> K' a w) -> if Region.wanted o (yielded ops a.tmps) = true then Oper.wp P o a w K' Q else K' (a.put o.dst undef) w)
 (hr : Region.ready md ops listed = [i] := by kernel_rfl) (ho : ops[i]? = some o := by rfl) : wpAnyH P md ops Q S (fuel + 1) listed a w := wpAnyH_ready hr (by simp) (AllReadyH.cons ho h AllReadyH.nil)
end Go.Proofs.YtfmpjlpakldheaaGreatDoor
namespace Go.Proofs.Sha
open Go Go.RowKit
theorem run_equalIn_ptr {P : Program} (d : Nat) (t te : TypeId) (j : TypeInfo) (hu : P.underlying t = some (.pointer te)) (hj : P.info? te = some j) (hz : j.size ≠ 0) (a b : Option Addr) (w : World)
 (ha : a = none \/ ∃ (x : Nat) (cs : Array Value) (u : TypeId), a = some ⟨x, 0, none⟩ /\ w.heap[x]? = some (.cells cs u (0, 0))) (hb : b = none \/ ∃ (x : Nat) (cs : Array Value) (u : TypeId), b = some ⟨x, 0, none⟩ /\ w.heap[x]? = some (.cells cs u (0, 0))) :
 (Op.equalIn (d + 1) t (.pointer a) (.pointer b)).run P w = .ok (decide (a = b)) w := by
 rcases ha with rfl | ⟨x, cs, u, rfl, hx⟩ <;> rcases hb with rfl | ⟨y, ds, v, rfl, hy⟩
 · simp [Op.equalIn, run_underlying hu]
 · simp [Op.equalIn, run_underlying hu]
 · simp [Op.equalIn, run_underlying hu]
 · by_cases e : x = y
   · subst e
     simp [Op.equalIn, run_underlying hu, sizeOf, typeInfo, hj, run_sameAddr_same]
   · have hne : (⟨x, 0, none⟩ : Addr) ≠ ⟨y, 0, none⟩ := fun q => e (congrArg Addr.block q)
     simp [Op.equalIn, run_underlying hu, sizeOf, typeInfo, hj, hz, run_sameAddr_other w hne hx hy]
theorem run_eql_ptr {P : Program} (t te : TypeId) (j : TypeInfo) (hu : P.underlying t = some (.pointer te)) (hj : P.info? te = some j) (hz : j.size ≠ 0) (a b : Option Addr) (w : World)
 (ha : a = none \/ ∃ (x : Nat) (cs : Array Value) (u : TypeId), a = some ⟨x, 0, none⟩ /\ w.heap[x]? = some (.cells cs u (0, 0))) (hb : b = none \/ ∃ (x : Nat) (cs : Array Value) (u : TypeId), b = some ⟨x, 0, none⟩ /\ w.heap[x]? = some (.cells cs u (0, 0))) :
 (binOp .eql t (.pointer a) (.pointer b)).run P w = .ok (.bool (decide (a = b))) w := by
 have key : (Op.equal t (.pointer a) (.pointer b)).run P w = .ok (decide (a = b)) w := run_equalIn_ptr 9999 t te j hu hj hz a b w ha hb
 simp only [binOp]
 simp [key]
end Go.Proofs.Sha
