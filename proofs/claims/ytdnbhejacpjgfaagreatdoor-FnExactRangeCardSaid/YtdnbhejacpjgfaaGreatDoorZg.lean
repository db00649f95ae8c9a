import Derived.Test.YtdnbhejacpjgfaaGreatDoorZf
import Derived.Test.YtdnbhejacpjgfaaGreatDoorZd
import Derived.Deep.Cut
import Derived.Deep.RegionHeld3
import Derived.Lib.Builder
import Derived.Deep.QuietTactic
import Derived.BigQuiet
import Derived.LaidEql
namespace Go.Proofs.YtdnbhejacpjgfaaGreatDoor
open Go.RowKit Go.Proofs.Sha

set_option maxRecDepth 100000 in
set_option maxHeartbeats 400000 in
theorem shigher_any (a b : ByteArray) (w : World) (ha : a.size ≤ 1048576) (hb : b.size ≤ 1048576) :
    Calls Tryz.prog 30 #[.string a, .string b] w fun e w' => e = .returned (.bool (rk (sha a.data.toList) (sha b.data.toList) a.data.toList b.data.toList)) ∧ Below w.heap.size w w' := by
  have hla : (sha a.data.toList).length = 32 := by unfold sha; rw [outTo_length]
  have hlb : (sha b.data.toList).length = 32 := by unfold sha; rw [outTo_length]
  have H1 := fun w' => spec_any a w' ha
  have H2 := fun w' => spec_any b w' hb
  have HR1 : Hid (sha a.data.toList = sha b.data.toList → rk (sha a.data.toList) (sha b.data.toList) a.data.toList b.data.toList = Op.bytesLess a.data.toList b.data.toList) := fun h => if_pos h
  have HR2 : Hid (sha a.data.toList ≠ sha b.data.toList → rk (sha a.data.toList) (sha b.data.toList) a.data.toList b.data.toList = Op.bytesLess (sha b.data.toList) (sha a.data.toList)) := fun h => if_neg h
  obtain ⟨X, hX⟩ : ∃ X, sha a.data.toList = X := ⟨_, rfl⟩
  obtain ⟨Y, hY⟩ : ∃ Y, sha b.data.toList = Y := ⟨_, rfl⟩
  rw [hX] at hla H1
  rw [hY] at hlb H2
  rw [hX, hY] at HR1 HR2
  rw [hX, hY]
  obtain ⟨SX, hSX⟩ : ∃ S : ByteArray, S = ⟨X.toArray⟩ := ⟨_, rfl⟩
  obtain ⟨SY, hSY⟩ : ∃ S : ByteArray, S = ⟨Y.toArray⟩ := ⟨_, rfl⟩
  have dX : SX.data.toList = X := by rw [hSX]
  have dY : SY.data.toList = Y := by rw [hSY]
  have zX : SX.size ≤ 1048576 := by rw [hSX]; show X.length ≤ _; omega
  have zY : SY.size ≤ 1048576 := by rw [hSY]; show Y.length ≤ _; omega
  rw [← hSX] at H1
  rw [← hSY] at H2
  have L1 := fun w' => less_any SY SX w' zY zX
  have L2 := fun w' => less_any a b w' ha hb
  rw [dX, dY] at L1
  have K1 : Hid (∀ w', Calls Tryz.prog 43 #[.string a] w' fun e w'' => e = .returned (.string SX) ∧ Below w'.heap.size w' w'') := H1
  have K2 : Hid (∀ w', Calls Tryz.prog 43 #[.string b] w' fun e w'' => e = .returned (.string SY) ∧ Below w'.heap.size w' w'') := H2
  have K3 : Hid (∀ w', Calls Tryz.prog 31 #[.string SY, .string SX] w' fun e w'' => e = .returned (.bool (Op.bytesLess Y X)) ∧ Below w'.heap.size w' w'') := L1
  have K4 : Hid (∀ w', Calls Tryz.prog 31 #[.string a, .string b] w' fun e w'' => e = .returned (.bool (Op.bytesLess a.data.toList b.data.toList)) ∧ Below w'.heap.size w' w'') := L2
  have tX : SX.toList = X := by rw [ByteArray.toList_eq, dX]
  have tY : SY.toList = Y := by rw [ByteArray.toList_eq, dY]
  have TXY : Hid (SX.toList = X ∧ SY.toList = Y) := ⟨tX, tY⟩
  clear hX hY H1 H2 L1 L2 hSX hSY dX dY zX zY hla hlb tX tY
  by_cases hXY : X = Y
  · have c1 : (SX.toList == SY.toList) = true := by rw [TXY.out.1, TXY.out.2, hXY]; simp
    have HR := HR1.out hXY
    have HR' : Hid (rk X Y a.data.toList b.data.toList = Op.bytesLess a.data.toList b.data.toList) := HR
    clear HR HR1 HR2 hXY
    go_enter Tryz.func30, Tryz.ntmps30
    go_wp2_with fail
    refine (K1.out _).mono ?_
    rintro e w1 ⟨rfl, hb1⟩
    go_wp2_with fail
    refine (K2.out _).mono ?_
    rintro e w2 ⟨rfl, hb2⟩
    go_wp2_with fail
    refine (K4.out _).mono ?_
    rintro e w3 ⟨rfl, hb3⟩
    go_wp2
    go_ret
    exact ⟨by rw [HR'.out]; rfl, (hb1.trans (hb2.mono hb1.size)).trans (hb3.mono (Nat.le_trans hb1.size hb2.size))⟩
  · have c1 : (SX.toList == SY.toList) = false := by rw [TXY.out.1, TXY.out.2]; exact beq_eq_false_iff_ne.2 hXY
    have HR' : Hid (rk X Y a.data.toList b.data.toList = Op.bytesLess Y X) := HR2.out hXY
    clear HR1 HR2 hXY
    go_enter Tryz.func30, Tryz.ntmps30
    go_wp2_with fail
    refine (K1.out _).mono ?_
    rintro e w1 ⟨rfl, hb1⟩
    go_wp2_with fail
    refine (K2.out _).mono ?_
    rintro e w2 ⟨rfl, hb2⟩
    go_wp2_with fail
    refine (K3.out _).mono ?_
    rintro e w3 ⟨rfl, hb3⟩
    go_wp2
    go_ret
    exact ⟨by rw [HR'.out]; rfl, (hb1.trans (hb2.mono hb1.size)).trans (hb3.mono (Nat.le_trans hb1.size hb2.size))⟩

end Go.Proofs.YtdnbhejacpjgfaaGreatDoor
namespace Go.Proofs.YtdnbhejacpjgfaaGreatDoor
open Go.RowKit Go.Proofs.Sha

/-- A branch that has not been filled. -/
def BR (b : Nat) (hash over under : ByteArray) (par : Option Addr) (w : World) : Prop := w.heap[b]? = some (.cells #[.string hash, .string over, .string under, .pointer par, .string ⟨#[]⟩, .string ⟨#[]⟩, .string ⟨#[]⟩, .string ⟨#[]⟩, .pointer none, .pointer none] 75)
/-- A branch that has been filled. -/
def BF (b : Nat) (hash over under : ByteArray) (par : Option Addr) (k v l r : ByteArray) (pl pr : Option Addr) (w : World) : Prop := w.heap[b]? = some (.cells #[.string hash, .string over, .string under, .pointer par, .string k, .string v, .string l, .string r, .pointer pl, .pointer pr] 75)
theorem emp_iff (s : ByteArray) : s.toList.isEmpty = emp s := by
  rw [ByteArray.toList_eq]
  unfold emp
  by_cases h : s.size = 0
  · rw [decide_eq_true h]
    have : s.data.toList.length = 0 := h
    rw [List.length_eq_zero_iff.1 this]; rfl
  · rw [decide_eq_false h]
    have : s.data.toList.length ≠ 0 := h
    cases hs : s.data.toList with
    | nil => rw [hs] at this; exact absurd rfl this
    | cons a b => rfl
theorem branchAt_none (over under : ByteArray) (par : Option Addr) (w : World) : Calls Tryz.prog 46 #[.string ⟨#[]⟩, .agg #[.string over, .string under, .pointer par]] w fun e w' => e = .returned (.pointer none) ∧ Below w.heap.size w w' := by
  have hb : Below w.heap.size w (w.alloc (.cells #[.string over, .string under, .pointer par] 73)) := (Below.refl _ _).alloc (Nat.le_refl _) _
  go_enter Tryz.func46, Tryz.ntmps46
  go_wp2_with fail
  go_ret
  exact ⟨rfl, hb⟩
theorem branchAt_some (hash over under : ByteArray) (par : Option Addr) (w : World) (hn : emp hash = false) : Calls Tryz.prog 46 #[.string hash, .agg #[.string over, .string under, .pointer par]] w fun e w' => (∃ b, e = .returned (.pointer (some ⟨b, 0, none⟩)) ∧ w.heap.size ≤ b ∧ BR b hash over under par w') ∧ Below w.heap.size w w' := by
  have hz : hash.toList.isEmpty = false := (emp_iff hash).trans hn
  have hb : Below w.heap.size w ((w.alloc (.cells #[.string over, .string under, .pointer par] 73)).alloc (.cells #[.string hash, .string over, .string under, .pointer par, .string ⟨#[]⟩, .string ⟨#[]⟩, .string ⟨#[]⟩, .string ⟨#[]⟩, .pointer none, .pointer none] 75)) := ((Below.refl _ _).alloc (Nat.le_refl _) _).alloc (by simp) _
  have nA := heap_alloc_new (w.alloc (.cells #[.string over, .string under, .pointer par] 73)) (.cells #[.string hash, .string over, .string under, .pointer par, .string ⟨#[]⟩, .string ⟨#[]⟩, .string ⟨#[]⟩, .string ⟨#[]⟩, .pointer none, .pointer none] 75)
  rw [World.size_alloc] at nA
  go_enter Tryz.func46, Tryz.ntmps46
  go_wp2_with fail
  go_ret
  exact ⟨⟨w.heap.size + 1, rfl, by omega, nA⟩, hb⟩
end Go.Proofs.YtdnbhejacpjgfaaGreatDoor
namespace Go.Proofs.YtdnbhejacpjgfaaGreatDoor
open Go.RowKit Go.Proofs.Sha

theorem drew1 {w wr : World} (h : ∃ m, wr = w.drewN m) : ∃ m, wr.drew = w.drewN m := by
  obtain ⟨m, rfl⟩ := h
  exact ⟨m + 1, by rw [← World.drewN_drewN]; rfl⟩
set_option maxRecDepth 100000 in
set_option maxHeartbeats 400000 in
theorem less_q (p q : ByteArray) (w : World) (hp : p.size ≤ 1048576) (hq : q.size ≤ 1048576) :
    Calls Tryz.prog 31 #[.string p, .string q] w fun e w' => e = .returned (.bool (Op.bytesLess p.data.toList q.data.toList)) ∧ (∃ m, w' = w.drewN m) := by
  have hpl : p.data.toList.length = p.size := rfl
  have hql : q.data.toList.length = q.size := rfl
  go_enter Tryz.func31, Tryz.ntmps31
  go_wp2_with fail
  go_loopw [5] (fun t wr => ∃ k : Nat, k ≤ p.size ∧ k ≤ q.size ∧ t = .int .i64 (k : Int) ∧ Hid (Op.bytesLess p.data.toList q.data.toList = Op.bytesLess (p.data.toList.drop k) (q.data.toList.drop k)) ∧ ∃ m, wr = w.drewN m) (fun t _ => p.size - (intOf t).toNat)
  case atStart => exact ⟨0, by omega, by omega, rfl, rfl, 0, rfl⟩
  case round =>
    obtain ⟨k, hk1, hk2, rfl, HL, hb⟩ := hrel
    by_cases h1 : k < p.size
    · by_cases h2 : k < q.size
      · have z1 : (0 : Int) ≤ (k : Int) := by omega
        have z2 : (k : Int) < (p.size : Int) := by omega
        have z3 : (k : Int) < (q.size : Int) := by omega
        go_wp2_with fail
        go_region
        rw [bget p k h1, bget q k h2]
        have HE := less_eq p.data.toList q.data.toList k h1 h2
        have HN := less_ne p.data.toList q.data.toList k h1 h2
        obtain ⟨x, hx⟩ : ∃ x, p.data.toList.getD k 0 = x := ⟨_, rfl⟩
        obtain ⟨y, hy⟩ : ∃ y, q.data.toList.getD k 0 = y := ⟨_, rfl⟩
        rw [hx, hy] at HE HN
        rw [hx, hy]
        have HXY : Hid (p.data.toList.getD k 0 = x ∧ q.data.toList.getD k 0 = y) := ⟨hx, hy⟩
        clear hx hy
        by_cases hxy : x = y
        · have c0 : ((x.toNat : Int) != (y.toNat : Int)) = false := by rw [hxy]; simp
          have HE' : Hid (Op.bytesLess p.data.toList q.data.toList = Op.bytesLess (p.data.toList.drop (k + 1)) (q.data.toList.drop (k + 1))) := HL.out.trans (HE hxy)
          clear HE HN hxy
          go_wp2_with fail
          go_roundw
          case rel => exact ⟨k + 1, by omega, by omega, by go_num, HE', drew1 hb⟩
          case measure => simp [intOf]; omega
        · have c0 : ((x.toNat : Int) != (y.toNat : Int)) = true := by
            rw [bne_iff_ne]; exact fun h => hxy (UInt8.toNat_inj.1 (by omega))
          have HN' : Hid (Op.bytesLess p.data.toList q.data.toList = decide (x.toNat < y.toNat)) := (HL.out.trans (HN hxy)).trans (by simp)
          clear HE HN hxy
          go_wp2_with fail
          go_region
          rw [bget p k h1, bget q k h2, HXY.out.1, HXY.out.2]
          go_wp2
          go_ret
          exact ⟨by rw [HN'.out]; rfl, drew1 (drew1 hb)⟩
      · have HN' : Hid (Op.bytesLess p.data.toList q.data.toList = decide (p.size < q.size)) := (HL.out.trans (less_end p.data.toList q.data.toList k (.inr (by omega)) (by omega) (by omega))).trans (by simp)
        go_wp2
        go_ret
        exact ⟨by rw [HN'.out]; rfl, hb⟩
    · have HN' : Hid (Op.bytesLess p.data.toList q.data.toList = decide (p.size < q.size)) := (HL.out.trans (less_end p.data.toList q.data.toList k (.inl (by omega)) (by omega) (by omega))).trans (by simp)
      go_wp2
      go_ret
      exact ⟨by rw [HN'.out]; rfl, hb⟩

end Go.Proofs.YtdnbhejacpjgfaaGreatDoor
namespace Go.Proofs.YtdnbhejacpjgfaaGreatDoor
open Go.RowKit Go.Proofs.Sha

theorem lessL (a b : ByteArray) : Op.bytesLess a.data.toList b.data.toList = lessB a b := by unfold lessB; rw [ByteArray.toList_eq, ByteArray.toList_eq]
theorem lessS_q (p q : ByteArray) (w : World) (hp : p.size ≤ 1048576) (hq : q.size ≤ 1048576) : Calls Tryz.prog 31 #[.string p, .string q] w fun e w' => e = .returned (.bool (lessB p q)) ∧ (∃ m, w' = w.drewN m) := by
  have := less_q p q w hp hq
  rw [lessL] at this
  exact this
theorem draws_below {a w : World} {B : Nat} (n : Nat) (h : Below B a w) : Below B a (w.drewN n) := ⟨h.os, h.tape, h.output, h.size, h.block⟩
theorem emp_size {s : ByteArray} {b : Bool} (h : emp s = b) : (b = true → s.size = 0) ∧ (b = false → 0 < s.size) := by
  unfold emp at h
  subst h
  exact ⟨fun h => by simpa using h, fun h => by rw [decide_eq_false_iff_not] at h; omega⟩
theorem emp_beq {s : ByteArray} {b : Bool} (h : emp s = b) : ((s.size : Int) == 0) = b := by
  rw [← h]
  unfold emp
  by_cases e : s.size = 0
  · rw [decide_eq_true e]; simp [e]
  · rw [decide_eq_false e, beq_eq_false_iff_ne]; omega
theorem emp_ne {s : ByteArray} (h : emp s = false) : ¬ s = ByteArray.empty := fun e => by
  subst e
  cases h
/-- 'canW' as the model asks it. -/
theorem canW_spec (over under lo hi : ByteArray) : canW over under lo hi = (if (!emp hi && !lessB lo hi) = true then false else if (!emp under && !lessB lo under) = true then false else (emp over || emp hi || lessB over hi)) := by
  have h0 : emp over = true → lessB over hi = !emp hi := fun h => by
    have hs : over.size = 0 := by unfold emp at h; simpa using h
    have ho : over.toList = [] := by rw [ByteArray.toList_eq]; exact List.length_eq_zero_iff.1 hs
    unfold lessB
    rw [ho, ← emp_iff]
    cases hi.toList <;> rfl
  unfold canW
  cases h1 : emp hi <;> cases h2 : emp under <;> cases h3 : emp over <;> cases h4 : lessB lo hi <;> cases h5 : lessB lo under <;> cases h6 : lessB over hi <;> simp_all
set_option maxRecDepth 100000 in
set_option maxHeartbeats 1000000 in
theorem wants_any (over under lo hi : ByteArray) (w : World) (h1 : over.size ≤ 1048576) (h2 : under.size ≤ 1048576) (h3 : lo.size ≤ 1048576) (h4 : hi.size ≤ 1048576) :
    Calls Tryz.prog 27 #[.agg #[.string over, .string under], .string lo, .string hi] w fun e w' => e = .returned (.bool (canW over under lo hi)) ∧ Below w.heap.size w w' := by
  have hbA : Below w.heap.size w (w.alloc (.cells #[.string over, .string under] 44)) := (Below.refl _ _).alloc (Nat.le_refl _) _
  have HA := fun w' => lessS_q lo hi w' h3 h4
  have HB := fun w' => lessS_q lo under w' h3 h2
  have HC := fun w' => lessS_q over hi w' h1 h4
  have HR := canW_spec over under lo hi
  cases e1 : emp hi with
  | false =>
    cases a1 : lessB lo hi with
    | false =>
      rw [e1, a1] at HR
      have HR2 : Hid _ := HR
      clear HR
      rw [a1] at HA
      try have ne1 := emp_ne e1
      have be1 := emp_beq e1
      have se1 := emp_size e1
      simp only [Bool.false_eq_true, false_implies, forall_const, true_and] at se1
      go_enter Tryz.func27, Tryz.ntmps27
      go_wp2_with (first | (go_at_call_of 31 (Value.string over); refine (HC _).mono ?_; rintro e w1 ⟨rfl, m3, rfl⟩) | (go_at_call_of 31 (Value.string hi); refine (HA _).mono ?_; rintro e w1 ⟨rfl, m1, rfl⟩) | (go_at_call_of 31 (Value.string under); refine (HB _).mono ?_; rintro e w1 ⟨rfl, m2, rfl⟩))
      go_ret
      exact ⟨by rw [HR2.out]; rfl, by first | exact hbA | exact draws_below _ hbA | exact draws_below _ (draws_below _ hbA) | exact draws_below _ (draws_below _ (draws_below _ hbA))⟩
    | true =>
      cases e2 : emp under with
      | false =>
        cases a2 : lessB lo under with
        | false =>
          rw [e1, a1, e2, a2] at HR
          have HR2 : Hid _ := HR
          clear HR
          rw [a1] at HA
          rw [a2] at HB
          try have ne1 := emp_ne e1
          have be1 := emp_beq e1
          have se1 := emp_size e1
          simp only [Bool.false_eq_true, false_implies, forall_const, true_and] at se1
          try have ne2 := emp_ne e2
          have be2 := emp_beq e2
          have se2 := emp_size e2
          simp only [Bool.false_eq_true, false_implies, forall_const, true_and] at se2
          go_enter Tryz.func27, Tryz.ntmps27
          go_wp2_with (first | (go_at_call_of 31 (Value.string over); refine (HC _).mono ?_; rintro e w1 ⟨rfl, m3, rfl⟩) | (go_at_call_of 31 (Value.string hi); refine (HA _).mono ?_; rintro e w1 ⟨rfl, m1, rfl⟩) | (go_at_call_of 31 (Value.string under); refine (HB _).mono ?_; rintro e w1 ⟨rfl, m2, rfl⟩))
          go_ret
          exact ⟨by rw [HR2.out]; rfl, by first | exact hbA | exact draws_below _ hbA | exact draws_below _ (draws_below _ hbA) | exact draws_below _ (draws_below _ (draws_below _ hbA))⟩
        | true =>
          cases e3 : emp over with
          | false =>
            cases a3 : lessB over hi with
            | false =>
              rw [e1, a1, e2, a2, e3, a3] at HR
              have HR2 : Hid _ := HR
              clear HR
              rw [a1] at HA
              rw [a2] at HB
              rw [a3] at HC
              try have ne1 := emp_ne e1
              have be1 := emp_beq e1
              have se1 := emp_size e1
              simp only [Bool.false_eq_true, false_implies, forall_const, true_and] at se1
              try have ne2 := emp_ne e2
              have be2 := emp_beq e2
              have se2 := emp_size e2
              simp only [Bool.false_eq_true, false_implies, forall_const, true_and] at se2
              try have ne3 := emp_ne e3
              have be3 := emp_beq e3
              have se3 := emp_size e3
              simp only [Bool.false_eq_true, false_implies, forall_const, true_and] at se3
              go_enter Tryz.func27, Tryz.ntmps27
              go_wp2_with (first | (go_at_call_of 31 (Value.string over); refine (HC _).mono ?_; rintro e w1 ⟨rfl, m3, rfl⟩) | (go_at_call_of 31 (Value.string hi); refine (HA _).mono ?_; rintro e w1 ⟨rfl, m1, rfl⟩) | (go_at_call_of 31 (Value.string under); refine (HB _).mono ?_; rintro e w1 ⟨rfl, m2, rfl⟩))
              go_ret
              exact ⟨by rw [HR2.out]; rfl, by first | exact hbA | exact draws_below _ hbA | exact draws_below _ (draws_below _ hbA) | exact draws_below _ (draws_below _ (draws_below _ hbA))⟩
            | true =>
              rw [e1, a1, e2, a2, e3, a3] at HR
              have HR2 : Hid _ := HR
              clear HR
              rw [a1] at HA
              rw [a2] at HB
              rw [a3] at HC
              try have ne1 := emp_ne e1
              have be1 := emp_beq e1
              have se1 := emp_size e1
              simp only [Bool.false_eq_true, false_implies, forall_const, true_and] at se1
              try have ne2 := emp_ne e2
              have be2 := emp_beq e2
              have se2 := emp_size e2
              simp only [Bool.false_eq_true, false_implies, forall_const, true_and] at se2
              try have ne3 := emp_ne e3
              have be3 := emp_beq e3
              have se3 := emp_size e3
              simp only [Bool.false_eq_true, false_implies, forall_const, true_and] at se3
              go_enter Tryz.func27, Tryz.ntmps27
              go_wp2_with (first | (go_at_call_of 31 (Value.string over); refine (HC _).mono ?_; rintro e w1 ⟨rfl, m3, rfl⟩) | (go_at_call_of 31 (Value.string hi); refine (HA _).mono ?_; rintro e w1 ⟨rfl, m1, rfl⟩) | (go_at_call_of 31 (Value.string under); refine (HB _).mono ?_; rintro e w1 ⟨rfl, m2, rfl⟩))
              go_ret
              exact ⟨by rw [HR2.out]; rfl, by first | exact hbA | exact draws_below _ hbA | exact draws_below _ (draws_below _ hbA) | exact draws_below _ (draws_below _ (draws_below _ hbA))⟩
          | true =>
            rw [e1, a1, e2, a2, e3] at HR
            have HR2 : Hid _ := HR
            clear HR
            rw [a1] at HA
            rw [a2] at HB
            try have ne1 := emp_ne e1
            have be1 := emp_beq e1
            have se1 := emp_size e1
            simp only [Bool.false_eq_true, false_implies, forall_const, true_and] at se1
            try have ne2 := emp_ne e2
            have be2 := emp_beq e2
            have se2 := emp_size e2
            simp only [Bool.false_eq_true, false_implies, forall_const, true_and] at se2
            try have ne3 := emp_ne e3
            have be3 := emp_beq e3
            have se3 := emp_size e3
            simp only [Bool.true_eq_false, false_implies, forall_const, and_true] at se3
            go_enter Tryz.func27, Tryz.ntmps27
            go_wp2_with (first | (go_at_call_of 31 (Value.string over); refine (HC _).mono ?_; rintro e w1 ⟨rfl, m3, rfl⟩) | (go_at_call_of 31 (Value.string hi); refine (HA _).mono ?_; rintro e w1 ⟨rfl, m1, rfl⟩) | (go_at_call_of 31 (Value.string under); refine (HB _).mono ?_; rintro e w1 ⟨rfl, m2, rfl⟩))
            go_ret
            exact ⟨by rw [HR2.out]; rfl, by first | exact hbA | exact draws_below _ hbA | exact draws_below _ (draws_below _ hbA) | exact draws_below _ (draws_below _ (draws_below _ hbA))⟩
      | true =>
        cases e3 : emp over with
        | false =>
          cases a3 : lessB over hi with
          | false =>
            rw [e1, a1, e2, e3, a3] at HR
            have HR2 : Hid _ := HR
            clear HR
            rw [a1] at HA
            rw [a3] at HC
            try have ne1 := emp_ne e1
            have be1 := emp_beq e1
            have se1 := emp_size e1
            simp only [Bool.false_eq_true, false_implies, forall_const, true_and] at se1
            try have ne2 := emp_ne e2
            have be2 := emp_beq e2
            have se2 := emp_size e2
            simp only [Bool.true_eq_false, false_implies, forall_const, and_true] at se2
            try have ne3 := emp_ne e3
            have be3 := emp_beq e3
            have se3 := emp_size e3
            simp only [Bool.false_eq_true, false_implies, forall_const, true_and] at se3
            go_enter Tryz.func27, Tryz.ntmps27
            go_wp2_with (first | (go_at_call_of 31 (Value.string over); refine (HC _).mono ?_; rintro e w1 ⟨rfl, m3, rfl⟩) | (go_at_call_of 31 (Value.string hi); refine (HA _).mono ?_; rintro e w1 ⟨rfl, m1, rfl⟩) | (go_at_call_of 31 (Value.string under); refine (HB _).mono ?_; rintro e w1 ⟨rfl, m2, rfl⟩))
            go_ret
            exact ⟨by rw [HR2.out]; rfl, by first | exact hbA | exact draws_below _ hbA | exact draws_below _ (draws_below _ hbA) | exact draws_below _ (draws_below _ (draws_below _ hbA))⟩
          | true =>
            rw [e1, a1, e2, e3, a3] at HR
            have HR2 : Hid _ := HR
            clear HR
            rw [a1] at HA
            rw [a3] at HC
            try have ne1 := emp_ne e1
            have be1 := emp_beq e1
            have se1 := emp_size e1
            simp only [Bool.false_eq_true, false_implies, forall_const, true_and] at se1
            try have ne2 := emp_ne e2
            have be2 := emp_beq e2
            have se2 := emp_size e2
            simp only [Bool.true_eq_false, false_implies, forall_const, and_true] at se2
            try have ne3 := emp_ne e3
            have be3 := emp_beq e3
            have se3 := emp_size e3
            simp only [Bool.false_eq_true, false_implies, forall_const, true_and] at se3
            go_enter Tryz.func27, Tryz.ntmps27
            go_wp2_with (first | (go_at_call_of 31 (Value.string over); refine (HC _).mono ?_; rintro e w1 ⟨rfl, m3, rfl⟩) | (go_at_call_of 31 (Value.string hi); refine (HA _).mono ?_; rintro e w1 ⟨rfl, m1, rfl⟩) | (go_at_call_of 31 (Value.string under); refine (HB _).mono ?_; rintro e w1 ⟨rfl, m2, rfl⟩))
            go_ret
            exact ⟨by rw [HR2.out]; rfl, by first | exact hbA | exact draws_below _ hbA | exact draws_below _ (draws_below _ hbA) | exact draws_below _ (draws_below _ (draws_below _ hbA))⟩
        | true =>
          rw [e1, a1, e2, e3] at HR
          have HR2 : Hid _ := HR
          clear HR
          rw [a1] at HA
          try have ne1 := emp_ne e1
          have be1 := emp_beq e1
          have se1 := emp_size e1
          simp only [Bool.false_eq_true, false_implies, forall_const, true_and] at se1
          try have ne2 := emp_ne e2
          have be2 := emp_beq e2
          have se2 := emp_size e2
          simp only [Bool.true_eq_false, false_implies, forall_const, and_true] at se2
          try have ne3 := emp_ne e3
          have be3 := emp_beq e3
          have se3 := emp_size e3
          simp only [Bool.true_eq_false, false_implies, forall_const, and_true] at se3
          go_enter Tryz.func27, Tryz.ntmps27
          go_wp2_with (first | (go_at_call_of 31 (Value.string over); refine (HC _).mono ?_; rintro e w1 ⟨rfl, m3, rfl⟩) | (go_at_call_of 31 (Value.string hi); refine (HA _).mono ?_; rintro e w1 ⟨rfl, m1, rfl⟩) | (go_at_call_of 31 (Value.string under); refine (HB _).mono ?_; rintro e w1 ⟨rfl, m2, rfl⟩))
          go_ret
          exact ⟨by rw [HR2.out]; rfl, by first | exact hbA | exact draws_below _ hbA | exact draws_below _ (draws_below _ hbA) | exact draws_below _ (draws_below _ (draws_below _ hbA))⟩
  | true =>
    cases e2 : emp under with
    | false =>
      cases a2 : lessB lo under with
      | false =>
        rw [e1, e2, a2] at HR
        have HR2 : Hid _ := HR
        clear HR
        rw [a2] at HB
        try have ne1 := emp_ne e1
        have be1 := emp_beq e1
        have se1 := emp_size e1
        simp only [Bool.true_eq_false, false_implies, forall_const, and_true] at se1
        try have ne2 := emp_ne e2
        have be2 := emp_beq e2
        have se2 := emp_size e2
        simp only [Bool.false_eq_true, false_implies, forall_const, true_and] at se2
        go_enter Tryz.func27, Tryz.ntmps27
        go_wp2_with (first | (go_at_call_of 31 (Value.string over); refine (HC _).mono ?_; rintro e w1 ⟨rfl, m3, rfl⟩) | (go_at_call_of 31 (Value.string hi); refine (HA _).mono ?_; rintro e w1 ⟨rfl, m1, rfl⟩) | (go_at_call_of 31 (Value.string under); refine (HB _).mono ?_; rintro e w1 ⟨rfl, m2, rfl⟩))
        go_ret
        exact ⟨by rw [HR2.out]; rfl, by first | exact hbA | exact draws_below _ hbA | exact draws_below _ (draws_below _ hbA) | exact draws_below _ (draws_below _ (draws_below _ hbA))⟩
      | true =>
        cases e3 : emp over with
        | false =>
          rw [e1, e2, a2, e3] at HR
          have HR2 : Hid _ := HR
          clear HR
          rw [a2] at HB
          try have ne1 := emp_ne e1
          have be1 := emp_beq e1
          have se1 := emp_size e1
          simp only [Bool.true_eq_false, false_implies, forall_const, and_true] at se1
          try have ne2 := emp_ne e2
          have be2 := emp_beq e2
          have se2 := emp_size e2
          simp only [Bool.false_eq_true, false_implies, forall_const, true_and] at se2
          try have ne3 := emp_ne e3
          have be3 := emp_beq e3
          have se3 := emp_size e3
          simp only [Bool.false_eq_true, false_implies, forall_const, true_and] at se3
          go_enter Tryz.func27, Tryz.ntmps27
          go_wp2_with (first | (go_at_call_of 31 (Value.string over); refine (HC _).mono ?_; rintro e w1 ⟨rfl, m3, rfl⟩) | (go_at_call_of 31 (Value.string hi); refine (HA _).mono ?_; rintro e w1 ⟨rfl, m1, rfl⟩) | (go_at_call_of 31 (Value.string under); refine (HB _).mono ?_; rintro e w1 ⟨rfl, m2, rfl⟩))
          go_ret
          exact ⟨by rw [HR2.out]; rfl, by first | exact hbA | exact draws_below _ hbA | exact draws_below _ (draws_below _ hbA) | exact draws_below _ (draws_below _ (draws_below _ hbA))⟩
        | true =>
          rw [e1, e2, a2, e3] at HR
          have HR2 : Hid _ := HR
          clear HR
          rw [a2] at HB
          try have ne1 := emp_ne e1
          have be1 := emp_beq e1
          have se1 := emp_size e1
          simp only [Bool.true_eq_false, false_implies, forall_const, and_true] at se1
          try have ne2 := emp_ne e2
          have be2 := emp_beq e2
          have se2 := emp_size e2
          simp only [Bool.false_eq_true, false_implies, forall_const, true_and] at se2
          try have ne3 := emp_ne e3
          have be3 := emp_beq e3
          have se3 := emp_size e3
          simp only [Bool.true_eq_false, false_implies, forall_const, and_true] at se3
          go_enter Tryz.func27, Tryz.ntmps27
          go_wp2_with (first | (go_at_call_of 31 (Value.string over); refine (HC _).mono ?_; rintro e w1 ⟨rfl, m3, rfl⟩) | (go_at_call_of 31 (Value.string hi); refine (HA _).mono ?_; rintro e w1 ⟨rfl, m1, rfl⟩) | (go_at_call_of 31 (Value.string under); refine (HB _).mono ?_; rintro e w1 ⟨rfl, m2, rfl⟩))
          go_ret
          exact ⟨by rw [HR2.out]; rfl, by first | exact hbA | exact draws_below _ hbA | exact draws_below _ (draws_below _ hbA) | exact draws_below _ (draws_below _ (draws_below _ hbA))⟩
    | true =>
      cases e3 : emp over with
      | false =>
        rw [e1, e2, e3] at HR
        have HR2 : Hid _ := HR
        clear HR
        try have ne1 := emp_ne e1
        have be1 := emp_beq e1
        have se1 := emp_size e1
        simp only [Bool.true_eq_false, false_implies, forall_const, and_true] at se1
        try have ne2 := emp_ne e2
        have be2 := emp_beq e2
        have se2 := emp_size e2
        simp only [Bool.true_eq_false, false_implies, forall_const, and_true] at se2
        try have ne3 := emp_ne e3
        have be3 := emp_beq e3
        have se3 := emp_size e3
        simp only [Bool.false_eq_true, false_implies, forall_const, true_and] at se3
        go_enter Tryz.func27, Tryz.ntmps27
        go_wp2_with (first | (go_at_call_of 31 (Value.string over); refine (HC _).mono ?_; rintro e w1 ⟨rfl, m3, rfl⟩) | (go_at_call_of 31 (Value.string hi); refine (HA _).mono ?_; rintro e w1 ⟨rfl, m1, rfl⟩) | (go_at_call_of 31 (Value.string under); refine (HB _).mono ?_; rintro e w1 ⟨rfl, m2, rfl⟩))
        go_ret
        exact ⟨by rw [HR2.out]; rfl, by first | exact hbA | exact draws_below _ hbA | exact draws_below _ (draws_below _ hbA) | exact draws_below _ (draws_below _ (draws_below _ hbA))⟩
      | true =>
        rw [e1, e2, e3] at HR
        have HR2 : Hid _ := HR
        clear HR
        try have ne1 := emp_ne e1
        have be1 := emp_beq e1
        have se1 := emp_size e1
        simp only [Bool.true_eq_false, false_implies, forall_const, and_true] at se1
        try have ne2 := emp_ne e2
        have be2 := emp_beq e2
        have se2 := emp_size e2
        simp only [Bool.true_eq_false, false_implies, forall_const, and_true] at se2
        try have ne3 := emp_ne e3
        have be3 := emp_beq e3
        have se3 := emp_size e3
        simp only [Bool.true_eq_false, false_implies, forall_const, and_true] at se3
        go_enter Tryz.func27, Tryz.ntmps27
        go_wp2_with (first | (go_at_call_of 31 (Value.string over); refine (HC _).mono ?_; rintro e w1 ⟨rfl, m3, rfl⟩) | (go_at_call_of 31 (Value.string hi); refine (HA _).mono ?_; rintro e w1 ⟨rfl, m1, rfl⟩) | (go_at_call_of 31 (Value.string under); refine (HB _).mono ?_; rintro e w1 ⟨rfl, m2, rfl⟩))
        go_ret
        exact ⟨by rw [HR2.out]; rfl, by first | exact hbA | exact draws_below _ hbA | exact draws_below _ (draws_below _ hbA) | exact draws_below _ (draws_below _ (draws_below _ hbA))⟩
theorem insW_spec (over under key : ByteArray) (hk : emp key = false) : insW over under key = ((emp over || lessB over key) && (emp under || lessB key under)) := by
  have h0 : emp over = true → lessB over key = true := fun h => by
    have hs : over.size = 0 := by unfold emp at h; simpa using h
    have ho : over.toList = [] := by rw [ByteArray.toList_eq]; exact List.length_eq_zero_iff.1 hs
    rw [← emp_iff] at hk
    unfold lessB
    rw [ho]
    cases hq : key.toList with
    | nil => rw [hq] at hk; cases hk
    | cons a b => rfl
  unfold insW
  cases h1 : emp over with
  | false => rfl
  | true => rw [h0 h1]; rfl
set_option maxRecDepth 100000 in
set_option maxHeartbeats 1000000 in
theorem inside_any (over under key : ByteArray) (w : World) (hk : emp key = false) (h1 : over.size ≤ 1048576) (h2 : under.size ≤ 1048576) (h3 : key.size ≤ 1048576) :
    Calls Tryz.prog 29 #[.string key, .agg #[.string over, .string under]] w fun e w' => e = .returned (.bool (insW over under key)) ∧ Below w.heap.size w w' := by
  have hbA : Below w.heap.size w (w.alloc (.cells #[.string over, .string under] 44)) := (Below.refl _ _).alloc (Nat.le_refl _) _
  have HA := fun w' => lessS_q over key w' h1 h3
  have HB := fun w' => lessS_q key under w' h3 h2
  have HR := insW_spec over under key hk
  cases e1 : emp over with
  | false =>
    cases a1 : lessB over key with
    | false =>
      rw [e1, a1] at HR
      have HR2 : Hid _ := HR
      clear HR
      rw [a1] at HA
      try have ne1 := emp_ne e1
      have be1 := emp_beq e1
      have se1 := emp_size e1
      simp only [Bool.false_eq_true, false_implies, forall_const, true_and] at se1
      go_enter Tryz.func29, Tryz.ntmps29
      go_wp2_with (first | (go_at_call_of 31 (Value.string over); refine (HA _).mono ?_; rintro e w1 ⟨rfl, m1, rfl⟩) | (go_at_call_of 31 (Value.string under); refine (HB _).mono ?_; rintro e w1 ⟨rfl, m2, rfl⟩))
      go_ret
      exact ⟨by rw [HR2.out]; rfl, by first | exact hbA | exact draws_below _ hbA | exact draws_below _ (draws_below _ hbA)⟩
    | true =>
      cases e2 : emp under with
      | false =>
        cases a2 : lessB key under with
        | false =>
          rw [e1, a1, e2, a2] at HR
          have HR2 : Hid _ := HR
          clear HR
          rw [a1] at HA
          rw [a2] at HB
          try have ne1 := emp_ne e1
          have be1 := emp_beq e1
          have se1 := emp_size e1
          simp only [Bool.false_eq_true, false_implies, forall_const, true_and] at se1
          try have ne2 := emp_ne e2
          have be2 := emp_beq e2
          have se2 := emp_size e2
          simp only [Bool.false_eq_true, false_implies, forall_const, true_and] at se2
          go_enter Tryz.func29, Tryz.ntmps29
          go_wp2_with (first | (go_at_call_of 31 (Value.string over); refine (HA _).mono ?_; rintro e w1 ⟨rfl, m1, rfl⟩) | (go_at_call_of 31 (Value.string under); refine (HB _).mono ?_; rintro e w1 ⟨rfl, m2, rfl⟩))
          go_ret
          exact ⟨by rw [HR2.out]; rfl, by first | exact hbA | exact draws_below _ hbA | exact draws_below _ (draws_below _ hbA)⟩
        | true =>
          rw [e1, a1, e2, a2] at HR
          have HR2 : Hid _ := HR
          clear HR
          rw [a1] at HA
          rw [a2] at HB
          try have ne1 := emp_ne e1
          have be1 := emp_beq e1
          have se1 := emp_size e1
          simp only [Bool.false_eq_true, false_implies, forall_const, true_and] at se1
          try have ne2 := emp_ne e2
          have be2 := emp_beq e2
          have se2 := emp_size e2
          simp only [Bool.false_eq_true, false_implies, forall_const, true_and] at se2
          go_enter Tryz.func29, Tryz.ntmps29
          go_wp2_with (first | (go_at_call_of 31 (Value.string over); refine (HA _).mono ?_; rintro e w1 ⟨rfl, m1, rfl⟩) | (go_at_call_of 31 (Value.string under); refine (HB _).mono ?_; rintro e w1 ⟨rfl, m2, rfl⟩))
          go_ret
          exact ⟨by rw [HR2.out]; rfl, by first | exact hbA | exact draws_below _ hbA | exact draws_below _ (draws_below _ hbA)⟩
      | true =>
        rw [e1, a1, e2] at HR
        have HR2 : Hid _ := HR
        clear HR
        rw [a1] at HA
        try have ne1 := emp_ne e1
        have be1 := emp_beq e1
        have se1 := emp_size e1
        simp only [Bool.false_eq_true, false_implies, forall_const, true_and] at se1
        try have ne2 := emp_ne e2
        have be2 := emp_beq e2
        have se2 := emp_size e2
        simp only [Bool.true_eq_false, false_implies, forall_const, and_true] at se2
        go_enter Tryz.func29, Tryz.ntmps29
        go_wp2_with (first | (go_at_call_of 31 (Value.string over); refine (HA _).mono ?_; rintro e w1 ⟨rfl, m1, rfl⟩) | (go_at_call_of 31 (Value.string under); refine (HB _).mono ?_; rintro e w1 ⟨rfl, m2, rfl⟩))
        go_ret
        exact ⟨by rw [HR2.out]; rfl, by first | exact hbA | exact draws_below _ hbA | exact draws_below _ (draws_below _ hbA)⟩
  | true =>
    cases e2 : emp under with
    | false =>
      cases a2 : lessB key under with
      | false =>
        rw [e1, e2, a2] at HR
        have HR2 : Hid _ := HR
        clear HR
        rw [a2] at HB
        try have ne1 := emp_ne e1
        have be1 := emp_beq e1
        have se1 := emp_size e1
        simp only [Bool.true_eq_false, false_implies, forall_const, and_true] at se1
        try have ne2 := emp_ne e2
        have be2 := emp_beq e2
        have se2 := emp_size e2
        simp only [Bool.false_eq_true, false_implies, forall_const, true_and] at se2
        go_enter Tryz.func29, Tryz.ntmps29
        go_wp2_with (first | (go_at_call_of 31 (Value.string over); refine (HA _).mono ?_; rintro e w1 ⟨rfl, m1, rfl⟩) | (go_at_call_of 31 (Value.string under); refine (HB _).mono ?_; rintro e w1 ⟨rfl, m2, rfl⟩))
        go_ret
        exact ⟨by rw [HR2.out]; rfl, by first | exact hbA | exact draws_below _ hbA | exact draws_below _ (draws_below _ hbA)⟩
      | true =>
        rw [e1, e2, a2] at HR
        have HR2 : Hid _ := HR
        clear HR
        rw [a2] at HB
        try have ne1 := emp_ne e1
        have be1 := emp_beq e1
        have se1 := emp_size e1
        simp only [Bool.true_eq_false, false_implies, forall_const, and_true] at se1
        try have ne2 := emp_ne e2
        have be2 := emp_beq e2
        have se2 := emp_size e2
        simp only [Bool.false_eq_true, false_implies, forall_const, true_and] at se2
        go_enter Tryz.func29, Tryz.ntmps29
        go_wp2_with (first | (go_at_call_of 31 (Value.string over); refine (HA _).mono ?_; rintro e w1 ⟨rfl, m1, rfl⟩) | (go_at_call_of 31 (Value.string under); refine (HB _).mono ?_; rintro e w1 ⟨rfl, m2, rfl⟩))
        go_ret
        exact ⟨by rw [HR2.out]; rfl, by first | exact hbA | exact draws_below _ hbA | exact draws_below _ (draws_below _ hbA)⟩
    | true =>
      rw [e1, e2] at HR
      have HR2 : Hid _ := HR
      clear HR
      try have ne1 := emp_ne e1
      have be1 := emp_beq e1
      have se1 := emp_size e1
      simp only [Bool.true_eq_false, false_implies, forall_const, and_true] at se1
      try have ne2 := emp_ne e2
      have be2 := emp_beq e2
      have se2 := emp_size e2
      simp only [Bool.true_eq_false, false_implies, forall_const, and_true] at se2
      go_enter Tryz.func29, Tryz.ntmps29
      go_wp2_with (first | (go_at_call_of 31 (Value.string over); refine (HA _).mono ?_; rintro e w1 ⟨rfl, m1, rfl⟩) | (go_at_call_of 31 (Value.string under); refine (HB _).mono ?_; rintro e w1 ⟨rfl, m2, rfl⟩))
      go_ret
      exact ⟨by rw [HR2.out]; rfl, by first | exact hbA | exact draws_below _ hbA | exact draws_below _ (draws_below _ hbA)⟩
end Go.Proofs.YtdnbhejacpjgfaaGreatDoor
namespace Go.Proofs.YtdnbhejacpjgfaaGreatDoor
open Go.RowKit Go.Proofs.Sha

/-- A key's rank, as cells. -/
def rkL (k : ByteArray) : List Value := (sha k.data.toList).map B ++ [Value.string k]
theorem rkL_len (k : ByteArray) : (rkL k).length = 33 := by unfold rkL; rw [List.length_append, List.length_map]; unfold sha; rw [outTo_length]; rfl
theorem rkL_last (k : ByteArray) : (rkL k)[32]? = some (.string k) := by
  unfold rkL
  have : ((sha k.data.toList).map B).length = 32 := by rw [List.length_map]; unfold sha; rw [outTo_length]
  rw [List.getElem?_append_right (by omega), this]; rfl
/-- A rank in its block. -/
def RKb (g : Nat) (k : ByteArray) (w : World) : Prop := w.heap[g]? = some (.cells (rkL k).toArray 125)
theorem RKb.c32 {g : Nat} {k : ByteArray} {w : World} (h : RKb g k w) : w.cell? ⟨g, 32, none⟩ = some (.string k) := (Lib.cell_of_heap h 32).trans (by simpa using rkL_last k)
theorem RKb.range {g : Nat} {k : ByteArray} {w : World} (h : RKb g k w) : w.rangeAt g 0 (rkL k) := fun j u hj => (Lib.cell_of_heap h (0 + j)).trans (by simpa using hj)
set_option maxRecDepth 100000 in
theorem leftOf_any (over under key : ByteArray) (par : Option Addr) (w : World) : Calls Tryz.prog 72 #[.agg #[.string over, .string under, .pointer par], .agg (rkL key).toArray] w fun e w' => (∃ g, e = .returned (.agg #[.string over, .string key, .pointer (some ⟨g, 0, none⟩)]) ∧ w.heap.size ≤ g ∧ RKb g key w') ∧ Below w.heap.size w w' := by
  obtain ⟨W, hW⟩ : ∃ W, (w.alloc (.cells #[.string over, .string under, .pointer par] 73)).alloc (.cells (rkL key).toArray 125) = W := ⟨_, rfl⟩
  have hb : Below w.heap.size w W := by rw [← hW]; exact ((Below.refl _ _).alloc (Nat.le_refl _) _).alloc (by simp) _
  have n0 : W.heap[w.heap.size]? = some (.cells #[.string over, .string under, .pointer par] 73) := by rw [← hW, Below.heap_alloc _ _ _ (by simp)]; exact heap_alloc_new w _
  have n1 : W.heap[w.heap.size + 1]? = some (.cells (rkL key).toArray 125) := by
    have := heap_alloc_new (w.alloc (.cells #[.string over, .string under, .pointer par] 73)) (.cells (rkL key).toArray 125)
    rw [← hW]; simpa using this
  have hsz : W.heap.size = w.heap.size + 1 + 1 := by rw [← hW]; simp
  have ca : W.cell? ⟨w.heap.size, 0, none⟩ = some (.string over) := Lib.cell_of_heap n0 0
  have cb : W.cell? ⟨w.heap.size + 1, 32, none⟩ = some (.string key) := RKb.c32 n1
  have hbz : Below w.heap.size w (W.alloc (.cells #[.string over, .string key, .pointer (some ⟨w.heap.size + 1, 0, none⟩)] 73)) := hb.alloc hb.size _
  have nz : RKb (w.heap.size + 1) key (W.alloc (.cells #[.string over, .string key, .pointer (some ⟨w.heap.size + 1, 0, none⟩)] 73)) := (Below.heap_alloc W _ _ (by omega)).trans n1
  have nR := heap_alloc_new W (.cells #[.string over, .string key, .pointer (some ⟨w.heap.size + 1, 0, none⟩)] 73)
  rw [hsz] at nR
  generalize (rkL key).toArray = cs at hW n1
  obtain ⟨ga, hga⟩ : ∃ ga, w.heap.size = ga := ⟨_, rfl⟩
  go_enter Tryz.func72, Tryz.ntmps72
  rw [hga] at ca cb hsz hbz nz nR
  have q0 := Lib.cell_of_heap nR 0
  have q1 := Lib.cell_of_heap nR 1
  have q2 := Lib.cell_of_heap nR 2
  go_wp2_with fail
  exact bodyPost_ret (v := .agg #[.string over, .string key, .pointer (some ⟨ga + 1, 0, none⟩)]) (by simp [results, Tryz.results72, go_sem, q0, q1, q2]) rfl ⟨⟨ga + 1, rfl, by omega, nz⟩, by rw [hga]; exact hbz⟩
set_option maxRecDepth 100000 in
theorem rightOf_any (over under key : ByteArray) (par : Option Addr) (w : World) : Calls Tryz.prog 73 #[.agg #[.string over, .string under, .pointer par], .agg (rkL key).toArray] w fun e w' => (∃ g, e = .returned (.agg #[.string key, .string under, .pointer (some ⟨g, 0, none⟩)]) ∧ w.heap.size ≤ g ∧ RKb g key w') ∧ Below w.heap.size w w' := by
  obtain ⟨W, hW⟩ : ∃ W, (w.alloc (.cells #[.string over, .string under, .pointer par] 73)).alloc (.cells (rkL key).toArray 125) = W := ⟨_, rfl⟩
  have hb : Below w.heap.size w W := by rw [← hW]; exact ((Below.refl _ _).alloc (Nat.le_refl _) _).alloc (by simp) _
  have n0 : W.heap[w.heap.size]? = some (.cells #[.string over, .string under, .pointer par] 73) := by rw [← hW, Below.heap_alloc _ _ _ (by simp)]; exact heap_alloc_new w _
  have n1 : W.heap[w.heap.size + 1]? = some (.cells (rkL key).toArray 125) := by
    have := heap_alloc_new (w.alloc (.cells #[.string over, .string under, .pointer par] 73)) (.cells (rkL key).toArray 125)
    rw [← hW]; simpa using this
  have hsz : W.heap.size = w.heap.size + 1 + 1 := by rw [← hW]; simp
  have ca : W.cell? ⟨w.heap.size, 1, none⟩ = some (.string under) := Lib.cell_of_heap n0 1
  have cb : W.cell? ⟨w.heap.size + 1, 32, none⟩ = some (.string key) := RKb.c32 n1
  have hbz : Below w.heap.size w (W.alloc (.cells #[.string key, .string under, .pointer (some ⟨w.heap.size + 1, 0, none⟩)] 73)) := hb.alloc hb.size _
  have nz : RKb (w.heap.size + 1) key (W.alloc (.cells #[.string key, .string under, .pointer (some ⟨w.heap.size + 1, 0, none⟩)] 73)) := (Below.heap_alloc W _ _ (by omega)).trans n1
  have nR := heap_alloc_new W (.cells #[.string key, .string under, .pointer (some ⟨w.heap.size + 1, 0, none⟩)] 73)
  rw [hsz] at nR
  generalize (rkL key).toArray = cs at hW n1
  obtain ⟨ga, hga⟩ : ∃ ga, w.heap.size = ga := ⟨_, rfl⟩
  go_enter Tryz.func73, Tryz.ntmps73
  rw [hga] at ca cb hsz hbz nz nR
  have q0 := Lib.cell_of_heap nR 0
  have q1 := Lib.cell_of_heap nR 1
  have q2 := Lib.cell_of_heap nR 2
  go_wp2_with fail
  exact bodyPost_ret (v := .agg #[.string key, .string under, .pointer (some ⟨ga + 1, 0, none⟩)]) (by simp [results, Tryz.results73, go_sem, q0, q1, q2]) rfl ⟨⟨ga + 1, rfl, by omega, nz⟩, by rw [hga]; exact hbz⟩
end Go.Proofs.YtdnbhejacpjgfaaGreatDoor
namespace Go.Proofs.YtdnbhejacpjgfaaGreatDoor
open Go.RowKit Go.Proofs.Sha

theorem lessB_tri (a b : ByteArray) : lessB a b = !(lessB b a || (b.toList == a.toList)) := less_tri _ _
/-- 'canW' as the program asks it. -/
theorem canW_eq (over under lo hi : ByteArray) : canW over under lo hi = (if (!hi.toList.isEmpty && ((Op.bytesLess hi.toList lo.toList || (hi.toList == lo.toList)) || (Op.bytesLess hi.toList over.toList || (hi.toList == over.toList)))) = true then false else (under.toList.isEmpty || (!Op.bytesLess under.toList lo.toList && !(under.toList == lo.toList)))) := by
  unfold canW
  rw [lessB_tri lo hi, lessB_tri over hi, lessB_tri lo under, emp_iff, emp_iff]
  unfold lessB
  cases emp hi <;> cases emp under <;> cases Op.bytesLess hi.toList lo.toList <;> cases (hi.toList == lo.toList) <;> cases Op.bytesLess hi.toList over.toList <;> cases (hi.toList == over.toList) <;> simp
theorem hasW_eq (lo hi key : ByteArray) : hasW lo hi key = ((Op.bytesLess lo.toList key.toList || (lo.toList == key.toList)) && (hi.toList.isEmpty || Op.bytesLess key.toList hi.toList)) := by
  unfold hasW
  rw [lessB_tri key lo, emp_iff]
  unfold lessB
  simp
theorem can_any (lo hi over under : ByteArray) (par : Option Addr) (w : World) : Calls Tryz.prog 49 #[.agg #[.string lo, .string hi], .agg #[.string over, .string under, .pointer par]] w fun e w' => e = .returned (.bool (canW over under lo hi)) ∧ Below w.heap.size w w' := by
  have hb : Below w.heap.size w ((w.alloc (.cells #[.string lo, .string hi] 50)).alloc (.cells #[.string over, .string under, .pointer par] 73)) := ((Below.refl _ _).alloc (Nat.le_refl _) _).alloc (by simp) _
  have HR := canW_eq over under lo hi
  cases h1 : hi.toList.isEmpty with
  | false =>
    cases a1 : Op.bytesLess hi.toList lo.toList with
    | false =>
      cases a2 : (hi.toList == lo.toList) with
      | false =>
        cases a3 : Op.bytesLess hi.toList over.toList with
        | false =>
          cases a4 : (hi.toList == over.toList) with
          | false =>
            cases h2 : under.toList.isEmpty with
            | false =>
              rw [h1, a1, a2, a3, a4, h2] at HR
              have HR2 : Hid _ := HR
              clear HR
              go_enter Tryz.func49, Tryz.ntmps49
              go_wp2_with fail
              go_ret
              exact ⟨by rw [HR2.out]; rfl, hb⟩
            | true =>
              rw [h1, a1, a2, a3, a4, h2] at HR
              have HR2 : Hid _ := HR
              clear HR
              go_enter Tryz.func49, Tryz.ntmps49
              go_wp2_with fail
              go_ret
              exact ⟨by rw [HR2.out]; rfl, hb⟩
          | true =>
            rw [h1, a1, a2, a3, a4] at HR
            have HR2 : Hid _ := HR
            clear HR
            go_enter Tryz.func49, Tryz.ntmps49
            go_wp2_with fail
            go_ret
            exact ⟨by rw [HR2.out]; rfl, hb⟩
        | true =>
          rw [h1, a1, a2, a3] at HR
          have HR2 : Hid _ := HR
          clear HR
          go_enter Tryz.func49, Tryz.ntmps49
          go_wp2_with fail
          go_ret
          exact ⟨by rw [HR2.out]; rfl, hb⟩
      | true =>
        rw [h1, a1, a2] at HR
        have HR2 : Hid _ := HR
        clear HR
        go_enter Tryz.func49, Tryz.ntmps49
        go_wp2_with fail
        go_ret
        exact ⟨by rw [HR2.out]; rfl, hb⟩
    | true =>
      rw [h1, a1] at HR
      have HR2 : Hid _ := HR
      clear HR
      go_enter Tryz.func49, Tryz.ntmps49
      go_wp2_with fail
      go_ret
      exact ⟨by rw [HR2.out]; rfl, hb⟩
  | true =>
    cases h2 : under.toList.isEmpty with
    | false =>
      rw [h1, h2] at HR
      have HR2 : Hid _ := HR
      clear HR
      go_enter Tryz.func49, Tryz.ntmps49
      go_wp2_with fail
      go_ret
      exact ⟨by rw [HR2.out]; rfl, hb⟩
    | true =>
      rw [h1, h2] at HR
      have HR2 : Hid _ := HR
      clear HR
      go_enter Tryz.func49, Tryz.ntmps49
      go_wp2_with fail
      go_ret
      exact ⟨by rw [HR2.out]; rfl, hb⟩
theorem has_any (lo hi key : ByteArray) (w : World) : Calls Tryz.prog 38 #[.agg #[.string lo, .string hi], .string key] w fun e w' => e = .returned (.bool (hasW lo hi key)) ∧ Below w.heap.size w w' := by
  have hb : Below w.heap.size w (w.alloc (.cells #[.string lo, .string hi] 50)) := (Below.refl _ _).alloc (Nat.le_refl _) _
  have HR := hasW_eq lo hi key
  cases a1 : Op.bytesLess lo.toList key.toList with
  | false =>
    cases a2 : (lo.toList == key.toList) with
    | false =>
      rw [a1, a2] at HR
      have HR2 : Hid _ := HR
      clear HR
      go_enter Tryz.func38, Tryz.ntmps38
      go_wp2_with fail
      go_ret
      exact ⟨by rw [HR2.out]; rfl, hb⟩
    | true =>
      cases h1 : hi.toList.isEmpty with
      | false =>
        rw [a1, a2, h1] at HR
        have HR2 : Hid _ := HR
        clear HR
        go_enter Tryz.func38, Tryz.ntmps38
        go_wp2_with fail
        go_ret
        exact ⟨by rw [HR2.out]; rfl, hb⟩
      | true =>
        rw [a1, a2, h1] at HR
        have HR2 : Hid _ := HR
        clear HR
        go_enter Tryz.func38, Tryz.ntmps38
        go_wp2_with fail
        go_ret
        exact ⟨by rw [HR2.out]; rfl, hb⟩
  | true =>
    cases h1 : hi.toList.isEmpty with
    | false =>
      rw [a1, h1] at HR
      have HR2 : Hid _ := HR
      clear HR
      go_enter Tryz.func38, Tryz.ntmps38
      go_wp2_with fail
      go_ret
      exact ⟨by rw [HR2.out]; rfl, hb⟩
    | true =>
      rw [a1, h1] at HR
      have HR2 : Hid _ := HR
      clear HR
      go_enter Tryz.func38, Tryz.ntmps38
      go_wp2_with fail
      go_ret
      exact ⟨by rw [HR2.out]; rfl, hb⟩
end Go.Proofs.YtdnbhejacpjgfaaGreatDoor
namespace Go.Proofs.Sha
open Go Go.RowKit

/-- Pointers to blocks of cells, or none, are equal just where they are the same. -/
theorem run_equalIn_ptr {P : Program} (d : Nat) (t te : TypeId) (j : TypeInfo) (hu : P.underlying t = some (.pointer te)) (hj : P.info? te = some j) (hz : j.size ≠ 0) (a b : Option Addr) (w : World)
    (ha : a = none ∨ ∃ (x : Nat) (cs : Array Value) (u : TypeId), a = some ⟨x, 0, none⟩ ∧ w.heap[x]? = some (.cells cs u (0, 0))) (hb : b = none ∨ ∃ (x : Nat) (cs : Array Value) (u : TypeId), b = some ⟨x, 0, none⟩ ∧ w.heap[x]? = some (.cells cs u (0, 0))) :
    (Op.equalIn (d + 1) t (.pointer a) (.pointer b)).run P w = .ok (decide (a = b)) w := by
  rcases ha with rfl | ⟨x, cs, u, rfl, hx⟩ <;> rcases hb with rfl | ⟨y, ds, v, rfl, hy⟩
  · simp [Op.equalIn, run_underlying hu]
  · simp [Op.equalIn, run_underlying hu]
  · simp [Op.equalIn, run_underlying hu]
  · by_cases e : x = y
    · subst e
      simp [Op.equalIn, run_underlying hu, sizeOf, typeInfo, hj, run_sameAddr_same]
    · have hne : (⟨x, 0, none⟩ : Addr) ≠ ⟨y, 0, none⟩ := fun q => e (congrArg Addr.block q)
      simp [Op.equalIn, run_underlying hu, sizeOf, typeInfo, hj, hz, run_sameAddr_other w hne hx hy]
theorem run_eql_ptr {P : Program} (t te : TypeId) (j : TypeInfo) (hu : P.underlying t = some (.pointer te)) (hj : P.info? te = some j) (hz : j.size ≠ 0) (a b : Option Addr) (w : World)
    (ha : a = none ∨ ∃ (x : Nat) (cs : Array Value) (u : TypeId), a = some ⟨x, 0, none⟩ ∧ w.heap[x]? = some (.cells cs u (0, 0))) (hb : b = none ∨ ∃ (x : Nat) (cs : Array Value) (u : TypeId), b = some ⟨x, 0, none⟩ ∧ w.heap[x]? = some (.cells cs u (0, 0))) :
    (binOp .eql t (.pointer a) (.pointer b)).run P w = .ok (.bool (decide (a = b))) w := by
  have key : (Op.equal t (.pointer a) (.pointer b)).run P w = .ok (decide (a = b)) w := run_equalIn_ptr 9999 t te j hu hj hz a b w ha hb
  simp only [binOp]
  simp [key]
end Go.Proofs.Sha
