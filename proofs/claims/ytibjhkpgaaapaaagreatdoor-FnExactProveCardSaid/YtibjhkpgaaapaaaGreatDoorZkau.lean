import Derived.Test.YtibjhkpgaaapaaaGreatDoorZkai
import Derived.Test.YtibjhkpgaaapaaaGreatDoorZkaq
import Derived.Deep.QuietTactic
import Derived.BigQuiet
namespace Go.Proofs.YtibjhkpgaaapaaaGreatDoor
open Go.RowKit Go.Proofs.Sha

theorem pairOk_any (k v : ByteArray) (w : World) (hk : k.size ≤ 1048576) (hv : v.size ≤ 1048576) : Calls Tryz.prog 125 #[.string k, .string v] w fun e w' => e = .returned (.bool (okKey k && okVal v)) ∧ w = w' := by
  have hr : okVal v = decide ((v.size : Int) ≤ 2000) := by
    unfold okVal
    by_cases c2 : v.size ≤ 2000
    · rw [decide_eq_true (by omega), decide_eq_true (by omega)]
    · rw [decide_eq_false (by omega), decide_eq_false (by omega)]
  by_cases c1 : 1 ≤ k.size
  · by_cases c2 : k.size ≤ 256
    · have hq : okKey k = true := by unfold okKey; rw [decide_eq_true (by omega)]
      rw [hq, hr, Bool.true_and]
      have z1 : decide ((k.size : Int) ≥ 1) = true := by rw [decide_eq_true_eq]; omega
      have z2 : decide ((1 : Int) ≤ (k.size : Int)) = true := by rw [decide_eq_true_eq]; omega
      have z3 : decide ((k.size : Int) ≤ 256) = true := by rw [decide_eq_true_eq]; omega
      have z4 : 0 < k.size := by omega
      have z5 : decide (1 ≤ k.size) = true := decide_eq_true c1
      clear hr hq
      go_enter Tryz.func125, Tryz.ntmps125
      go_wp2_with fail
      go_ret
      exact ⟨rfl, rfl⟩
    · have hq : okKey k = false := by unfold okKey; rw [decide_eq_false (by omega)]
      rw [hq, Bool.false_and]
      have z1 : decide ((k.size : Int) ≥ 1) = true := by rw [decide_eq_true_eq]; omega
      have z2 : decide ((1 : Int) ≤ (k.size : Int)) = true := by rw [decide_eq_true_eq]; omega
      have z3 : decide ((k.size : Int) ≤ 256) = false := by rw [decide_eq_false_iff_not]; omega
      have z4 : 0 < k.size := by omega
      have z5 : decide (1 ≤ k.size) = true := decide_eq_true c1
      clear hr hq
      go_enter Tryz.func125, Tryz.ntmps125
      go_wp2_with fail
      go_ret
      exact ⟨rfl, rfl⟩
  · have hq : okKey k = false := by unfold okKey; rw [decide_eq_false (by omega)]
    rw [hq, Bool.false_and]
    have z1 : decide ((k.size : Int) ≥ 1) = false := by rw [decide_eq_false_iff_not]; omega
    have z2 : decide ((1 : Int) ≤ (k.size : Int)) = false := by rw [decide_eq_false_iff_not]; omega
    have z0 : k.size = 0 := by omega
    clear hr hq
    go_enter Tryz.func125, Tryz.ntmps125
    go_wp2_with fail
    go_ret
    exact ⟨rfl, rfl⟩
end Go.Proofs.YtibjhkpgaaapaaaGreatDoor
namespace Go.Proofs.YtibjhkpgaaapaaaGreatDoor
open Go.RowKit Go.Proofs.Sha

theorem drew1 {w wr : World} (h : ∃ m, wr = w.drewN m) : ∃ m, wr.drew = w.drewN m := by
  obtain ⟨m, rfl⟩ := h
  exact ⟨m + 1, by rw [← World.drewN_drewN]; rfl⟩
set_option maxRecDepth 100000 in
set_option maxHeartbeats 400000 in
theorem less_q (p q : ByteArray) (w : World) (hp : p.size ≤ 1048576) (hq : q.size ≤ 1048576) :
    Calls Tryz.prog 85 #[.string p, .string q] w fun e w' => e = .returned (.bool (Op.bytesLess p.data.toList q.data.toList)) ∧ (∃ m, w' = w.drewN m) := by
  have hpl : p.data.toList.length = p.size := rfl
  have hql : q.data.toList.length = q.size := rfl
  go_enter Tryz.func85, Tryz.ntmps85
  go_wp2_with fail
  go_loopw [5] (fun t wr => ∃ k : Nat, k ≤ p.size ∧ k ≤ q.size ∧ t = .int .i64 (k : Int) ∧ Hid (Op.bytesLess p.data.toList q.data.toList = Op.bytesLess (p.data.toList.drop k) (q.data.toList.drop k)) ∧ ∃ m, wr = w.drewN m) (fun t _ => p.size - (intOf t).toNat)
  case atStart => exact ⟨0, by omega, by omega, rfl, rfl, 0, rfl⟩
  case round =>
    obtain ⟨k, hk1, hk2, rfl, HL, hb⟩ := hrel
    by_cases h1 : k < p.size
    · by_cases h2 : k < q.size
      · have z1 : (0 : Int) ≤ (k : Int) := by omega
        have z2 : (k : Int) < (p.size : Int) := by omega
        have z3 : (k : Int) < (q.size : Int) := by omega
        go_wp2_with fail
        go_region
        rw [bget p k h1, bget q k h2]
        have HE := less_eq p.data.toList q.data.toList k h1 h2
        have HN := less_ne p.data.toList q.data.toList k h1 h2
        obtain ⟨x, hx⟩ : ∃ x, p.data.toList.getD k 0 = x := ⟨_, rfl⟩
        obtain ⟨y, hy⟩ : ∃ y, q.data.toList.getD k 0 = y := ⟨_, rfl⟩
        rw [hx, hy] at HE HN
        rw [hx, hy]
        have HXY : Hid (p.data.toList.getD k 0 = x ∧ q.data.toList.getD k 0 = y) := ⟨hx, hy⟩
        clear hx hy
        by_cases hxy : x = y
        · have c0 : ((x.toNat : Int) != (y.toNat : Int)) = false := by rw [hxy]; simp
          have HE' : Hid (Op.bytesLess p.data.toList q.data.toList = Op.bytesLess (p.data.toList.drop (k + 1)) (q.data.toList.drop (k + 1))) := HL.out.trans (HE hxy)
          clear HE HN hxy
          go_wp2_with fail
          go_roundw
          case rel => exact ⟨k + 1, by omega, by omega, by go_num, HE', drew1 hb⟩
          case measure => simp [intOf]; omega
        · have c0 : ((x.toNat : Int) != (y.toNat : Int)) = true := by
            rw [bne_iff_ne]; exact fun h => hxy (UInt8.toNat_inj.1 (by omega))
          have HN' : Hid (Op.bytesLess p.data.toList q.data.toList = decide (x.toNat < y.toNat)) := (HL.out.trans (HN hxy)).trans (by simp)
          clear HE HN hxy
          go_wp2_with fail
          go_region
          rw [bget p k h1, bget q k h2, HXY.out.1, HXY.out.2]
          go_wp2
          go_ret
          exact ⟨by rw [HN'.out]; rfl, drew1 (drew1 hb)⟩
      · have HN' : Hid (Op.bytesLess p.data.toList q.data.toList = decide (p.size < q.size)) := (HL.out.trans (less_end p.data.toList q.data.toList k (.inr (by omega)) (by omega) (by omega))).trans (by simp)
        go_wp2
        go_ret
        exact ⟨by rw [HN'.out]; rfl, hb⟩
    · have HN' : Hid (Op.bytesLess p.data.toList q.data.toList = decide (p.size < q.size)) := (HL.out.trans (less_end p.data.toList q.data.toList k (.inl (by omega)) (by omega) (by omega))).trans (by simp)
      go_wp2
      go_ret
      exact ⟨by rw [HN'.out]; rfl, hb⟩

theorem pairOk_q (k v : ByteArray) (w : World) (hk : k.size ≤ 1048576) (hv : v.size ≤ 1048576) : Calls Tryz.prog 125 #[.string k, .string v] w fun e w' => e = .returned (.bool (okKey k && okVal v)) ∧ w' = w :=
  (pairOk_any k v w hk hv).mono fun _ _ ⟨he, hw⟩ => ⟨he, hw.symm⟩
end Go.Proofs.YtibjhkpgaaapaaaGreatDoor
