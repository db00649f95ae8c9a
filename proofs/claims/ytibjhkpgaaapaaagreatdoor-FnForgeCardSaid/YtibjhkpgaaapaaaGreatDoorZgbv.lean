import Derived.Test.YtibjhkpgaaapaaaGreatDoorZgbq
import Derived.Deep.Cut
set_option maxRecDepth 100000
set_option maxHeartbeats 2000000
namespace Go.Proofs.YtibjhkpgaaapaaaGreatDoor
open Go.RowKit Go.Proofs.Sha

theorem spoil_det (a : Option Addr) (xs : List Nat) (cap : Nat) (p : Nat) (s : ByteArray) (hX : Code8 xs) (hp : p ≤ 80000) (hs : s.size ≤ 50000) :
    ∃ t : ByteArray, t.size ≤ s.size + 1 ∧ ∀ w, BL a xs w → Calls Tryz.prog 60 #[.slice a xs.length cap, .int .i64 (p : Int), .string s] w fun e w' => e = .returned (.string t) ∧ Below w.heap.size w w' := by
  obtain ⟨x, hx, HT1⟩ := take_det a xs cap p 6 hX (by omega) (by omega) (by omega)
  obtain ⟨y, hy, HT2'⟩ := take_det a xs cap (p + 1) (s.size + 1) hX (by omega) (by omega) (by omega)
  obtain ⟨z, hz, HT3⟩ := take_det a xs cap (p + 1 + 1) 256 hX (by omega) (by omega) (by omega)
  obtain ⟨p1, hp1⟩ : ∃ p1, p + 1 = p1 := ⟨_, rfl⟩
  obtain ⟨p2, hp2⟩ : ∃ p2, p1 + 1 = p2 := ⟨_, rfl⟩
  obtain ⟨p3, hp3⟩ : ∃ p3, p2 + 1 = p3 := ⟨_, rfl⟩
  rw [hp1] at HT1 HT2' HT3
  rw [hp2] at HT2' HT3
  rw [hp3] at HT3
  replace HT1 : Hid _ := HT1
  replace HT3 : Hid _ := HT3
  have HT2 : Hid (∀ w, BL a xs w → Calls Tryz.prog 58 #[.slice a xs.length cap, .int .i64 (p1 : Int), .int .i64 ((s.size : Int) + 1)] w fun e w' => e = .returned (.tuple #[.int .i64 (y : Int), .int .i64 (p2 : Int)]) ∧ Below w.heap.size w w') := fun w h => HT2' w h
  clear HT2' hp1 hp2 hp3
  have HB : Hid (∀ w, Calls Tryz.prog 91 #[.int .i64 (z : Int)] w fun e w' => e = .returned (.string (byteS z)) ∧ Below w.heap.size w w') := fun w => byte_any z (by omega) w
  obtain ⟨tb, htb⟩ : ∃ t, byteS z = t := ⟨_, rfl⟩
  have kb : tb.size = 1 := by rw [← htb]; rfl
  rw [htb] at HB
  clear htb
  have e1 : (s.extract 0 y).size = y := by rw [ByteArray.size_extract]; omega
  have e2 : (s.extract (y + 1) s.size).size = s.size - (y + 1) := by rw [ByteArray.size_extract]; omega
  have e3 : (s.extract y s.size).size = s.size - y := by rw [ByteArray.size_extract]; omega
  have e4 : (s.extract ((y : Int) + 1).toNat s.size).size = s.size - (y + 1) := by rw [ByteArray.size_extract]; omega
  have f1 : ¬ (9223372036854775807 < (s.extract 0 y).size + tb.size) := by omega
  have f2 : ¬ (9223372036854775807 < (s.extract 0 y).size + (s.extract (y + 1) s.size).size) := by omega
  have f3 : ¬ (9223372036854775807 < (s.extract 0 y).size + tb.size + (s.extract (y + 1) s.size).size) := by omega
  have f4 : ¬ (9223372036854775807 < (s.extract 0 y).size + (s.extract ((y : Int) + 1).toNat s.size).size) := by omega
  have f5 : ¬ (9223372036854775807 < (s.extract 0 y).size + tb.size + (s.extract ((y : Int) + 1).toNat s.size).size) := by omega
  have f6 : ¬ (9223372036854775807 < (s.extract 0 y).size + (s.size - (y + 1))) := by omega
  have f7 : ¬ (9223372036854775807 < (s.extract 0 y).size + tb.size + (s.size - (y + 1))) := by omega
  have f8 : ¬ (9223372036854775807 < (s.extract 0 y).size + (s.size - ((y : Int) + 1).toNat)) := by omega
  have f9 : ¬ (9223372036854775807 < (s.extract 0 y).size + tb.size + (s.size - ((y : Int) + 1).toNat)) := by omega
  have f10 : ¬ (9223372036854775807 < (s.extract 0 y).size + tb.size + (s.extract y s.size).size) := by omega
  have f11 : ¬ (9223372036854775807 < (s.extract 0 y).size + tb.size + (s.size - y)) := by omega
  have f12 : ¬ (9223372036854775807 < min y s.size + tb.size) := by omega
  have f13 : ¬ (9223372036854775807 < min y s.size + (s.extract (y + 1) s.size).size) := by omega
  have f14 : ¬ (9223372036854775807 < min y s.size + tb.size + (s.extract (y + 1) s.size).size) := by omega
  have f15 : ¬ (9223372036854775807 < min y s.size + (s.extract ((y : Int) + 1).toNat s.size).size) := by omega
  have f16 : ¬ (9223372036854775807 < min y s.size + tb.size + (s.extract ((y : Int) + 1).toNat s.size).size) := by omega
  have f17 : ¬ (9223372036854775807 < min y s.size + (s.size - (y + 1))) := by omega
  have f18 : ¬ (9223372036854775807 < min y s.size + tb.size + (s.size - (y + 1))) := by omega
  have f19 : ¬ (9223372036854775807 < min y s.size + (s.size - ((y : Int) + 1).toNat)) := by omega
  have f20 : ¬ (9223372036854775807 < min y s.size + tb.size + (s.size - ((y : Int) + 1).toNat)) := by omega
  have f21 : ¬ (9223372036854775807 < min y s.size + tb.size + (s.extract y s.size).size) := by omega
  have f22 : ¬ (9223372036854775807 < min y s.size + tb.size + (s.size - y)) := by omega
  have f23 : ¬ (9223372036854775807 < y + tb.size) := by omega
  have f24 : ¬ (9223372036854775807 < y + (s.extract (y + 1) s.size).size) := by omega
  have f25 : ¬ (9223372036854775807 < y + tb.size + (s.extract (y + 1) s.size).size) := by omega
  have f26 : ¬ (9223372036854775807 < y + (s.extract ((y : Int) + 1).toNat s.size).size) := by omega
  have f27 : ¬ (9223372036854775807 < y + tb.size + (s.extract ((y : Int) + 1).toNat s.size).size) := by omega
  have f28 : ¬ (9223372036854775807 < y + (s.size - (y + 1))) := by omega
  have f29 : ¬ (9223372036854775807 < y + tb.size + (s.size - (y + 1))) := by omega
  have f30 : ¬ (9223372036854775807 < y + (s.size - ((y : Int) + 1).toNat)) := by omega
  have f31 : ¬ (9223372036854775807 < y + tb.size + (s.size - ((y : Int) + 1).toNat)) := by omega
  have f32 : ¬ (9223372036854775807 < y + tb.size + (s.extract y s.size).size) := by omega
  have f33 : ¬ (9223372036854775807 < y + tb.size + (s.size - y)) := by omega
  have q1 : (y : Int) ≤ (s.size : Int) := by omega
  have x6 : IntKind.i64.wrap ((y : Int) + 1) = (y : Int) + 1 := wrap_i64_in _ (by omega) (by omega)
  have x9 : (0 : Int) ≤ (y : Int) + 1 := by omega
  have x10 : (0 : Int) ≤ (y : Int) := by omega
  have kb' : tb.size ≤ 1 := by omega
  have E1 : Hid ((s.extract 0 y).size = y) := e1
  have E2 : Hid ((s.extract (y + 1) s.size).size = s.size - (y + 1)) := e2
  have E3 : Hid ((s.extract y s.size).size = s.size - y) := e3
  clear e1 e2 e3 e4 kb
  by_cases c1 : x = 0 ∧ y < s.size
  · obtain ⟨rfl, c2⟩ := c1
    have z2 : decide ((y : Int) < (s.size : Int)) = true := by simp; omega
    have q2 : (y : Int) + 1 ≤ (s.size : Int) := by omega
    refine ⟨s.extract 0 y ++ s.extract (y + 1) s.size, by rw [ByteArray.size_append, E1.out, E2.out]; omega, fun w h => ?_⟩
    go_enter Tryz.func60, Tryz.ntmps60
    go_wp2_with fail
    refine (HT1.out w h).mono ?_
    rintro e w1 ⟨rfl, hb1⟩
    have h1 := h.below hb1
    go_wp2_with fail
    refine (HT2.out w1 h1).mono ?_
    rintro e w2 ⟨rfl, hb2⟩
    have h2 := h1.below hb2
    have hB2 := hb1.trans (hb2.mono hb1.size)
    go_wp2_with fail
    refine (HT3.out w2 h2).mono ?_
    rintro e w3 ⟨rfl, hb3⟩
    have hB3 := hB2.trans (hb3.mono hB2.size)
    clear hb1 hb2 hb3 hB2 h h1 h2 HT1 HT2 HT3
    go_wp2_with fail
    go_region_held3 (fun _ => True) (exact trivial) (fail)
    go_wp2_with fail
    go_ret
    exact ⟨rfl, hB3.drew⟩
  by_cases c3 : x < 4 ∧ y < s.size
  · have z1 : ((x : Int) == 0) = false := by rw [beq_eq_false_iff_ne]; omega
    have z2 : decide ((y : Int) < (s.size : Int)) = true := by simp; omega
    have z3 : decide ((x : Int) < 4) = true := by simp; omega
    have q2 : (y : Int) + 1 ≤ (s.size : Int) := by omega
    refine ⟨s.extract 0 y ++ tb ++ s.extract (y + 1) s.size, by rw [ByteArray.size_append, ByteArray.size_append, E1.out, E2.out]; omega, fun w h => ?_⟩
    go_enter Tryz.func60, Tryz.ntmps60
    go_wp2_with fail
    refine (HT1.out w h).mono ?_
    rintro e w1 ⟨rfl, hb1⟩
    have h1 := h.below hb1
    go_wp2_with fail
    refine (HT2.out w1 h1).mono ?_
    rintro e w2 ⟨rfl, hb2⟩
    have h2 := h1.below hb2
    have hB2 := hb1.trans (hb2.mono hb1.size)
    go_wp2_with fail
    refine (HT3.out w2 h2).mono ?_
    rintro e w3 ⟨rfl, hb3⟩
    have hB3 := hB2.trans (hb3.mono hB2.size)
    clear hb1 hb2 hb3 hB2 h h1 h2 HT1 HT2 HT3
    go_wp2_with fail
    go_region_held3 (fun _ => True) (exact trivial) (first | (go_at_call 91; refine (HB.out _).mono ?_; rintro e w4 ⟨rfl, hb4⟩))
    go_wp2_with fail
    go_ret
    exact ⟨rfl, hB3.drew.trans (hb4.mono hB3.size)⟩
  by_cases c4 : x = 4
  · subst c4
    have z2 : (decide ((4 : Int) < 4) && decide ((y : Int) < (s.size : Int))) = false := by simp
    refine ⟨s.extract 0 y ++ tb ++ s.extract y s.size, by rw [ByteArray.size_append, ByteArray.size_append, E1.out, E3.out]; omega, fun w h => ?_⟩
    go_enter Tryz.func60, Tryz.ntmps60
    go_wp2_with fail
    refine (HT1.out w h).mono ?_
    rintro e w1 ⟨rfl, hb1⟩
    have h1 := h.below hb1
    go_wp2_with fail
    refine (HT2.out w1 h1).mono ?_
    rintro e w2 ⟨rfl, hb2⟩
    have h2 := h1.below hb2
    have hB2 := hb1.trans (hb2.mono hb1.size)
    go_wp2_with fail
    refine (HT3.out w2 h2).mono ?_
    rintro e w3 ⟨rfl, hb3⟩
    have hB3 := hB2.trans (hb3.mono hB2.size)
    clear hb1 hb2 hb3 hB2 h h1 h2 HT1 HT2 HT3
    go_wp2_with fail
    go_region_held3 (fun _ => True) (exact trivial) (first | (go_at_call 91; refine (HB.out _).mono ?_; rintro e w4 ⟨rfl, hb4⟩))
    go_wp2_with fail
    go_ret
    exact ⟨rfl, hB3.drew.trans (hb4.mono hB3.size)⟩
  have z4 : ((x : Int) == 4) = false := by rw [beq_eq_false_iff_ne]; omega
  by_cases c5 : y < s.size
  · have z1 : ((x : Int) == 0) = false := by rw [beq_eq_false_iff_ne]; omega
    have z2 : decide ((y : Int) < (s.size : Int)) = true := by simp; omega
    have z3 : decide ((x : Int) < 4) = false := by simp; omega
    refine ⟨s.extract 0 y, by rw [E1.out]; omega, fun w h => ?_⟩
    go_enter Tryz.func60, Tryz.ntmps60
    go_wp2_with fail
    refine (HT1.out w h).mono ?_
    rintro e w1 ⟨rfl, hb1⟩
    have h1 := h.below hb1
    go_wp2_with fail
    refine (HT2.out w1 h1).mono ?_
    rintro e w2 ⟨rfl, hb2⟩
    have h2 := h1.below hb2
    have hB2 := hb1.trans (hb2.mono hb1.size)
    go_wp2_with fail
    refine (HT3.out w2 h2).mono ?_
    rintro e w3 ⟨rfl, hb3⟩
    have hB3 := hB2.trans (hb3.mono hB2.size)
    clear hb1 hb2 hb3 hB2 h h1 h2 HT1 HT2 HT3
    go_wp2_with fail
    go_ret
    exact ⟨rfl, hB3⟩
  · have z2 : decide ((y : Int) < (s.size : Int)) = false := by simp; omega
    refine ⟨s.extract 0 y, by rw [E1.out]; omega, fun w h => ?_⟩
    by_cases c6 : x = 0
    · subst c6
      go_enter Tryz.func60, Tryz.ntmps60
      go_wp2_with fail
      refine (HT1.out w h).mono ?_
      rintro e w1 ⟨rfl, hb1⟩
      have h1 := h.below hb1
      go_wp2_with fail
      refine (HT2.out w1 h1).mono ?_
      rintro e w2 ⟨rfl, hb2⟩
      have h2 := h1.below hb2
      have hB2 := hb1.trans (hb2.mono hb1.size)
      go_wp2_with fail
      refine (HT3.out w2 h2).mono ?_
      rintro e w3 ⟨rfl, hb3⟩
      have hB3 := hB2.trans (hb3.mono hB2.size)
      clear hb1 hb2 hb3 hB2 h h1 h2 HT1 HT2 HT3
      go_wp2_with fail
      go_ret
      exact ⟨rfl, hB3⟩
    have z1 : ((x : Int) == 0) = false := by rw [beq_eq_false_iff_ne]; omega
    by_cases c7 : x < 4
    · have z3 : decide ((x : Int) < 4) = true := by simp; omega
      go_enter Tryz.func60, Tryz.ntmps60
      go_wp2_with fail
      refine (HT1.out w h).mono ?_
      rintro e w1 ⟨rfl, hb1⟩
      have h1 := h.below hb1
      go_wp2_with fail
      refine (HT2.out w1 h1).mono ?_
      rintro e w2 ⟨rfl, hb2⟩
      have h2 := h1.below hb2
      have hB2 := hb1.trans (hb2.mono hb1.size)
      go_wp2_with fail
      refine (HT3.out w2 h2).mono ?_
      rintro e w3 ⟨rfl, hb3⟩
      have hB3 := hB2.trans (hb3.mono hB2.size)
      clear hb1 hb2 hb3 hB2 h h1 h2 HT1 HT2 HT3
      go_wp2_with fail
      go_ret
      exact ⟨rfl, hB3⟩
    have z3 : decide ((x : Int) < 4) = false := by simp; omega
    go_enter Tryz.func60, Tryz.ntmps60
    go_wp2_with fail
    refine (HT1.out w h).mono ?_
    rintro e w1 ⟨rfl, hb1⟩
    have h1 := h.below hb1
    go_wp2_with fail
    refine (HT2.out w1 h1).mono ?_
    rintro e w2 ⟨rfl, hb2⟩
    have h2 := h1.below hb2
    have hB2 := hb1.trans (hb2.mono hb1.size)
    go_wp2_with fail
    refine (HT3.out w2 h2).mono ?_
    rintro e w3 ⟨rfl, hb3⟩
    have hB3 := hB2.trans (hb3.mono hB2.size)
    clear hb1 hb2 hb3 hB2 h h1 h2 HT1 HT2 HT3
    go_wp2_with fail
    go_ret
    exact ⟨rfl, hB3⟩
end Go.Proofs.YtibjhkpgaaapaaaGreatDoor
