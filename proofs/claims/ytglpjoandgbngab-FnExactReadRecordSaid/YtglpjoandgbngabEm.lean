import Derived.Test.YtglpjoandgbngabEl
import Derived.Deep.Cut
namespace Go.Proofs.Ytglpjoandgbngab
open Go.RowKit Go.Proofs.Sha

set_option maxRecDepth 100000 in
set_option maxHeartbeats 1000000 in
theorem read_c (s : ByteArray) (m : Nat) (w : World) (hs : s.size ≤ 1048576) (h : 64 * m + 64 ≤ s.size) (hc : s.data.toList.getD (64 * m + 63) 0 = 67) :
    Calls Try.prog 13 #[.string s, .int .i64 (m : Int)] w fun e w' => readPost s (m : Int) e ∧ Below w.heap.size w w' := by
  obtain ⟨a, ha⟩ : ∃ a, 64 * m = a := ⟨_, rfl⟩
  have z0 : decide ((m : Int) < 0) = false := by simp
  have z1 : decide ((s.size : Int) / 64 < (m : Int)) = false := by simp; omega
  have z2 : IntKind.i64.wrap ((m : Int) * 64) = (a : Int) := by rw [wrap_i64_in _ (by omega) (by omega)]; omega
  have z3 : IntKind.i64.wrap ((s.size : Int) - (a : Int)) = (s.size : Int) - (a : Int) := wrap_i64_in _ (by omega) (by omega)
  have z4 : decide ((s.size : Int) - (a : Int) < 64) = false := by simp; omega
  have HNum : Hid (∀ w', Calls Try.prog 25 #[.string s, .int .i64 (a : Int)] w' fun e w'' => e = .returned (.int .i64 (numAt s a : Int)) ∧ Below w'.heap.size w' w'') := fun w' => number_any s a w' hs (by omega)
  obtain ⟨N, hN⟩ : ∃ N, numAt s a = N := ⟨_, rfl⟩
  rw [hN] at HNum
  have HN : Hid (numAt s a = N) := hN
  clear hN
  go_enter Try.func13, Try.ntmps13
  go_wp2_with fail
  refine (HNum.out _).mono ?_
  rintro e w1 ⟨rfl, hb1⟩
  have hA1 : RecAt w1 w.heap.size 0 ⟨#[]⟩ 0 ⟨#[]⟩ 0 := (RecAt.mk5 w 0 ⟨#[]⟩ 0 ⟨#[]⟩ 0).below hb1 (by simp)
  have hw1 : Below w.heap.size w w1 := ((Below.refl _ w).alloc (Nat.le_refl _) _).trans (hb1.mono (by simp))
  clear hb1
  obtain ⟨c0, c1, c2, c3, c4, f0, f1, f2, f3, f4⟩ := hA1
  rw [ha] at hc h
  have y1 : IntKind.i64.wrap ((a : Int) + 63) = (a : Int) + 63 := wrap_i64_in _ (by omega) (by omega)
  have y2 : (0 : Int) ≤ (a : Int) + 63 := by omega
  have y3 : (a : Int) + 63 < (s.size : Int) := by omega
  have y4 : (((s[a + 63]'(by omega)).toNat : Int) == 67) = true := by rw [bget s (a + 63) (by omega), hc]; rfl
  have x1 : IntKind.i64.wrap ((a : Int) + 4) = (a : Int) + 4 := wrap_i64_in _ (by omega) (by omega)
  have x2 : (0 : Int) ≤ (a : Int) + 4 := by omega
  have x3 : (a : Int) + 4 < (s.size : Int) := by omega
  obtain ⟨b4, hb4⟩ : ∃ b, (s.data.toList.getD (a + 4) 0).toNat = b := ⟨_, rfl⟩
  have hb256 : b4 < 256 := by rw [← hb4]; exact UInt8.toNat_lt _
  have x4 : ((s[a + 4]'(by omega)).toNat : Int) = (b4 : Int) := by rw [bget s (a + 4) (by omega), hb4]
  have HNoN : Hid (∀ enc, ¬ IsNode s a enc) := fun enc hE => by
    have := hE.parts.2.1
    rw [hc] at this; cases this
  have HBc : Hid (∀ v root, IsCommit s a v root → root.size = b4 ∧ (N : Int) = v ∧ s.extract (a + 5) (a + 5 + b4) = root) := fun v root hE => by
    have hp := hE.parts
    rw [hb4] at hp
    refine ⟨hp.2.2.1.symm, ?_, ?_⟩
    · rw [← HN.out]; exact hp.2.1
    · rw [hp.2.2.1]; exact hp.2.2.2
  clear hb4
  by_cases h32 : 32 < b4
  · have x5 : decide ((32 : Int) < (b4 : Int)) = true := by simp; omega
    go_wp2_with fail
    have hA : RecAt w1 w.heap.size 0 ⟨#[]⟩ 0 ⟨#[]⟩ 0 := ⟨c0, c1, c2, c3, c4, f0, f1, f2, f3, f4⟩
    refine (hA.set5 0 ⟨#[]⟩ 0 ⟨#[]⟩ 0).ret rfl rfl ⟨.inr (.inr ⟨fun _ => ?_, rfl⟩), below5 hw1 (Nat.le_refl _) _ _ _ _ _⟩
    rw [show 64 * (m : Int).toNat = a by omega]
    exact ⟨HNoN.out, fun v root hE => by have := HBc.out v root hE; have := hE.2.2.1; omega⟩
  · have x5 : decide ((32 : Int) < (b4 : Int)) = false := by simp; omega
    have u1 : IntKind.i64.wrap ((a : Int) + 5) = (a : Int) + 5 := wrap_i64_in _ (by omega) (by omega)
    have u2 : IntKind.i64.wrap ((a : Int) + 5 + (b4 : Int)) = (a : Int) + 5 + (b4 : Int) := wrap_i64_in _ (by omega) (by omega)
    have u3 : (0 : Int) ≤ (a : Int) + 5 := by omega
    have u4 : (a : Int) + 5 ≤ (a : Int) + 5 + (b4 : Int) := by omega
    have u5 : (a : Int) + 5 + (b4 : Int) ≤ (s.size : Int) := by omega
    have u6 : IntKind.i64.wrap ((a : Int) + 64) = (a : Int) + 64 := wrap_i64_in _ (by omega) (by omega)
    have u7 : (0 : Int) ≤ (a : Int) := by omega
    have u8 : (a : Int) ≤ (a : Int) + 64 := by omega
    have u9 : (a : Int) + 64 ≤ (s.size : Int) := by omega
    go_upto_region 12 with fail
    obtain ⟨root, hroot⟩ : ∃ root, s.extract (a + 5) (a + 5 + b4) = root := ⟨_, rfl⟩
    have hrs : root.size = b4 := by rw [← hroot, ByteArray.size_extract]; omega
    rw [hroot] at HBc ⊢
    obtain ⟨t, ht⟩ : ∃ t, commitRec (N : Int) root = t := ⟨_, rfl⟩
    have HC : Hid (∀ w', Calls Try.prog 26 #[.int .i64 (N : Int), .string root] w' fun e w'' => e = .returned (.string t) ∧ Below w'.heap.size w' w'') := fun w' => (commitRec_any (N : Int) root w' (by omega)).mono (by rintro e w'' ⟨t', rfl, HT, hb⟩; exact ⟨by rw [HT.out, ht], hb⟩)
    have HT : Hid (commitRec (N : Int) root = t) := ht
    clear ht hroot
    obtain ⟨y, hy⟩ : ∃ y, s.extract a (a + 64) = y := ⟨_, rfl⟩
    have HY : Hid (s.extract a (a + 64) = y) := hy
    have Hlt : w.heap.size < w1.heap.size := World.block_lt_of_cell? w1 _ c0
    by_cases hty : t = y
    · have k1 : (t.toList == (s.extract a ((a : Int) + 64).toNat).toList) = true := by rw [show ((a : Int) + 64).toNat = a + 64 by omega, hy, hty]; simp
      have HTY : Hid (t = y) := hty
      clear hy hty
      go_region_held3 (fun _ => True) (exact trivial) (first | (go_at_call 26; refine (HC.out _).mono ?_; rintro e w2 ⟨rfl, hb2'⟩; have hb2 : Below w1.heap.size w1 w2 := (Below.refl w1.heap.size w1).drew.trans hb2'))
      have hA2 : RecAt w2 w.heap.size 0 ⟨#[]⟩ 0 ⟨#[]⟩ 0 := RecAt.below ⟨c0, c1, c2, c3, c4, f0, f1, f2, f3, f4⟩ hb2 Hlt
      have hw2 : Below w.heap.size w w2 := hw1.trans (hb2.mono hw1.size)
      clear c0 c1 c2 c3 c4 f0 f1 f2 f3 f4 hb2 hb2' hw1
      obtain ⟨c0, c1, c2, c3, c4, f0, f1, f2, f3, f4⟩ := hA2
      have v1 : IntKind.i64.wrap ((m : Int) + 1) = (m : Int) + 1 := wrap_i64_in _ (by omega) (by omega)
      go_wp2_with fail
      have hA : RecAt w2 w.heap.size 0 ⟨#[]⟩ 0 ⟨#[]⟩ 0 := ⟨c0, c1, c2, c3, c4, f0, f1, f2, f3, f4⟩
      refine (hA.set5 2 ⟨#[]⟩ (N : Int) root ((m : Int) + 1)).ret rfl rfl ⟨.inr (.inl ⟨(N : Int), root, by omega, ?_, rfl⟩), below5 hw2 (Nat.le_refl _) _ _ _ _ _⟩
      rw [show 64 * (m : Int).toNat = a by omega]
      have e1 : commitRec (N : Int) root = s.extract a (a + 64) := by rw [HT.out, HY.out, HTY.out]
      have hv : 1 ≤ (N : Int) ∧ (N : Int) ≤ 1000000 ∧ root.size ≤ 32 := by
        by_cases hcond : 1 ≤ (N : Int) ∧ (N : Int) ≤ 1000000 ∧ root.size ≤ 32
        · exact hcond
        · rw [commitRec, if_neg hcond] at e1
          have := congrArg ByteArray.size e1
          rw [ByteArray.size_extract] at this
          have e0 : (⟨#[]⟩ : ByteArray).size = 0 := rfl
          omega
      exact ⟨hv.1, hv.2.1, hv.2.2, h, e1.symm⟩
    · have k1 : (t.toList == (s.extract a ((a : Int) + 64).toNat).toList) = false := by rw [show ((a : Int) + 64).toNat = a + 64 by omega, hy]; exact str_ne hty
      have HTY : Hid (¬ t = y) := hty
      clear hy hty
      go_region_held3 (fun _ => True) (exact trivial) (first | (go_at_call 26; refine (HC.out _).mono ?_; rintro e w2 ⟨rfl, hb2'⟩; have hb2 : Below w1.heap.size w1 w2 := (Below.refl w1.heap.size w1).drew.trans hb2'))
      have hA2 : RecAt w2 w.heap.size 0 ⟨#[]⟩ 0 ⟨#[]⟩ 0 := RecAt.below ⟨c0, c1, c2, c3, c4, f0, f1, f2, f3, f4⟩ hb2 Hlt
      have hw2 : Below w.heap.size w w2 := hw1.trans (hb2.mono hw1.size)
      clear c0 c1 c2 c3 c4 f0 f1 f2 f3 f4 hb2 hb2' hw1
      obtain ⟨c0, c1, c2, c3, c4, f0, f1, f2, f3, f4⟩ := hA2
      go_wp2_with fail
      have hA : RecAt w2 w.heap.size 0 ⟨#[]⟩ 0 ⟨#[]⟩ 0 := ⟨c0, c1, c2, c3, c4, f0, f1, f2, f3, f4⟩
      refine (hA.set5 0 ⟨#[]⟩ 0 ⟨#[]⟩ 0).ret rfl rfl ⟨.inr (.inr ⟨fun _ => ?_, rfl⟩), below5 hw2 (Nat.le_refl _) _ _ _ _ _⟩
      rw [show 64 * (m : Int).toNat = a by omega]
      refine ⟨HNoN.out, fun v root' hE => HTY.out ?_⟩
      obtain ⟨_, q2, q3⟩ := HBc.out v root' hE
      rw [← HT.out, ← HY.out, q2, q3]
      exact hE.2.2.2.2.symm
end Go.Proofs.Ytglpjoandgbngab
