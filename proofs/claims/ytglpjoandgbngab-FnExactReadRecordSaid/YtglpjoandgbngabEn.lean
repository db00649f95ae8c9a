import Derived.Test.YtglpjoandgbngabEm
namespace Go.Proofs.Ytglpjoandgbngab
open Go.RowKit Go.Proofs.Sha

theorem un_len (s : ByteArray) (a : Nat) : ∀ q, a + 64 * q ≤ s.size → (unTo s a q).length = 63 * q
  | 0, _ => rfl
  | q + 1, h => by
    rw [unTo, List.length_append, un_len s a q (by omega)]
    show 63 * q + (s.extract (a + 64 * q) (a + 64 * q + 63)).size = _
    rw [ByteArray.size_extract]; omega

set_option maxRecDepth 100000 in
set_option maxHeartbeats 1000000 in
theorem read_n (s : ByteArray) (m : Nat) (w : World) (hs : s.size ≤ 1048576) (h : 64 * m + 64 ≤ s.size) (hc : ¬ s.data.toList.getD (64 * m + 63) 0 = 67) :
    Calls Try.prog 13 #[.string s, .int .i64 (m : Int)] w fun e w' => readPost s (m : Int) e ∧ Below w.heap.size w w' := by
  obtain ⟨a, ha⟩ : ∃ a, 64 * m = a := ⟨_, rfl⟩
  have z0 : decide ((m : Int) < 0) = false := by simp
  have z1 : decide ((s.size : Int) / 64 < (m : Int)) = false := by simp; omega
  have z2 : IntKind.i64.wrap ((m : Int) * 64) = (a : Int) := by rw [wrap_i64_in _ (by omega) (by omega)]; omega
  have z3 : IntKind.i64.wrap ((s.size : Int) - (a : Int)) = (s.size : Int) - (a : Int) := wrap_i64_in _ (by omega) (by omega)
  have z4 : decide ((s.size : Int) - (a : Int) < 64) = false := by simp; omega
  have HNum : Hid (∀ w', Calls Try.prog 25 #[.string s, .int .i64 (a : Int)] w' fun e w'' => e = .returned (.int .i64 (numAt s a : Int)) ∧ Below w'.heap.size w' w'') := fun w' => number_any s a w' hs (by omega)
  obtain ⟨N, hN⟩ : ∃ N, numAt s a = N := ⟨_, rfl⟩
  rw [hN] at HNum
  have HN : Hid (numAt s a = N) := hN
  clear hN
  go_enter Try.func13, Try.ntmps13
  go_wp2_with fail
  refine (HNum.out _).mono ?_
  rintro e w1 ⟨rfl, hb1⟩
  have hA1 : RecAt w1 w.heap.size 0 ⟨#[]⟩ 0 ⟨#[]⟩ 0 := (RecAt.mk5 w 0 ⟨#[]⟩ 0 ⟨#[]⟩ 0).below hb1 (by simp)
  have hw1 : Below w.heap.size w w1 := ((Below.refl _ w).alloc (Nat.le_refl _) _).trans (hb1.mono (by simp))
  have Hlt : w.heap.size < w1.heap.size := hA1.lt
  clear hb1
  obtain ⟨c0, c1, c2, c3, c4, f0, f1, f2, f3, f4⟩ := hA1
  rw [ha] at hc h
  have y1 : IntKind.i64.wrap ((a : Int) + 63) = (a : Int) + 63 := wrap_i64_in _ (by omega) (by omega)
  have y2 : (0 : Int) ≤ (a : Int) + 63 := by omega
  have y3 : (a : Int) + 63 < (s.size : Int) := by omega
  have y4 : (((s[a + 63]'(by omega)).toNat : Int) == 67) = false := by
    rw [bget s (a + 63) (by omega), beq_eq_false_iff_ne]
    intro hh
    exact hc (UInt8.toNat.inj (by show _ = 67; omega))
  have HNoC : Hid (∀ v root, ¬ IsCommit s a v root) := fun v root hE => hc hE.parts.1
  have HBn : Hid (∀ enc, IsNode s a enc → enc.size = N ∧ (T (unTo s a (secs N))).extract 4 (4 + N) = enc) := fun enc hE => by
    obtain ⟨_, _, p3, p4⟩ := hE.parts
    rw [HN.out] at p3 p4
    exact ⟨p3.symm, p4⟩
  have HZ : Hid (∀ (W : World) (A : Act), RecAt W w.heap.size 0 ⟨#[]⟩ 0 ⟨#[]⟩ 0 → Below w.heap.size w W → (∀ enc, ¬ IsNode s a enc) → A.tmps.getD 4 undef = .pointer (some ⟨w.heap.size, 0, none⟩) → A.defers = [] → bodyPost Try.prog Try.f13 (fun e w' => readPost s (m : Int) e ∧ Below w.heap.size w w') .ret A
      (((((W.setCell ⟨w.heap.size, 0, none⟩ (.int .i64 0)).setCell ⟨w.heap.size, 1, none⟩ (.string ⟨#[]⟩)).setCell ⟨w.heap.size, 2, none⟩ (.int .i64 0)).setCell ⟨w.heap.size, 3, none⟩ (.string ⟨#[]⟩)).setCell ⟨w.heap.size, 4, none⟩ (.int .i64 0))) := by
    intro W A hA hB hno h4 hd
    refine (hA.set5 0 ⟨#[]⟩ 0 ⟨#[]⟩ 0).ret h4 hd ⟨.inr (.inr ⟨fun _ => ?_, rfl⟩), below5 hB (Nat.le_refl _) _ _ _ _ _⟩
    rw [show 64 * (m : Int).toNat = a by omega]
    exact ⟨hno, HNoC.out⟩
  clear hc
  by_cases hN1 : N < 1
  · have t1 : decide ((N : Int) < 1) = true := by simp; omega
    go_wp2_with fail
    exact HZ.out w1 _ ⟨c0, c1, c2, c3, c4, f0, f1, f2, f3, f4⟩ hw1 (fun enc hE => by have := HBn.out enc hE; have := hE.1; omega) rfl rfl
  have t1 : decide ((N : Int) < 1) = false := by simp; omega
  by_cases hN2 : 4000 < N
  · have t2 : decide ((4000 : Int) < (N : Int)) = true := by simp; omega
    go_wp2_with fail
    exact HZ.out w1 _ ⟨c0, c1, c2, c3, c4, f0, f1, f2, f3, f4⟩ hw1 (fun enc hE => by have := HBn.out enc hE; have := hE.2.1; omega) rfl rfl
  have t2 : decide ((4000 : Int) < (N : Int)) = false := by simp; omega
  obtain ⟨q, hq⟩ : ∃ q, secs N = q := ⟨_, rfl⟩
  have hq1 : 1 ≤ q ∧ q ≤ 65 ∧ N + 4 ≤ 63 * q := by rw [← hq]; unfold secs; omega
  have t3 : IntKind.i64.wrap ((N : Int) + 4) = (N : Int) + 4 := wrap_i64_in _ (by omega) (by omega)
  have t4 : IntKind.i64.wrap ((N : Int) + 4 + 62) = (N : Int) + 4 + 62 := wrap_i64_in _ (by omega) (by omega)
  have t4' : IntKind.i64.wrap ((N : Int) + 66) = (N : Int) + 66 := wrap_i64_in _ (by omega) (by omega)
  have t5 : ((N : Int) + 4 + 62) / 63 = (q : Int) := by rw [← hq]; unfold secs; omega
  have t5' : ((N : Int) + 66) / 63 = (q : Int) := by rw [← hq]; unfold secs; omega
  have t6 : IntKind.i64.wrap ((q : Int) * 64) = (q : Int) * 64 := wrap_i64_in _ (by omega) (by omega)
  have t7 : IntKind.i64.wrap ((a : Int) + (q : Int) * 64) = (a : Int) + (q : Int) * 64 := wrap_i64_in _ (by omega) (by omega)
  rw [hq] at HBn
  have HQ : Hid (secs N = q) := hq
  clear hq
  by_cases hq2 : s.size < a + 64 * q
  · have t8 : decide ((s.size : Int) < (a : Int) + (q : Int) * 64) = true := by simp; omega
    go_wp2_with fail
    refine HZ.out w1 _ ⟨c0, c1, c2, c3, c4, f0, f1, f2, f3, f4⟩ hw1 (fun enc hE => ?_) rfl rfl
    have h1 := (HBn.out enc hE).1
    have h2 := hE.2.2.1
    rw [h1] at h2
    have h3 := HQ.out
    omega
  have t8 : decide ((s.size : Int) < (a : Int) + (q : Int) * 64) = false := by simp; omega
  go_wp2_with fail
  refine (un_any s a q _ hs (by omega)).mono ?_
  rintro e w2 ⟨x, rfl, HX, hb2⟩
  have hxs : x.size = 63 * q := by
    rw [HX.out, T_size]
    exact un_len s a q (by omega)
  have hA2 : RecAt w2 w.heap.size 0 ⟨#[]⟩ 0 ⟨#[]⟩ 0 := RecAt.below ⟨c0, c1, c2, c3, c4, f0, f1, f2, f3, f4⟩ hb2 Hlt
  have hw2 : Below w.heap.size w w2 := hw1.trans (hb2.mono hw1.size)
  have Hlt2 : w.heap.size < w2.heap.size := hA2.lt
  clear c0 c1 c2 c3 c4 f0 f1 f2 f3 f4 hb2 hw1 Hlt
  have u1 : IntKind.i64.wrap (4 + (N : Int)) = 4 + (N : Int) := wrap_i64_in _ (by omega) (by omega)
  have u2 : (4 : Int) ≤ 4 + (N : Int) := by omega
  have u3 : 4 + (N : Int) ≤ (x.size : Int) := by omega
  have u4 : (0 : Int) ≤ (a : Int) := by omega
  have u5 : (a : Int) ≤ (a : Int) + (q : Int) * 64 := by omega
  have u6 : (a : Int) + (q : Int) * 64 ≤ (s.size : Int) := by omega
  go_upto_region 21 with fail
  obtain ⟨enc, henc⟩ : ∃ enc, x.extract 4 (4 + N) = enc := ⟨_, rfl⟩
  have hes : enc.size = N := by rw [← henc, ByteArray.size_extract]; omega
  have HBn' : Hid (∀ enc', IsNode s a enc' → enc' = enc) := fun enc' hE => by
    rw [← (HBn.out enc' hE).2, ← HX.out, henc]
  rw [henc]
  obtain ⟨t, ht⟩ : ∃ t, nodeRec enc = t := ⟨_, rfl⟩
  have HC : Hid (∀ w', Calls Try.prog 28 #[.string enc] w' fun e w'' => e = .returned (.string t) ∧ Below w'.heap.size w' w'') := fun w' => (nodeRec_any enc w' (by omega)).mono (by rintro e w'' ⟨t', rfl, HT, hb⟩; exact ⟨by rw [HT.out, ht], hb⟩)
  have HT : Hid (nodeRec enc = t) := ht
  clear ht henc
  have e64 : ((a : Int) + (q : Int) * 64).toNat = a + 64 * q := by omega
  obtain ⟨y, hy⟩ : ∃ y, s.extract a (a + 64 * q) = y := ⟨_, rfl⟩
  have HY : Hid (s.extract a (a + 64 * q) = y) := hy
  by_cases hty : t = y
  · have k1 : (t.toList == (s.extract a ((a : Int) + (q : Int) * 64).toNat).toList) = true := by rw [e64, hy, hty]; simp
    have HTY : Hid (t = y) := hty
    clear hy hty e64
    go_region_held3 (fun _ => True) (exact trivial) (first | (go_at_call 28; refine (HC.out _).mono ?_; rintro e w3 ⟨rfl, hb3'⟩; have hb3 : Below w2.heap.size w2 w3 := (Below.refl w2.heap.size w2).drew.trans hb3'))
    have hA3 : RecAt w3 w.heap.size 0 ⟨#[]⟩ 0 ⟨#[]⟩ 0 := hA2.below hb3 Hlt2
    have hw3 : Below w.heap.size w w3 := hw2.trans (hb3.mono hw2.size)
    clear hb3 hb3' hw2 hA2
    obtain ⟨c0, c1, c2, c3, c4, f0, f1, f2, f3, f4⟩ := hA3
    have v1 : IntKind.i64.wrap ((m : Int) + (q : Int)) = (m : Int) + (q : Int) := wrap_i64_in _ (by omega) (by omega)
    go_wp2_with fail
    have hA : RecAt w3 w.heap.size 0 ⟨#[]⟩ 0 ⟨#[]⟩ 0 := ⟨c0, c1, c2, c3, c4, f0, f1, f2, f3, f4⟩
    refine (hA.set5 1 enc 0 ⟨#[]⟩ ((m : Int) + (q : Int))).ret rfl rfl ⟨.inl ⟨enc, by omega, ?_, ?_⟩, below5 hw3 (Nat.le_refl _) _ _ _ _ _⟩
    · rw [show 64 * (m : Int).toNat = a by omega]
      refine ⟨by omega, by omega, by rw [hes, HQ.out]; omega, ?_⟩
      rw [hes, HQ.out, HY.out, ← HTY.out, ← HT.out]
    · rw [hes, HQ.out]
  · have k1 : (t.toList == (s.extract a ((a : Int) + (q : Int) * 64).toNat).toList) = false := by rw [e64, hy]; exact str_ne hty
    have HTY : Hid (¬ t = y) := hty
    clear hy hty e64
    go_region_held3 (fun _ => True) (exact trivial) (first | (go_at_call 28; refine (HC.out _).mono ?_; rintro e w3 ⟨rfl, hb3'⟩; have hb3 : Below w2.heap.size w2 w3 := (Below.refl w2.heap.size w2).drew.trans hb3'))
    have hA3 : RecAt w3 w.heap.size 0 ⟨#[]⟩ 0 ⟨#[]⟩ 0 := hA2.below hb3 Hlt2
    have hw3 : Below w.heap.size w w3 := hw2.trans (hb3.mono hw2.size)
    clear hb3 hb3' hw2 hA2
    obtain ⟨c0, c1, c2, c3, c4, f0, f1, f2, f3, f4⟩ := hA3
    go_wp2_with fail
    refine HZ.out w3 _ ⟨c0, c1, c2, c3, c4, f0, f1, f2, f3, f4⟩ hw3 (fun enc' hE => HTY.out ?_) rfl rfl
    have h1 := HBn'.out enc' hE
    subst h1
    have h2 := hE.2.2.2
    rw [hes, HQ.out] at h2
    rw [← HT.out, ← HY.out, h2]

theorem read_any (s : ByteArray) (n : Int) (w : World) (hs : s.size ≤ 1048576) :
    Calls Try.prog 13 #[.string s, .int .i64 n] w fun e w' => readPost s n e ∧ Below w.heap.size w w' := by
  by_cases h : n < 0 ∨ (s.size : Int) / 64 < n ∨ (s.size : Int) - 64 * n < 64
  · exact read_no s n w hs h
  · obtain ⟨m, rfl⟩ := Int.eq_ofNat_of_zero_le (show 0 ≤ n by omega)
    by_cases hc : s.data.toList.getD (64 * m + 63) 0 = 67
    · exact read_c s m w hs (by omega) hc
    · exact read_n s m w hs (by omega) hc
end Go.Proofs.Ytglpjoandgbngab
