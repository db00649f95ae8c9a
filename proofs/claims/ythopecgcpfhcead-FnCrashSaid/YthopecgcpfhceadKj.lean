import Derived.Test.YthopecgcpfhceadKi
import Derived.Deep.Cut
namespace Go.Proofs.Ythopecgcpfhcead
open Go.RowKit Go.Proofs.Sha

theorem clone_any (s : ByteArray) (w : World) (h : s.size ≤ 1048576) :
    Calls Try.prog 35 #[.string s] w fun e w' => e = .returned (.string s) ∧ Below w.heap.size w w' := by
  go_enter Try.func35, Try.ntmps35
  go_wp2_with (first | (go_at_call 49; refine (Try.stringslite_Clone s _ (by omega)).mono ?_; rintro e w1 ⟨rfl, hb⟩))
  go_ret
  exact ⟨rfl, hb⟩
/-- What DiskCut answers. -/
def cutR (st now : ByteArray) (cap : Int) (n : Int) : ByteArray × ByteArray × Int × Int :=
  if diskOk st now cap then if 0 ≤ n ∧ n ≤ (now.size : Int) then (now.extract 0 n.toNat, now.extract 0 n.toNat, cap, 0) else (⟨#[]⟩, ⟨#[]⟩, 0, 9) else (⟨#[]⟩, ⟨#[]⟩, 0, 9)
theorem cutR_sync (st now : ByteArray) (cap : Int) : cutR st now cap (now.size : Int) = if diskOk st now cap then (now, now, cap, 0) else (⟨#[]⟩, ⟨#[]⟩, 0, 9) := by
  unfold cutR
  rw [if_pos (show (0 : Int) ≤ (now.size : Int) ∧ (now.size : Int) ≤ (now.size : Int) by omega), Int.toNat_natCast, ByteArray.extract_zero_size]
set_option maxRecDepth 100000 in
theorem sync_spec (st now : ByteArray) (cap : Int) (w : World) (h1 : st.size ≤ 1048576) (h2 : now.size ≤ 1048576) :
    Calls Try.prog 14 #[.agg #[.string st, .string now, .int .i64 cap]] w fun e w' => e = .returned (.tuple #[.agg #[.string (cutR st now cap (now.size : Int)).1, .string (cutR st now cap (now.size : Int)).2.1, .int .i64 (cutR st now cap (now.size : Int)).2.2.1], .int .i64 (cutR st now cap (now.size : Int)).2.2.2]) ∧ Below w.heap.size w w' := by
  obtain ⟨b, hb⟩ : ∃ b, diskOk st now cap = b := ⟨_, rfl⟩
  have HO : Hid (∀ w', Calls Try.prog 29 #[.agg #[.string st, .string now, .int .i64 cap]] w' fun e w'' => e = .returned (.bool b) ∧ Below w'.heap.size w' w'') := fun w' => by rw [← hb]; exact ok_spec st now cap w' h1 h2
  rw [cutR_sync, hb]
  clear hb
  cases b with
  | false =>
    rw [if_neg (by decide)]
    go_enter Try.func14, Try.ntmps14
    go_wp2_with fail
    refine (HO.out _).mono ?_
    rintro e w1 ⟨rfl, hb1⟩
    have hS := (D2.mk0 w st now cap).below hb1
    clear hb1
    obtain ⟨ga, hga⟩ : ∃ ga, w.heap.size = ga := ⟨_, rfl⟩
    obtain ⟨gb, hgb⟩ : ∃ gb, w.heap.size + 1 = gb := ⟨_, rfl⟩
    rw [hgb, hga]
    rw [hgb, hga] at hS
    clear hga hgb
    obtain ⟨c0, c1, c2, f0, f1, f2⟩ := hS.nb.at
    obtain ⟨a0, a1, a2, _, _, _⟩ := hS.na.at
    have hne : ga ≠ gb := by have := hS.nx; omega
    go_wp2_with fail
    exact retD Try.results14 rfl rfl rfl (hS.all _ _ _).nb ⟨rfl, (hS.all _ _ _).fin⟩
  | true =>
    rw [if_pos rfl]
    go_enter Try.func14, Try.ntmps14
    go_wp2_with fail
    refine (HO.out _).mono ?_
    rintro e w1 ⟨rfl, hb1⟩
    have hS := (D2.mk0 w st now cap).below hb1
    clear hb1
    obtain ⟨ga, hga⟩ : ∃ ga, w.heap.size = ga := ⟨_, rfl⟩
    obtain ⟨gb, hgb⟩ : ∃ gb, w.heap.size + 1 = gb := ⟨_, rfl⟩
    rw [hgb, hga]
    rw [hgb, hga] at hS
    clear hga hgb
    obtain ⟨c0, c1, c2, f0, f1, f2⟩ := hS.nb.at
    obtain ⟨a0, a1, a2, _, _, _⟩ := hS.na.at
    have hne : ga ≠ gb := by have := hS.nx; omega
    go_wp2_with fail
    exact retD Try.results14 rfl rfl rfl (hS.all _ _ _).nb ⟨rfl, (hS.all _ _ _).fin⟩
set_option maxRecDepth 100000 in
theorem cut_impl (st now : ByteArray) (cap : Int) (n : Int) (w : World) (_h1 : st.size ≤ 1048576) (h2 : now.size ≤ 1048576) :
    Calls Try.prog 17 #[.agg #[.string st, .string now, .int .i64 cap], .int .i64 n] w fun e w' => e = .returned (.tuple #[.agg #[.string (cutR st now cap n).1, .string (cutR st now cap n).2.1, .int .i64 (cutR st now cap n).2.2.1], .int .i64 (cutR st now cap n).2.2.2]) ∧ Below w.heap.size w w' := by
  obtain ⟨b, hb⟩ : ∃ b, diskOk st now cap = b := ⟨_, rfl⟩
  have HO : Hid (∀ w', Calls Try.prog 30 #[.agg #[.string st, .string now, .int .i64 cap]] w' fun e w'' => e = .returned (.bool b) ∧ Below w'.heap.size w' w'') := fun w' => by rw [← hb]; exact ok_impl st now cap w'
  cases b with
  | false =>
    have hr : cutR st now cap n = (⟨#[]⟩, ⟨#[]⟩, 0, 9) := by unfold cutR; rw [if_neg (by rw [hb]; decide)]
    rw [hr]
    clear hr hb
    go_enter Try.func17, Try.ntmps17
    go_wp2_with fail
    refine (HO.out _).mono ?_
    rintro e w1 ⟨rfl, hb1⟩
    have hS := (D2.mk0 w st now cap).below hb1
    clear hb1
    obtain ⟨ga, hga⟩ : ∃ ga, w.heap.size = ga := ⟨_, rfl⟩
    obtain ⟨gb, hgb⟩ : ∃ gb, w.heap.size + 1 = gb := ⟨_, rfl⟩
    rw [hgb, hga]
    rw [hgb, hga] at hS
    clear hga hgb
    obtain ⟨c0, c1, c2, f0, f1, f2⟩ := hS.nb.at
    obtain ⟨a0, a1, a2, _, _, _⟩ := hS.na.at
    have hne : ga ≠ gb := by have := hS.nx; omega
    go_wp2_with fail
    exact retD Try.results17 rfl rfl rfl (hS.all _ _ _).nb ⟨rfl, (hS.all _ _ _).fin⟩
  | true =>
    have hr : cutR st now cap n = if 0 ≤ n ∧ n ≤ (now.size : Int) then (now.extract 0 n.toNat, now.extract 0 n.toNat, cap, 0) else (⟨#[]⟩, ⟨#[]⟩, 0, 9) := by unfold cutR; rw [if_pos hb]
    rw [hr]
    clear hr hb
    by_cases m1 : n < 0
    · rw [if_neg (by omega)]
      have z1 : decide (n < 0) = true := by simp; omega
      go_enter Try.func17, Try.ntmps17
      go_wp2_with fail
      refine (HO.out _).mono ?_
      rintro e w1 ⟨rfl, hb1⟩
      have hS := (D2.mk0 w st now cap).below hb1
      clear hb1
      obtain ⟨ga, hga⟩ : ∃ ga, w.heap.size = ga := ⟨_, rfl⟩
      obtain ⟨gb, hgb⟩ : ∃ gb, w.heap.size + 1 = gb := ⟨_, rfl⟩
      rw [hgb, hga]
      rw [hgb, hga] at hS
      clear hga hgb
      obtain ⟨c0, c1, c2, f0, f1, f2⟩ := hS.nb.at
      obtain ⟨a0, a1, a2, _, _, _⟩ := hS.na.at
      have hne : ga ≠ gb := by have := hS.nx; omega
      go_wp2_with fail
      exact retD Try.results17 rfl rfl rfl (hS.all _ _ _).nb ⟨rfl, (hS.all _ _ _).fin⟩
    by_cases m2 : (now.size : Int) < n
    · rw [if_neg (by omega)]
      have z1 : decide (n < 0) = false := by simp; omega
      have z2 : decide ((now.size : Int) < n) = true := by simp; omega
      go_enter Try.func17, Try.ntmps17
      go_wp2_with fail
      refine (HO.out _).mono ?_
      rintro e w1 ⟨rfl, hb1⟩
      have hS := (D2.mk0 w st now cap).below hb1
      clear hb1
      obtain ⟨ga, hga⟩ : ∃ ga, w.heap.size = ga := ⟨_, rfl⟩
      obtain ⟨gb, hgb⟩ : ∃ gb, w.heap.size + 1 = gb := ⟨_, rfl⟩
      rw [hgb, hga]
      rw [hgb, hga] at hS
      clear hga hgb
      obtain ⟨c0, c1, c2, f0, f1, f2⟩ := hS.nb.at
      obtain ⟨a0, a1, a2, _, _, _⟩ := hS.na.at
      have hne : ga ≠ gb := by have := hS.nx; omega
      go_wp2_with fail
      exact retD Try.results17 rfl rfl rfl (hS.all _ _ _).nb ⟨rfl, (hS.all _ _ _).fin⟩
    rw [if_pos (by omega)]
    have z1 : decide (n < 0) = false := by simp; omega
    have z2 : decide ((now.size : Int) < n) = false := by simp; omega
    obtain ⟨m, rfl⟩ := Int.eq_ofNat_of_zero_le (show 0 ≤ n by omega)
    have m3 : m ≤ now.size := by omega
    rw [Int.toNat_natCast]
    have hz : (now.extract 0 m).size ≤ 1048576 := by rw [ByteArray.size_extract]; omega
    have HC : Hid (∀ w', Calls Try.prog 35 #[.string (now.extract 0 m)] w' fun e w'' => e = .returned (.string (now.extract 0 m)) ∧ Below w'.heap.size w' w'') := fun w' => clone_any _ w' hz
    have HF : Hid (∀ w', Calls Try.prog 34 #[.string (now.extract 0 m), .int .i64 cap] w' fun e w'' => e = .returned (.agg #[.string (now.extract 0 m), .string (now.extract 0 m), .int .i64 cap]) ∧ Below w'.heap.size w' w'') := fun w' => safe_any _ cap w'
    go_enter Try.func17, Try.ntmps17
    go_wp2_with fail
    refine (HO.out _).mono ?_
    rintro e w1 ⟨rfl, hb1⟩
    have hS := (D2.mk0 w st now cap).below hb1
    clear hb1
    obtain ⟨ga, hga⟩ : ∃ ga, w.heap.size = ga := ⟨_, rfl⟩
    obtain ⟨gb, hgb⟩ : ∃ gb, w.heap.size + 1 = gb := ⟨_, rfl⟩
    rw [hgb, hga]
    rw [hgb, hga] at hS
    clear hga hgb
    obtain ⟨a0, a1, a2, _, _, _⟩ := hS.na.at
    obtain ⟨c0, c1, c2, f0, f1, f2⟩ := hS.nb.at
    have hne : ga ≠ gb := by have := hS.nx; omega
    go_wp2_with fail
    go_region_held3 (fun W => W.cell? ⟨ga, 1, none⟩ = some (.string now) ∧ W.cell? ⟨ga, 2, none⟩ = some (.int .i64 cap)) (first | exact ⟨a1, a2⟩ | exact ⟨p1, p2⟩ | exact ⟨s1, s2⟩ | exact ⟨(hS3.all _ _ _).na.at.c1, (hS3.all _ _ _).na.at.c2⟩)
      (first | (go_at_call 35; refine (HC.out _).mono ?_; rintro e w2 ⟨rfl, hb2⟩; have hS2 := hS.drew.below hb2; clear hb2; obtain ⟨p0, p1, p2, _, _, _⟩ := hS2.na.at; obtain ⟨q0, q1, q2, g0, g1, g2⟩ := hS2.nb.at) | (go_at_call 34; refine (HF.out _).mono ?_; rintro e w3 ⟨rfl, hb3⟩; have hS3 := hS2.below hb3; clear hb3; obtain ⟨s0, s1, s2, _, _, _⟩ := hS3.na.at; obtain ⟨r0, r1, r2, k0, k1, k2⟩ := hS3.nb.at))
    go_wp2_with fail
    exact retD Try.results17 rfl rfl rfl (hS3.all _ _ _).nb ⟨rfl, (hS3.all _ _ _).fin⟩
set_option maxRecDepth 100000 in
theorem sync_impl (st now : ByteArray) (cap : Int) (w : World) (h1 : st.size ≤ 1048576) (h2 : now.size ≤ 1048576) :
    Calls Try.prog 15 #[.agg #[.string st, .string now, .int .i64 cap]] w fun e w' => e = .returned (.tuple #[.agg #[.string (cutR st now cap (now.size : Int)).1, .string (cutR st now cap (now.size : Int)).2.1, .int .i64 (cutR st now cap (now.size : Int)).2.2.1], .int .i64 (cutR st now cap (now.size : Int)).2.2.2]) ∧ Below w.heap.size w w' := by
  have HC : Hid (∀ w', Calls Try.prog 17 #[.agg #[.string st, .string now, .int .i64 cap], .int .i64 (now.size : Int)] w' fun e w'' => e = .returned (.tuple #[.agg #[.string (cutR st now cap (now.size : Int)).1, .string (cutR st now cap (now.size : Int)).2.1, .int .i64 (cutR st now cap (now.size : Int)).2.2.1], .int .i64 (cutR st now cap (now.size : Int)).2.2.2]) ∧ Below w'.heap.size w' w'') := fun w' => cut_impl st now cap _ w' h1 h2
  obtain ⟨⟨x, y, z, c⟩, hr⟩ : ∃ r, cutR st now cap (now.size : Int) = r := ⟨_, rfl⟩
  rw [hr] at HC ⊢
  clear hr
  go_enter Try.func15, Try.ntmps15
  go_wp2_with fail
  refine (HC.out _).mono ?_
  rintro e w1 ⟨rfl, hb1⟩
  have hS := (D2.mk0 w st now cap).below hb1
  clear hb1
  obtain ⟨ga, hga⟩ : ∃ ga, w.heap.size = ga := ⟨_, rfl⟩
  obtain ⟨gb, hgb⟩ : ∃ gb, w.heap.size + 1 = gb := ⟨_, rfl⟩
  rw [hgb, hga]
  rw [hgb, hga] at hS
  clear hga hgb
  obtain ⟨c0, c1, c2, f0, f1, f2⟩ := hS.nb.at
  go_wp2_with fail
  exact retD Try.results15 rfl rfl rfl (hS.all _ _ _).nb ⟨rfl, (hS.all _ _ _).fin⟩
end Go.Proofs.Ythopecgcpfhcead
