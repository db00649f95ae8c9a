import Derived.Test.YthopecgcpfhceaaKc
namespace Go.Proofs.Ythopecgcpfhceaa
open Go.RowKit Go.Proofs.Sha

/-- What DiskCut answers. -/
def cutR (st now : ByteArray) (cap : Int) (n : Int) : ByteArray × ByteArray × Int × Int :=
  if diskOk st now cap then if 0 ≤ n ∧ n ≤ (now.size : Int) then (now.extract 0 n.toNat, now.extract 0 n.toNat, cap, 0) else (⟨#[]⟩, ⟨#[]⟩, 0, 9) else (⟨#[]⟩, ⟨#[]⟩, 0, 9)
theorem cutR_sync (st now : ByteArray) (cap : Int) : cutR st now cap (now.size : Int) = if diskOk st now cap then (now, now, cap, 0) else (⟨#[]⟩, ⟨#[]⟩, 0, 9) := by
  unfold cutR
  rw [if_pos (show (0 : Int) ≤ (now.size : Int) ∧ (now.size : Int) ≤ (now.size : Int) by omega), Int.toNat_natCast, ByteArray.extract_zero_size]

set_option maxRecDepth 100000 in
theorem app_spec (st now s : ByteArray) (cap : Int) (w : World) (h1 : st.size ≤ 1048576) (h2 : now.size ≤ 1048576) (h3 : s.size ≤ 1048576) :
    Calls Try.prog 13 #[.agg #[.string st, .string now, .int .i64 cap], .string s] w fun e w' => e = .returned (.tuple #[.agg #[.string (appR st now cap s).1, .string (appR st now cap s).2.1, .int .i64 (appR st now cap s).2.2.1], .int .i64 (appR st now cap s).2.2.2]) ∧ Below w.heap.size w w' := by
  obtain ⟨b, hb⟩ : ∃ b, diskOk st now cap = b := ⟨_, rfl⟩
  have HO : Hid (∀ w', Calls Try.prog 27 #[.agg #[.string st, .string now, .int .i64 cap]] w' fun e w'' => e = .returned (.bool b) ∧ Below w'.heap.size w' w'') := fun w' => by rw [← hb]; exact ok_spec st now cap w' h1 h2
  have f3 : ¬ (9223372036854775807 < now.size + s.size) := by omega
  cases b with
  | false =>
    have hr : appR st now cap s = (⟨#[]⟩, ⟨#[]⟩, 0, 9) := by unfold appR; rw [if_neg (by rw [hb]; decide)]
    rw [hr]
    clear hr hb
    go_enter Try.func13, Try.ntmps13
    go_wp2_with fail
    refine (HO.out _).mono ?_
    rintro e w1 ⟨rfl, hb1⟩
    have hS := (D2.mk0 w st now cap).below hb1
    clear hb1
    obtain ⟨ga, hga⟩ : ∃ ga, w.heap.size = ga := ⟨_, rfl⟩
    obtain ⟨gb, hgb⟩ : ∃ gb, w.heap.size + 1 = gb := ⟨_, rfl⟩
    rw [hgb, hga]
    rw [hgb, hga] at hS
    clear hga hgb
    obtain ⟨c0, c1, c2, f0, f1, f2⟩ := hS.nb.at
    obtain ⟨a0, a1, a2, _, _, _⟩ := hS.na.at
    have hne : ga ≠ gb := by have := hS.nx; omega
    go_wp2_with fail
    exact retD Try.results13 rfl rfl rfl (hS.all _ _ _).nb ⟨rfl, (hS.all _ _ _).fin⟩
  | true =>
    obtain ⟨k1, k2, k3, hpre⟩ := diskOk_some hb
    have hr : appR st now cap s = if cap < (now.size : Int) + (s.size : Int) then (st, now, cap, 1) else (st, now ++ s, cap, 0) := by unfold appR; rw [if_pos hb]
    rw [hr]
    clear hr hb hpre
    by_cases hf : cap < (now.size : Int) + (s.size : Int)
    · rw [if_pos hf]
      have z1 : decide (cap < (now.size : Int) + (s.size : Int)) = true := by simp; omega
      go_enter Try.func13, Try.ntmps13
      go_wp2_with fail
      refine (HO.out _).mono ?_
      rintro e w1 ⟨rfl, hb1⟩
      have hS := (D2.mk0 w st now cap).below hb1
      clear hb1
      obtain ⟨ga, hga⟩ : ∃ ga, w.heap.size = ga := ⟨_, rfl⟩
      obtain ⟨gb, hgb⟩ : ∃ gb, w.heap.size + 1 = gb := ⟨_, rfl⟩
      rw [hgb, hga]
      rw [hgb, hga] at hS
      clear hga hgb
      obtain ⟨c0, c1, c2, f0, f1, f2⟩ := hS.nb.at
      obtain ⟨a0, a1, a2, _, _, _⟩ := hS.na.at
      have hne : ga ≠ gb := by have := hS.nx; omega
      go_wp2_with fail
      exact retD Try.results13 rfl rfl rfl (hS.all _ _ _).nb ⟨rfl, (hS.all _ _ _).fin⟩
    · rw [if_neg hf]
      have z1 : decide (cap < (now.size : Int) + (s.size : Int)) = false := by simp; omega
      go_enter Try.func13, Try.ntmps13
      go_wp2_with fail
      refine (HO.out _).mono ?_
      rintro e w1 ⟨rfl, hb1⟩
      have hS := (D2.mk0 w st now cap).below hb1
      clear hb1
      obtain ⟨ga, hga⟩ : ∃ ga, w.heap.size = ga := ⟨_, rfl⟩
      obtain ⟨gb, hgb⟩ : ∃ gb, w.heap.size + 1 = gb := ⟨_, rfl⟩
      rw [hgb, hga]
      rw [hgb, hga] at hS
      clear hga hgb
      obtain ⟨c0, c1, c2, f0, f1, f2⟩ := hS.nb.at
      obtain ⟨a0, a1, a2, _, _, _⟩ := hS.na.at
      have hne : ga ≠ gb := by have := hS.nx; omega
      go_wp2_with fail
      exact retD Try.results13 rfl rfl rfl (hS.all _ _ _).nb ⟨rfl, (hS.all _ _ _).fin⟩

set_option maxRecDepth 100000 in
theorem sync_spec (st now : ByteArray) (cap : Int) (w : World) (h1 : st.size ≤ 1048576) (h2 : now.size ≤ 1048576) :
    Calls Try.prog 17 #[.agg #[.string st, .string now, .int .i64 cap]] w fun e w' => e = .returned (.tuple #[.agg #[.string (cutR st now cap (now.size : Int)).1, .string (cutR st now cap (now.size : Int)).2.1, .int .i64 (cutR st now cap (now.size : Int)).2.2.1], .int .i64 (cutR st now cap (now.size : Int)).2.2.2]) ∧ Below w.heap.size w w' := by
  obtain ⟨b, hb⟩ : ∃ b, diskOk st now cap = b := ⟨_, rfl⟩
  have HO : Hid (∀ w', Calls Try.prog 27 #[.agg #[.string st, .string now, .int .i64 cap]] w' fun e w'' => e = .returned (.bool b) ∧ Below w'.heap.size w' w'') := fun w' => by rw [← hb]; exact ok_spec st now cap w' h1 h2
  rw [cutR_sync, hb]
  clear hb
  cases b with
  | false =>
    rw [if_neg (by decide)]
    go_enter Try.func17, Try.ntmps17
    go_wp2_with fail
    refine (HO.out _).mono ?_
    rintro e w1 ⟨rfl, hb1⟩
    have hS := (D2.mk0 w st now cap).below hb1
    clear hb1
    obtain ⟨ga, hga⟩ : ∃ ga, w.heap.size = ga := ⟨_, rfl⟩
    obtain ⟨gb, hgb⟩ : ∃ gb, w.heap.size + 1 = gb := ⟨_, rfl⟩
    rw [hgb, hga]
    rw [hgb, hga] at hS
    clear hga hgb
    obtain ⟨c0, c1, c2, f0, f1, f2⟩ := hS.nb.at
    obtain ⟨a0, a1, a2, _, _, _⟩ := hS.na.at
    have hne : ga ≠ gb := by have := hS.nx; omega
    go_wp2_with fail
    exact retD Try.results17 rfl rfl rfl (hS.all _ _ _).nb ⟨rfl, (hS.all _ _ _).fin⟩
  | true =>
    rw [if_pos rfl]
    go_enter Try.func17, Try.ntmps17
    go_wp2_with fail
    refine (HO.out _).mono ?_
    rintro e w1 ⟨rfl, hb1⟩
    have hS := (D2.mk0 w st now cap).below hb1
    clear hb1
    obtain ⟨ga, hga⟩ : ∃ ga, w.heap.size = ga := ⟨_, rfl⟩
    obtain ⟨gb, hgb⟩ : ∃ gb, w.heap.size + 1 = gb := ⟨_, rfl⟩
    rw [hgb, hga]
    rw [hgb, hga] at hS
    clear hga hgb
    obtain ⟨c0, c1, c2, f0, f1, f2⟩ := hS.nb.at
    obtain ⟨a0, a1, a2, _, _, _⟩ := hS.na.at
    have hne : ga ≠ gb := by have := hS.nx; omega
    go_wp2_with fail
    exact retD Try.results17 rfl rfl rfl (hS.all _ _ _).nb ⟨rfl, (hS.all _ _ _).fin⟩

end Go.Proofs.Ythopecgcpfhceaa
