import Derived.Test.YthopecgcpfhceaaSl1
import Derived.Test.YthopecgcpfhceaaM
import Derived.WalkSpells
import Derived.WalkLawsBesides
import Derived.StillTactics
import Derived.Laws.Pointers
import Derived.Lib.Strings
import Derived.Deep.RegionHeld3
namespace Go.Proofs.Ythopecgcpfhceaa
open Go.RowKit Go.Proofs.Sha

/-- A valid disk. -/
def diskOk (st now : ByteArray) (cap : Int) : Bool := decide ((now.size : Int) ≤ cap) && (decide (cap ≤ 1048576) && Lib.hasPrefix now.data.toList st.data.toList)

theorem prefix_le {st now : ByteArray} (h : Lib.hasPrefix now.data.toList st.data.toList = true) : st.size ≤ now.size := by
  rw [← Lib.hasPrefix_raw, Bool.and_eq_true, decide_eq_true_eq] at h
  exact h.1
theorem prefix_of {st now : ByteArray} (h : Lib.hasPrefix now.data.toList st.data.toList = true) : ∃ t, now = st ++ t := by
  obtain ⟨t, ht⟩ := List.isPrefixOf_iff_prefix.1 h
  refine ⟨⟨t.toArray⟩, ?_⟩
  apply ByteArray.ext
  rw [ByteArray.data_append, ← Array.toList_inj, Array.toList_append, ← ht]
theorem extract_front (st t : ByteArray) : (st ++ t).extract 0 st.size = st := by
  exact ByteArray.extract_append_eq_left rfl
theorem diskOk_some {st now : ByteArray} {cap : Int} (h : diskOk st now cap = true) : (now.size : Int) ≤ cap ∧ cap ≤ 1048576 ∧ st.size ≤ now.size ∧ ∃ t, now = st ++ t := by
  unfold diskOk at h
  simp only [Bool.and_eq_true, decide_eq_true_eq] at h
  exact ⟨h.1, h.2.1, prefix_le h.2.2, prefix_of h.2.2⟩

theorem clone_any (s : ByteArray) (w : World) (h : s.size ≤ 1048576) :
    Calls Try.prog 31 #[.string s] w fun e w' => e = .returned (.string s) ∧ Below w.heap.size w w' := by
  go_enter Try.func31, Try.ntmps31
  go_wp2_with (first | (go_at_call 36; refine (Try.stringslite_Clone s _ (by omega)).mono ?_; rintro e w1 ⟨rfl, hb⟩))
  go_ret
  exact ⟨rfl, hb⟩

set_option maxRecDepth 100000 in
theorem ok_impl (st now : ByteArray) (cap : Int) (w : World) :
    Calls Try.prog 28 #[.agg #[.string st, .string now, .int .i64 cap]] w fun e w' => e = .returned (.bool (diskOk st now cap)) ∧ Below w.heap.size w w' := by
  go_enter Try.func28, Try.ntmps28
  go_wp2_with (first | (go_at_call 35; refine (Try.strings_HasPrefix _ _ _).mono ?_; rintro e w1 ⟨rfl, rfl⟩))
  all_goals go_ret
  all_goals refine ⟨?_, (Below.refl _ _).alloc (Nat.le_refl _) _⟩
  all_goals refine congrArg (fun b => Ending.returned (.bool b)) (?_ : _ = diskOk st now cap)
  all_goals unfold diskOk
  · rename_i h1 h2
    rw [decide_eq_true h1, decide_eq_true h2, Bool.true_and, Bool.true_and]
  · rename_i h1 h2
    rw [decide_eq_false (show ¬ cap ≤ 1048576 by omega), Bool.false_and, Bool.and_false]
  · rename_i h1
    rw [decide_eq_false (show ¬ (now.size : Int) ≤ cap by omega), Bool.false_and]

set_option maxRecDepth 100000 in
theorem ok_spec (st now : ByteArray) (cap : Int) (w : World) (_h1 : st.size ≤ 1048576) (h2 : now.size ≤ 1048576) :
    Calls Try.prog 27 #[.agg #[.string st, .string now, .int .i64 cap]] w fun e w' => e = .returned (.bool (diskOk st now cap)) ∧ Below w.heap.size w w' := by
  have hq := Lib.hasPrefix_raw now st
  by_cases c1 : (now.size : Int) ≤ cap ∧ cap ≤ 1048576 ∧ st.size ≤ now.size
  · have z1 : decide (cap < 0) = false := by simp; omega
    have z2 : decide (1048576 < cap) = false := by simp; omega
    have z3 : decide (cap < (now.size : Int)) = false := by simp; omega
    have z4 : decide ((now.size : Int) < (st.size : Int)) = false := by simp; omega
    have hr : diskOk st now cap = ((now.extract 0 st.size).toList == st.toList) := by
      unfold diskOk
      rw [decide_eq_true c1.1, decide_eq_true c1.2.1, Bool.true_and, Bool.true_and, ← hq, decide_eq_true c1.2.2, Bool.true_and]
    rw [hr]
    have hle : st.size ≤ now.size := c1.2.2
    clear hq hr c1
    go_enter Try.func27, Try.ntmps27
    go_wp2_with fail
    go_region_held3 (fun W => W.cell? ⟨w.heap.size, 0, none⟩ = some (.string st) ∧ W.cell? ⟨w.heap.size, 1, none⟩ = some (.string now)) (exact ⟨by simp, by simp⟩) (fail)
    go_wp2_with fail
    go_ret
    exact ⟨rfl, ((Below.refl _ _).alloc (Nat.le_refl _) _).drew⟩
  · have hr : diskOk st now cap = false := by
      unfold diskOk
      by_cases d1 : (now.size : Int) ≤ cap
      · by_cases d2 : cap ≤ 1048576
        · rw [← hq, decide_eq_false (show ¬ st.size ≤ now.size by omega), Bool.false_and, Bool.and_false, Bool.and_false]
        · rw [decide_eq_false d2, Bool.false_and, Bool.and_false]
      · rw [decide_eq_false d1, Bool.false_and]
    rw [hr]
    clear hq hr
    go_enter Try.func27, Try.ntmps27
    go_wp2_with fail
    all_goals first | (exfalso; omega) | skip
    all_goals go_ret
    all_goals exact ⟨rfl, (Below.refl _ _).alloc (Nat.le_refl _) _⟩

set_option maxRecDepth 100000 in
theorem sz_disk (st now : ByteArray) (cap : Int) (w : World) (h1 : st.size ≤ 9223372036854775807) (h2 : now.size ≤ 9223372036854775807) :
    Calls Try.prog 12 #[.agg #[.string st, .string now, .int .i64 cap], .int .i64 1048576] w fun e w' => ∃ x : Int, e = .returned (.int .i64 x) ∧ Hid (0 ≤ x → st.size ≤ 1048576 ∧ now.size ≤ 1048576) ∧ Below w.heap.size w w' := by
  have hfin : Below w.heap.size w (w.alloc (.cells #[.string st, .string now, .int .i64 cap] 27)) := (Below.refl _ _).alloc (Nat.le_refl _) _
  go_enter Try.func12, Try.ntmps12
  go_wp2
  all_goals go_ret
  all_goals refine ⟨_, rfl, ?_, hfin⟩
  all_goals intro h0
  all_goals omega
theorem toDisk_any (st now : ByteArray) (cap : Int) (w : World) :
    Calls Try.prog 14 #[.agg #[.string st, .string now, .int .i64 cap]] w fun e w' => e = .returned (.agg #[.string st, .string now, .int .i64 cap]) ∧ Below w.heap.size w w' := by
  go_enter Try.func14, Try.ntmps14
  go_wp2
  refine bodyPost_ret (v := .agg #[.string st, .string now, .int .i64 cap]) ?_ rfl ⟨rfl, (((Below.refl _ _).alloc (Nat.le_refl _) _).alloc (by simp) _).alloc (by simp; omega) _⟩
  simp [results, Try.results14, go_sem, asAddr]
set_option maxRecDepth 100000 in
theorem eqDisk_same (st now : ByteArray) (cap : Int) (w : World) :
    Calls Try.prog 16 #[.agg #[.string st, .string now, .int .i64 cap], .agg #[.string st, .string now, .int .i64 cap]] w fun e w' => e = .returned (.bool true) ∧ Below w.heap.size w w' := by
  go_enter Try.func16, Try.ntmps16
  go_wp2_with fail
  go_ret
  refine ⟨rfl, ((Below.refl _ _).alloc (Nat.le_refl _) _).alloc (by simp) _⟩
theorem safe_any (t : ByteArray) (cap : Int) (w : World) :
    Calls Try.prog 30 #[.string t, .int .i64 cap] w fun e w' => e = .returned (.agg #[.string t, .string t, .int .i64 cap]) ∧ Below w.heap.size w w' := by
  go_enter Try.func30, Try.ntmps30
  go_wp2_with fail
  refine bodyPost_ret (v := .agg #[.string t, .string t, .int .i64 cap]) ?_ rfl ⟨rfl, (Below.refl _ _).alloc (Nat.le_refl _) _⟩
  simp [results, Try.results30, go_sem, asAddr]
end Go.Proofs.Ythopecgcpfhceaa
