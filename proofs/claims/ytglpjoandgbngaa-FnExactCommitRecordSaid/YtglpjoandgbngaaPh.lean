import Derived.Test.YtglpjoandgbngaaPg
namespace Go.Proofs.Ytglpjoandgbngaa
open Go.RowKit Go.Proofs.Sha

theorem of_list {t : ByteArray} {l : List UInt8} (h : t.data.toList = l) : t = T l := by rw [← h, T_of]

set_option maxRecDepth 100000 in
set_option maxHeartbeats 1000000 in
theorem nodeRec_impl (enc : ByteArray) (w : World) (hs : enc.size ≤ 1048576) :
    Calls Try.prog 6 #[.string enc] w fun e w' => ∃ t, e = .returned (.string t) ∧ Hid (t = nodeRec enc) ∧ Below w.heap.size w w' := by
  by_cases h : 1 ≤ enc.size ∧ enc.size ≤ 4000
  · have z1 : decide ((1 : Int) ≤ (enc.size : Int)) = true := by simp; omega
    have z2 : decide ((enc.size : Int) ≤ 4000) = true := by simp; omega
    have HC : Hid (∀ w', Calls Try.prog 12 #[.iface 33 (.agg #[]), .agg #[.int .i64 0, .string enc, .int .i64 0, .string ⟨#[]⟩, .int .i64 0]] w' fun e w'' => ∃ t : ByteArray, e = .returned (.string t) ∧ Hid (t.data.toList = marked (four enc.size ++ enc.data.toList) [83] [77]) ∧ Below w'.heap.size w' w'') := by
      intro w'
      refine written_R _ _ _ _ _ _ _ w' ?_
      intro b' w'' h''
      refine wR33 _ _ _ _ _ b' [] _ w'' h'' ?_
      intro w3 h3
      exact nodeRec_put b' enc _ _ _ _ [] w3 h3 (by simp) h.2
    have HR : Hid (nodeRec enc = T (marked (four enc.size ++ enc.data.toList) [83] [77])) := by show nodeRec enc = _; rw [nodeRec, if_pos h]
    obtain ⟨m, hm⟩ : ∃ m, marked (four enc.size ++ enc.data.toList) [83] [77] = m := ⟨_, rfl⟩
    rw [hm] at HC HR
    clear hm
    go_enter Try.func6, Try.ntmps6
    go_wp2_with (first | (go_at_call 12; refine (HC.out _).mono ?_; rintro e w2 ⟨t, rfl, HT, hb2⟩) | go_in)
    go_ret
    exact ⟨t, rfl, (of_list HT.out).trans HR.out.symm, hb2⟩
  · have HR : Hid (nodeRec enc = ⟨#[]⟩) := by show nodeRec enc = _; rw [nodeRec, if_neg h]
    by_cases h1 : 1 ≤ enc.size
    · have z1 : decide ((1 : Int) ≤ (enc.size : Int)) = true := by simp; omega
      have z2 : decide ((enc.size : Int) ≤ 4000) = false := by simp; omega
      go_enter Try.func6, Try.ntmps6
      go_wp2
      go_ret
      exact ⟨_, rfl, HR.out.symm, Below.refl _ _⟩
    · have z1 : decide ((1 : Int) ≤ (enc.size : Int)) = false := by simp; omega
      go_enter Try.func6, Try.ntmps6
      go_wp2
      go_ret
      exact ⟨_, rfl, HR.out.symm, Below.refl _ _⟩

set_option maxRecDepth 100000 in
set_option maxHeartbeats 1000000 in
theorem commitRec_impl (v : Int) (root : ByteArray) (w : World) (hs : root.size ≤ 1048576) :
    Calls Try.prog 8 #[.int .i64 v, .string root] w fun e w' => ∃ t, e = .returned (.string t) ∧ Hid (t = commitRec v root) ∧ Below w.heap.size w w' := by
  by_cases h : 1 ≤ v ∧ v ≤ 1000000 ∧ root.size ≤ 32
  · obtain ⟨n, rfl⟩ := Int.eq_ofNat_of_zero_le (show 0 ≤ v by omega)
    have z1 : decide ((1 : Int) ≤ (n : Int)) = true := by simp; omega
    have z2 : decide ((n : Int) ≤ 1000000) = true := by simp; omega
    have z3 : decide ((root.size : Int) ≤ 32) = true := by simp; omega
    obtain ⟨m, hm⟩ : ∃ m, marked (four n ++ [UInt8.ofNat root.size] ++ root.data.toList) [67] [] = m := ⟨_, rfl⟩
    have HC : Hid (∀ w', Calls Try.prog 12 #[.iface 34 (.agg #[]), .agg #[.int .i64 0, .string ⟨#[]⟩, .int .i64 (n : Int), .string root, .int .i64 0]] w' fun e w'' => ∃ t : ByteArray, e = .returned (.string t) ∧ Hid (t.data.toList = m) ∧ Below w'.heap.size w' w'') := by
      intro w'
      refine written_R _ _ _ _ _ _ _ w' ?_
      intro b' w'' h''
      refine wR34 _ _ _ _ _ b' [] _ w'' h'' ?_
      intro w3 h3
      have := commitRec_put b' n root (.int .i64 0) (.string ⟨#[]⟩) (.int .i64 0) [] w3 h3 (by simp) (by omega) h.2.2
      have hlen : (four n ++ [UInt8.ofNat root.size] ++ root.data.toList).length = 5 + root.size := by rw [List.length_append, List.length_append]; rfl
      rw [List.nil_append, four_numTo, ← marked_one _ _ [] (by omega) (by omega), hm] at this
      exact this
    have HR : Hid (commitRec (n : Int) root = T m) := by show commitRec _ root = _; rw [commitRec, if_pos h, Int.toNat_natCast, hm]
    clear hm
    go_enter Try.func8, Try.ntmps8
    go_wp2_with (first | (go_at_call 12; refine (HC.out _).mono ?_; rintro e w2 ⟨t, rfl, HT, hb2⟩) | go_in)
    go_ret
    exact ⟨t, rfl, (of_list HT.out).trans HR.out.symm, hb2⟩
  · have HR : Hid (commitRec v root = ⟨#[]⟩) := by show commitRec v root = _; rw [commitRec, if_neg h]
    by_cases h1 : 1 ≤ v
    · have z1 : decide ((1 : Int) ≤ v) = true := by simp; omega
      by_cases h2 : v ≤ 1000000
      · have z2 : decide (v ≤ 1000000) = true := by simp; omega
        have z3 : decide ((root.size : Int) ≤ 32) = false := by simp; omega
        go_enter Try.func8, Try.ntmps8
        go_wp2
        go_ret
        exact ⟨_, rfl, HR.out.symm, Below.refl _ _⟩
      · have z2 : decide (v ≤ 1000000) = false := by simp; omega
        go_enter Try.func8, Try.ntmps8
        go_wp2
        go_ret
        exact ⟨_, rfl, HR.out.symm, Below.refl _ _⟩
    · have z1 : decide ((1 : Int) ≤ v) = false := by simp; omega
      go_enter Try.func8, Try.ntmps8
      go_wp2
      go_ret
      exact ⟨_, rfl, HR.out.symm, Below.refl _ _⟩

set_option maxRecDepth 100000 in
theorem law_node (s : ByteArray) (w : World) (hm : s.size ≤ maxLen) :
    Calls Try.prog 3 #[.string s] w fun e w' => e = .returned (.bool true) ∧ Below w.heap.size w w' := by
  unfold maxLen at hm
  by_cases hs : 1048576 < s.size
  · go_enter Try.func3, Try.ntmps3
    go_wp2_with fail
    go_ret
    exact ⟨rfl, Below.refl _ _⟩
  · have hs' : s.size ≤ 1048576 := by omega
    clear hs
    obtain ⟨r, hr⟩ : ∃ r, nodeRec s = r := ⟨_, rfl⟩
    have HA : Hid (∀ w', Calls Try.prog 5 #[.string s] w' fun e w'' => e = .returned (.string r) ∧ Below w'.heap.size w' w'') := fun w' => (nodeRec_any s w' hs').mono (by rintro e w'' ⟨t, rfl, HT, hb⟩; exact ⟨by rw [HT.out, hr], hb⟩)
    have HB : Hid (∀ w', Calls Try.prog 6 #[.string s] w' fun e w'' => e = .returned (.string r) ∧ Below w'.heap.size w' w'') := fun w' => (nodeRec_impl s w' hs').mono (by rintro e w'' ⟨t, rfl, HT, hb⟩; exact ⟨by rw [HT.out, hr], hb⟩)
    clear hr
    go_enter Try.func3, Try.ntmps3
    go_wp2_with (first | (go_at_call 5; refine (HA.out _).mono ?_; rintro e w1 ⟨rfl, hb1⟩) | (go_at_call 6; refine (HB.out _).mono ?_; rintro e w2 ⟨rfl, hb2⟩))
    go_ret
    exact ⟨rfl, hb1.trans (hb2.mono hb1.size)⟩

set_option maxRecDepth 100000 in
theorem law_commit (v : Int) (s : ByteArray) (w : World) (hm : s.size ≤ maxLen) :
    Calls Try.prog 4 #[.int .i64 v, .string s] w fun e w' => e = .returned (.bool true) ∧ Below w.heap.size w w' := by
  unfold maxLen at hm
  by_cases hs : 1048576 < s.size
  · go_enter Try.func4, Try.ntmps4
    go_wp2_with fail
    go_ret
    exact ⟨rfl, Below.refl _ _⟩
  · have hs' : s.size ≤ 1048576 := by omega
    clear hs
    obtain ⟨r, hr⟩ : ∃ r, commitRec v s = r := ⟨_, rfl⟩
    have HA : Hid (∀ w', Calls Try.prog 7 #[.int .i64 v, .string s] w' fun e w'' => e = .returned (.string r) ∧ Below w'.heap.size w' w'') := fun w' => (commitRec_any v s w' hs').mono (by rintro e w'' ⟨t, rfl, HT, hb⟩; exact ⟨by rw [HT.out, hr], hb⟩)
    have HB : Hid (∀ w', Calls Try.prog 8 #[.int .i64 v, .string s] w' fun e w'' => e = .returned (.string r) ∧ Below w'.heap.size w' w'') := fun w' => (commitRec_impl v s w' hs').mono (by rintro e w'' ⟨t, rfl, HT, hb⟩; exact ⟨by rw [HT.out, hr], hb⟩)
    clear hr
    go_enter Try.func4, Try.ntmps4
    go_wp2_with (first | (go_at_call 7; refine (HA.out _).mono ?_; rintro e w1 ⟨rfl, hb1⟩) | (go_at_call 8; refine (HB.out _).mono ?_; rintro e w2 ⟨rfl, hb2⟩))
    go_ret
    exact ⟨rfl, hb1.trans (hb2.mono hb1.size)⟩
end Go.Proofs.Ytglpjoandgbngaa
