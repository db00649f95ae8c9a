import Derived.Test.YtglpjoandgbngabNc
namespace Go.Proofs.Ytglpjoandgbngab
open Go.RowKit Go.Proofs.Sha

set_option maxRecDepth 100000 in
theorem sz_any (k v l r : ByteArray) (w : World) (hk : k.size ≤ 9223372036854775807) (hv : v.size ≤ 9223372036854775807) (hl : l.size ≤ 9223372036854775807) (hr : r.size ≤ 9223372036854775807) :
    Calls Try.prog 6 #[.agg #[.string k, .string v, .string l, .string r], .int .i64 1048576] w fun e w' => ∃ x : Int, e = .returned (.int .i64 x) ∧ Hid (0 ≤ x → k.size ≤ 1048576 ∧ v.size ≤ 1048576 ∧ l.size ≤ 1048576 ∧ r.size ≤ 1048576) ∧ Below w.heap.size w w' := by
  have hfin : Below w.heap.size w (w.alloc (.cells #[.string k, .string v, .string l, .string r] 23)) := (Below.refl _ _).alloc (Nat.le_refl _) _
  go_enter Try.func6, Try.ntmps6
  go_wp2
  all_goals go_ret
  all_goals refine ⟨_, rfl, ?_, hfin⟩
  all_goals intro h0
  all_goals omega
theorem toNode_any (k v l r : ByteArray) (w : World) :
    Calls Try.prog 8 #[.agg #[.string k, .string v, .string l, .string r]] w fun e w' => e = .returned (.agg #[.string k, .string v, .string l, .string r]) ∧ Below w.heap.size w w' := by
  go_enter Try.func8, Try.ntmps8
  go_wp2
  refine bodyPost_ret (v := .agg #[.string k, .string v, .string l, .string r]) ?_ rfl ⟨rfl, (((Below.refl _ _).alloc (Nat.le_refl _) _).alloc (by simp) _).alloc (by simp; omega) _⟩
  simp [results, Try.results8, go_sem, asAddr]

set_option maxRecDepth 100000 in
set_option maxHeartbeats 1000000 in
theorem law_enc (k v l r : ByteArray) (n : Int) (w : World) (hk : k.size ≤ maxLen) (hv : v.size ≤ maxLen) (hl : l.size ≤ maxLen) (hr : r.size ≤ maxLen) :
    Calls Try.prog 3 #[.agg #[.string k, .string v, .string l, .string r], .int .i64 n] w fun e w' => e = .returned (.bool true) ∧ Below w.heap.size w w' := by
  unfold maxLen at hk hv hl hr
  obtain ⟨q, hq⟩ : ∃ q, encS k v l r n = q := ⟨_, rfl⟩
  have HS : Hid (∀ w', Calls Try.prog 6 #[.agg #[.string k, .string v, .string l, .string r], .int .i64 1048576] w' fun e w'' => ∃ x : Int, e = .returned (.int .i64 x) ∧ Hid (0 ≤ x → k.size ≤ 1048576 ∧ v.size ≤ 1048576 ∧ l.size ≤ 1048576 ∧ r.size ≤ 1048576) ∧ Below w'.heap.size w' w'') := fun w' => sz_any k v l r w' hk hv hl hr
  have HT : Hid (∀ w', Calls Try.prog 8 #[.agg #[.string k, .string v, .string l, .string r]] w' fun e w'' => e = .returned (.agg #[.string k, .string v, .string l, .string r]) ∧ Below w'.heap.size w' w'') := fun w' => toNode_any k v l r w'
  have HA : Hid (k.size ≤ 1048576 ∧ v.size ≤ 1048576 ∧ l.size ≤ 1048576 ∧ r.size ≤ 1048576 → ∀ w', Calls Try.prog 7 #[.agg #[.string k, .string v, .string l, .string r], .int .i64 n] w' fun e w'' => e = .returned (.string q) ∧ Below w'.heap.size w' w'') := fun hs w' => (enc_any k v l r n w' hs.1 hs.2.1 hs.2.2.1 hs.2.2.2).mono (by rintro e w'' ⟨t, rfl, HX, hb⟩; exact ⟨by rw [HX.out, hq], hb⟩)
  have HB : Hid (k.size ≤ 1048576 ∧ v.size ≤ 1048576 ∧ l.size ≤ 1048576 ∧ r.size ≤ 1048576 → ∀ w', Calls Try.prog 9 #[.agg #[.string k, .string v, .string l, .string r], .int .i64 n] w' fun e w'' => e = .returned (.string q) ∧ Below w'.heap.size w' w'') := fun hs w' => (enc_impl k v l r n w' hs.1 hs.2.1 hs.2.2.1 hs.2.2.2).mono (by rintro e w'' ⟨t, rfl, HX, hb⟩; exact ⟨by rw [HX.out, hq], hb⟩)
  clear hq hk hv hl hr
  go_enter Try.func3, Try.ntmps3
  go_wp2_with fail
  refine (HS.out _).mono ?_
  rintro e w1 ⟨x, rfl, HX, hb1⟩
  have hn1 := below_cells hb1 (heap_alloc_new w (.cells #[.string k, .string v, .string l, .string r] 23))
  have hw1 : Below w.heap.size w w1 := ((Below.refl _ w).alloc (Nat.le_refl _) _).trans (hb1.mono (by simp))
  clear hb1
  by_cases hx : x < 0
  · have z1 : decide (x < 0) = true := decide_eq_true hx
    clear hx
    go_wp2_with fail
    go_ret
    exact ⟨rfl, hw1⟩
  · have hs := HX.out (by omega)
    have z1 : decide (x < 0) = false := decide_eq_false hx
    have HA' : Hid (∀ w', Calls Try.prog 7 #[.agg #[.string k, .string v, .string l, .string r], .int .i64 n] w' fun e w'' => e = .returned (.string q) ∧ Below w'.heap.size w' w'') := HA.out hs
    have HB' : Hid (∀ w', Calls Try.prog 9 #[.agg #[.string k, .string v, .string l, .string r], .int .i64 n] w' fun e w'' => e = .returned (.string q) ∧ Below w'.heap.size w' w'') := HB.out hs
    clear HA HB HX hx hs HS
    have c0 := Lib.cell_of_heap hn1 0
    have c1 := Lib.cell_of_heap hn1 1
    have c2 := Lib.cell_of_heap hn1 2
    have c3 := Lib.cell_of_heap hn1 3
    go_wp2_with (first | (go_at_call 8; refine (HT.out w1).mono ?_; rintro e w2 ⟨rfl, hb2⟩) | (go_at_call 7; refine (HA'.out w2).mono ?_; rintro e w3 ⟨rfl, hb3⟩; have hn3 := below_cells hb3 (below_cells hb2 hn1); have e0 := Lib.cell_of_heap hn3 0; have e1 := Lib.cell_of_heap hn3 1; have e2 := Lib.cell_of_heap hn3 2; have e3 := Lib.cell_of_heap hn3 3) | (go_at_call 8; refine (HT.out w3).mono ?_; rintro e w4 ⟨rfl, hb4⟩) | (go_at_call 9; refine (HB'.out w4).mono ?_; rintro e w5 ⟨rfl, hb5⟩))
    go_ret
    refine ⟨rfl, ?_⟩
    have b12 := hb2
    have b13 := b12.trans (hb3.mono b12.size)
    have b14 := b13.trans (hb4.mono b13.size)
    have b15 := b14.trans (hb5.mono b14.size)
    exact hw1.trans (b15.mono hw1.size)
end Go.Proofs.Ytglpjoandgbngab
