import Derived.Test.YtglpjoandgbngabRk
namespace Go.Proofs.Ytglpjoandgbngab
open Go.RowKit Go.Proofs.Sha

set_option maxRecDepth 100000 in
theorem eqNode_same (k v l r : ByteArray) (w : World) :
    Calls Try.prog 12 #[nodeV k v l r, nodeV k v l r] w fun e w' => e = .returned (.bool true) ∧ Below w.heap.size w w' := by
  have y : ∀ t : ByteArray, (t.toList == t.toList) = true := fun t => by simp
  have hfin : ∀ o o', Below w.heap.size w ((w.alloc o).alloc o') := fun o o' => ((Below.refl _ _).alloc (Nat.le_refl _) _).alloc (by simp) _
  go_enter Try.func12, Try.ntmps12
  go_wp2
  go_ret
  exact ⟨rfl, hfin _ _⟩

set_option maxRecDepth 100000 in
set_option maxHeartbeats 1000000 in
theorem law_dec (s : ByteArray) (n : Int) (w : World) (hm : s.size ≤ maxLen) :
    Calls Try.prog 4 #[.string s, .int .i64 n] w fun e w' => e = .returned (.bool true) ∧ Below w.heap.size w w' := by
  unfold maxLen at hm
  by_cases hs : 1048576 < s.size
  · go_enter Try.func4, Try.ntmps4
    go_wp2_with fail
    go_ret
    exact ⟨rfl, Below.refl _ _⟩
  · have hs' : s.size ≤ 1048576 := by omega
    clear hs
    obtain ⟨k, v, l, r, b, HD⟩ : ∃ k v l r b, decPost s n (.returned (.tuple #[nodeV k v l r, .bool b])) := by
      by_cases hE : ∃ k v l r, IsEnc s n k v l r
      · obtain ⟨k, v, l, r, hE⟩ := hE
        exact ⟨k, v, l, r, true, .inl ⟨k, v, l, r, hE, rfl⟩⟩
      · exact ⟨⟨#[]⟩, ⟨#[]⟩, ⟨#[]⟩, ⟨#[]⟩, false, .inr ⟨fun k v l r h => hE ⟨k, v, l, r, h⟩, rfl⟩⟩
    have HA : Hid (∀ w', Calls Try.prog 10 #[.string s, .int .i64 n] w' fun e w'' => e = .returned (.tuple #[nodeV k v l r, .bool b]) ∧ Below w'.heap.size w' w'') := fun w' => (dec_any s n w' hs').mono (by rintro e w'' ⟨h1, hb⟩; exact ⟨h1.one HD, hb⟩)
    have HB : Hid (∀ w', Calls Try.prog 11 #[.string s, .int .i64 n] w' fun e w'' => e = .returned (.tuple #[nodeV k v l r, .bool b]) ∧ Below w'.heap.size w' w'') := fun w' => (dec_impl s n w' hs').mono (by rintro e w'' ⟨h1, hb⟩; exact ⟨h1.one HD, hb⟩)
    have HE : Hid (∀ w', Calls Try.prog 12 #[.agg #[.string k, .string v, .string l, .string r], .agg #[.string k, .string v, .string l, .string r]] w' fun e w'' => e = .returned (.bool true) ∧ Below w'.heap.size w' w'') := fun w' => eqNode_same k v l r w'
    clear HD
    cases b
    all_goals
      go_enter Try.func4, Try.ntmps4
      go_wp2_with (first | (go_at_call 10; refine (HA.out _).mono ?_; rintro e w1 ⟨rfl, hb1⟩) | (go_at_call 11; refine (HB.out _).mono ?_; rintro e w2 ⟨rfl, hb2⟩; have hn2 := below_cells hb2 (heap_alloc_new w1 (.cells #[.string k, .string v, .string l, .string r] 26)); have g0 : ∀ o, (w2.alloc o).cell? ⟨w1.heap.size, 0, none⟩ = some (.string k) := fun o => Lib.cell_of_heap (below_cells ((Below.refl _ _).alloc (Nat.le_refl _) _) hn2) 0; have g1 : ∀ o, (w2.alloc o).cell? ⟨w1.heap.size, 1, none⟩ = some (.string v) := fun o => Lib.cell_of_heap (below_cells ((Below.refl _ _).alloc (Nat.le_refl _) _) hn2) 1; have g2 : ∀ o, (w2.alloc o).cell? ⟨w1.heap.size, 2, none⟩ = some (.string l) := fun o => Lib.cell_of_heap (below_cells ((Below.refl _ _).alloc (Nat.le_refl _) _) hn2) 2; have g3 : ∀ o, (w2.alloc o).cell? ⟨w1.heap.size, 3, none⟩ = some (.string r) := fun o => Lib.cell_of_heap (below_cells ((Below.refl _ _).alloc (Nat.le_refl _) _) hn2) 3; have hsz2 : True := trivial) | (go_at_call 12; refine (HE.out _).mono ?_; rintro e w3 ⟨rfl, hb3⟩))
      go_ret
      refine ⟨rfl, ?_⟩
      have b1 := hb1.alloc hb1.size (.cells #[.string k, .string v, .string l, .string r] 26)
      have b2 := b1.trans (hb2.mono b1.size)
      have b3 := b2.alloc b2.size (.cells #[.string k, .string v, .string l, .string r] 26)
      exact b3.trans (hb3.mono b3.size)
end Go.Proofs.Ytglpjoandgbngab
