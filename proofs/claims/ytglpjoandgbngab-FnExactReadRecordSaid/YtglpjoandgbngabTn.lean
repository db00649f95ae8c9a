import Derived.Test.YtglpjoandgbngabTm
namespace Go.Proofs.Ytglpjoandgbngab
open Go.RowKit Go.Proofs.Sha

theorem IsNode.one {s : ByteArray} {a : Nat} {enc enc' : ByteArray} (h : IsNode s a enc) (h' : IsNode s a enc') : enc = enc' := h.parts.2.2.2.symm.trans h'.parts.2.2.2
theorem IsCommit.one {s : ByteArray} {a : Nat} {v v' : Int} {root root' : ByteArray} (h : IsCommit s a v root) (h' : IsCommit s a v' root') : v = v' ∧ root = root' := by
  have p := h.parts
  have p' := h'.parts
  refine ⟨p.2.1.symm.trans p'.2.1, ?_⟩
  have e : root.size = root'.size := p.2.2.1.symm.trans p'.2.2.1
  rw [← p.2.2.2, ← p'.2.2.2, e]
theorem IsNode.not {s : ByteArray} {a : Nat} {enc : ByteArray} {v : Int} {root : ByteArray} (h : IsNode s a enc) (h' : IsCommit s a v root) : False := by
  have p := h.parts.2.1
  rw [h'.parts.1] at p
  exact absurd p (by decide)
/-- One answer at most. -/
theorem readPost.one {s : ByteArray} {n : Int} {e e' : Ending} (h : readPost s n e) (h' : readPost s n e') : e = e' := by
  rcases h with ⟨enc, h0, hE, rfl⟩ | ⟨v, root, h0, hE, rfl⟩ | ⟨hN, rfl⟩ <;> rcases h' with ⟨enc', h0', hE', rfl⟩ | ⟨v', root', h0', hE', rfl⟩ | ⟨hN', rfl⟩
  · rw [hE.one hE']
  · exact (hE.not hE').elim
  · exact absurd hE ((hN' h0).1 _)
  · exact (hE'.not hE).elim
  · obtain ⟨rfl, rfl⟩ := hE.one hE'
    rfl
  · exact absurd hE ((hN' h0).2 _ _)
  · exact absurd hE' ((hN h0').1 _)
  · exact absurd hE' ((hN h0').2 _ _)
  · rfl

set_option maxRecDepth 100000 in
theorem eqRecord_same (k : Int) (enc : ByteArray) (v : Int) (root : ByteArray) (nx : Int) (w : World) :
    Calls Try.prog 15 #[recV k enc v root nx, recV k enc v root nx] w fun e w' => e = .returned (.bool true) ∧ Below w.heap.size w w' := by
  have y : ∀ t : ByteArray, (t.toList == t.toList) = true := fun t => by simp
  have hfin : ∀ o o', Below w.heap.size w ((w.alloc o).alloc o') := fun o o' => ((Below.refl _ _).alloc (Nat.le_refl _) _).alloc (by simp) _
  go_enter Try.func15, Try.ntmps15
  go_wp2
  go_ret
  exact ⟨rfl, hfin _ _⟩

set_option maxRecDepth 100000 in
set_option maxHeartbeats 1000000 in
theorem law_read (s : ByteArray) (n : Int) (w : World) (hm : s.size ≤ maxLen) :
    Calls Try.prog 5 #[.string s, .int .i64 n] w fun e w' => e = .returned (.bool true) ∧ Below w.heap.size w w' := by
  unfold maxLen at hm
  by_cases hs : 1048576 < s.size
  · go_enter Try.func5, Try.ntmps5
    go_wp2_with fail
    go_ret
    exact ⟨rfl, Below.refl _ _⟩
  · have hs' : s.size ≤ 1048576 := by omega
    clear hs
    obtain ⟨k, enc, v, root, nx, HD⟩ : ∃ k enc v root nx, readPost s n (.returned (recV k enc v root nx)) := by
      by_cases h0 : 0 ≤ n
      · by_cases hE : ∃ enc, IsNode s (64 * n.toNat) enc
        · obtain ⟨enc, hE⟩ := hE
          exact ⟨_, _, _, _, _, .inl ⟨enc, h0, hE, rfl⟩⟩
        · by_cases hC : ∃ v root, IsCommit s (64 * n.toNat) v root
          · obtain ⟨v, root, hC⟩ := hC
            exact ⟨_, _, _, _, _, .inr (.inl ⟨v, root, h0, hC, rfl⟩)⟩
          · exact ⟨_, _, _, _, _, .inr (.inr ⟨fun _ => ⟨fun enc h => hE ⟨enc, h⟩, fun v root h => hC ⟨v, root, h⟩⟩, rfl⟩)⟩
      · exact ⟨_, _, _, _, _, .inr (.inr ⟨fun h => absurd h h0, rfl⟩)⟩
    have HA : Hid (∀ w', Calls Try.prog 13 #[.string s, .int .i64 n] w' fun e w'' => e = .returned (recV k enc v root nx) ∧ Below w'.heap.size w' w'') := fun w' => (read_any s n w' hs').mono (by rintro e w'' ⟨h1, hb⟩; exact ⟨h1.one HD, hb⟩)
    have HB : Hid (∀ w', Calls Try.prog 14 #[.string s, .int .i64 n] w' fun e w'' => e = .returned (recV k enc v root nx) ∧ Below w'.heap.size w' w'') := fun w' => (read_impl s n w' hs').mono (by rintro e w'' ⟨h1, hb⟩; exact ⟨h1.one HD, hb⟩)
    have HE : Hid (∀ w', Calls Try.prog 15 #[recV k enc v root nx, recV k enc v root nx] w' fun e w'' => e = .returned (.bool true) ∧ Below w'.heap.size w' w'') := fun w' => eqRecord_same k enc v root nx w'
    clear HD
    go_enter Try.func5, Try.ntmps5
    go_wp2_with (first | (go_at_call 13; refine (HA.out _).mono ?_; rintro e w1 ⟨rfl, hb1⟩) | (go_at_call 14; refine (HB.out _).mono ?_; rintro e w2 ⟨rfl, hb2⟩; have hn2 := below_cells hb2 (heap_alloc_new w1 (.cells #[.int .i64 k, .string enc, .int .i64 v, .string root, .int .i64 nx] 34)); have g0 : ∀ o, (w2.alloc o).cell? ⟨w1.heap.size, 0, none⟩ = some (.int .i64 k) := fun o => Lib.cell_of_heap (below_cells ((Below.refl _ _).alloc (Nat.le_refl _) _) hn2) 0; have g1 : ∀ o, (w2.alloc o).cell? ⟨w1.heap.size, 1, none⟩ = some (.string enc) := fun o => Lib.cell_of_heap (below_cells ((Below.refl _ _).alloc (Nat.le_refl _) _) hn2) 1; have g2 : ∀ o, (w2.alloc o).cell? ⟨w1.heap.size, 2, none⟩ = some (.int .i64 v) := fun o => Lib.cell_of_heap (below_cells ((Below.refl _ _).alloc (Nat.le_refl _) _) hn2) 2; have g3 : ∀ o, (w2.alloc o).cell? ⟨w1.heap.size, 3, none⟩ = some (.string root) := fun o => Lib.cell_of_heap (below_cells ((Below.refl _ _).alloc (Nat.le_refl _) _) hn2) 3; have g4 : ∀ o, (w2.alloc o).cell? ⟨w1.heap.size, 4, none⟩ = some (.int .i64 nx) := fun o => Lib.cell_of_heap (below_cells ((Below.refl _ _).alloc (Nat.le_refl _) _) hn2) 4) | (go_at_call 15; refine (HE.out _).mono ?_; rintro e w3 ⟨rfl, hb3⟩))
    go_ret
    refine ⟨rfl, ?_⟩
    have b1 := hb1.alloc hb1.size (.cells #[.int .i64 k, .string enc, .int .i64 v, .string root, .int .i64 nx] 34)
    have b2 := b1.trans (hb2.mono b1.size)
    have b3 := b2.alloc b2.size (.cells #[.int .i64 k, .string enc, .int .i64 v, .string root, .int .i64 nx] 34)
    exact b3.trans (hb3.mono b3.size)
end Go.Proofs.Ytglpjoandgbngab
