import Derived.Test.YtglpjoandgbngabRa
namespace Go.Proofs.Ytglpjoandgbngab
open Go.RowKit Go.Proofs.Sha
set_option maxRecDepth 100000 in
theorem next_any (r : Nat) (s : ByteArray) (a : Nat) (f : Bool) (n : Nat) (w : World) (h : Rd r s a f w) (ha : a ≤ s.size) (hs : s.size ≤ 1048576) (hn : n ≤ 4294967296) :
    Calls Try.prog 89 #[.pointer (some ⟨r, 0, none⟩), .int .i64 (n : Int)] w fun e w' => ∃ t a' f', e = .returned (.string t) ∧ Hid (NX s a f n t a' f') ∧ a' ≤ s.size ∧ t.size ≤ s.size ∧ Rd r s a' f' w' ∧ Mv r w w' := by
  have c0 : w.cell? ⟨r, 0, none⟩ = some (.string s) := Lib.cell_of_heap h 0
  have c1 : w.cell? ⟨r, 1, none⟩ = some (.int .i64 (a : Int)) := Lib.cell_of_heap h 1
  have c2 : w.cell? ⟨r, 2, none⟩ = some (.bool f) := Lib.cell_of_heap h 2
  have f1 : w.frozen? ⟨r, 1, none⟩ = false := frozen_of_heap h
  cases f
  · by_cases h1 : a + n ≤ s.size
    · have z1 : decide ((s.size : Int) - (a : Int) < (n : Int)) = false := by simp; omega
      have z2 : IntKind.i64.wrap ((s.size : Int) - (a : Int)) = (s.size : Int) - (a : Int) := wrap_i64_in _ (by omega) (by omega)
      go_enter Try.func89, Try.ntmps89
      go_wp2_with fail
      go_region_held3 (fun W => W.cell? ⟨r, 0, none⟩ = some (.string s) ∧ W.cell? ⟨r, 1, none⟩ = some (.int .i64 (a : Int)) ∧ W.cell? ⟨r, 2, none⟩ = some (.bool false)) (exact ⟨c0, c1, c2⟩) (fail)
      go_wp2_with fail
      have z3 : IntKind.i64.wrap ((a : Int) + (n : Int)) = (a : Int) + (n : Int) := wrap_i64_in _ (by omega) (by omega)
      have y1 : (0 : Int) ≤ (a : Int) := by omega
      have y2 : (a : Int) ≤ (a : Int) + (n : Int) := by omega
      have y3 : (a : Int) + (n : Int) ≤ (s.size : Int) := by omega
      go_region_held3 (fun W => W.cell? ⟨r, 0, none⟩ = some (.string s) ∧ W.cell? ⟨r, 1, none⟩ = some (.int .i64 (a : Int))) (exact ⟨c0, c1⟩) (fail)
      go_wp2
      go_ret
      have e1 : ((a : Int) + (n : Int)).toNat = a + n := by omega
      have e2 : ((a : Int) + (n : Int)) = ((a + n : Nat) : Int) := by omega
      rw [e1, e2]
      refine ⟨_, a + n, false, rfl, .inl ⟨rfl, h1, rfl, rfl, rfl⟩, h1, ?_, h.setA (a + n), ((Mv.refl r w).setCell 1 _).drew.drew⟩
      rw [ByteArray.size_extract]; omega
    · have z1 : decide ((s.size : Int) - (a : Int) < (n : Int)) = true := by simp; omega
      have z2 : IntKind.i64.wrap ((s.size : Int) - (a : Int)) = (s.size : Int) - (a : Int) := wrap_i64_in _ (by omega) (by omega)
      go_enter Try.func89, Try.ntmps89
      go_wp2_with fail
      go_region_held3 (fun W => W.cell? ⟨r, 0, none⟩ = some (.string s) ∧ W.cell? ⟨r, 1, none⟩ = some (.int .i64 (a : Int)) ∧ W.cell? ⟨r, 2, none⟩ = some (.bool false)) (exact ⟨c0, c1, c2⟩) (fail)
      go_wp2_with (first | (go_at_call 40; refine (fail_any r s a false _ h.drew).mono ?_; rintro e w2 ⟨rfl, hr2, hm2⟩))
      go_ret
      exact ⟨_, _, _, rfl, .inr ⟨.inr h1, rfl, rfl, rfl⟩, ha, Nat.zero_le _, hr2, (Mv.refl r w).drew.trans hm2⟩
  · go_enter Try.func89, Try.ntmps89
    go_wp2_with fail
    go_region
    go_wp2_with (first | (go_at_call 40; refine (fail_any r s a true _ h.drew).mono ?_; rintro e w2 ⟨rfl, hr2, hm2⟩))
    go_ret
    exact ⟨_, _, _, rfl, .inr ⟨.inl rfl, rfl, rfl, rfl⟩, ha, Nat.zero_le _, hr2, (Mv.refl r w).drew.trans hm2⟩
end Go.Proofs.Ytglpjoandgbngab
