import Derived.Test.YtglpjoandgbngabEk
namespace Go.Proofs.Ytglpjoandgbngab
open Go.RowKit Go.Proofs.Sha

abbrev recV (k : Int) (enc : ByteArray) (v : Int) (root : ByteArray) (nx : Int) : Value := .agg #[.int .i64 k, .string enc, .int .i64 v, .string root, .int .i64 nx]
/-- What ReadRecord answers. -/
def readPost (s : ByteArray) (n : Int) (e : Ending) : Prop :=
  (∃ enc, 0 ≤ n ∧ IsNode s (64 * n.toNat) enc ∧ e = .returned (recV 1 enc 0 ⟨#[]⟩ (n + (secs enc.size : Int)))) ∨
  (∃ v root, 0 ≤ n ∧ IsCommit s (64 * n.toNat) v root ∧ e = .returned (recV 2 ⟨#[]⟩ v root (n + 1))) ∨
  ((0 ≤ n → (∀ enc, ¬ IsNode s (64 * n.toNat) enc) ∧ ∀ v root, ¬ IsCommit s (64 * n.toNat) v root) ∧ e = .returned (recV 0 ⟨#[]⟩ 0 ⟨#[]⟩ 0))

structure RecAt (w : World) (g : Nat) (k : Int) (enc : ByteArray) (v : Int) (root : ByteArray) (nx : Int) : Prop where
  c0 : w.cell? ⟨g, 0, none⟩ = some (.int .i64 k)
  c1 : w.cell? ⟨g, 1, none⟩ = some (.string enc)
  c2 : w.cell? ⟨g, 2, none⟩ = some (.int .i64 v)
  c3 : w.cell? ⟨g, 3, none⟩ = some (.string root)
  c4 : w.cell? ⟨g, 4, none⟩ = some (.int .i64 nx)
  f0 : w.frozen? ⟨g, 0, none⟩ = false
  f1 : w.frozen? ⟨g, 1, none⟩ = false
  f2 : w.frozen? ⟨g, 2, none⟩ = false
  f3 : w.frozen? ⟨g, 3, none⟩ = false
  f4 : w.frozen? ⟨g, 4, none⟩ = false
section
variable {w w' : World} {g B : Nat} {k v nx : Int} {enc root : ByteArray}
theorem RecAt.lt (h : RecAt w g k enc v root nx) : g < w.heap.size := World.block_lt_of_cell? w _ h.c0
theorem RecAt.below (h : RecAt w g k enc v root nx) (hb : Below B w w') (hg : g < B) : RecAt w' g k enc v root nx :=
  ⟨(hb.cell hg).trans h.c0, (hb.cell hg).trans h.c1, (hb.cell hg).trans h.c2, (hb.cell hg).trans h.c3, (hb.cell hg).trans h.c4, (hb.frozen hg).trans h.f0, (hb.frozen hg).trans h.f1, (hb.frozen hg).trans h.f2, (hb.frozen hg).trans h.f3, (hb.frozen hg).trans h.f4⟩
theorem RecAt.mk5 (w : World) (k : Int) (enc : ByteArray) (v : Int) (root : ByteArray) (nx : Int) : RecAt (w.alloc (.cells #[.int .i64 k, .string enc, .int .i64 v, .string root, .int .i64 nx] 34)) w.heap.size k enc v root nx := by
  constructor <;> simp
theorem RecAt.set5 (h : RecAt w g k enc v root nx) (k' : Int) (enc' : ByteArray) (v' : Int) (root' : ByteArray) (nx' : Int) :
    RecAt (((((w.setCell ⟨g, 0, none⟩ (.int .i64 k')).setCell ⟨g, 1, none⟩ (.string enc')).setCell ⟨g, 2, none⟩ (.int .i64 v')).setCell ⟨g, 3, none⟩ (.string root')).setCell ⟨g, 4, none⟩ (.int .i64 nx')) g k' enc' v' root' nx' := by
  have e0 : ∀ (w : World) (i j : Nat) (x : Value), j ≠ i → (w.setCell ⟨g, i, none⟩ x).cell? ⟨g, j, none⟩ = w.cell? ⟨g, j, none⟩ := fun w i j x hn => cell_set_ne w g i j x hn
  have s0 : (w.setCell ⟨g, 0, none⟩ (.int .i64 k')).cell? ⟨g, 0, none⟩ = some (.int .i64 k') := World.cell?_setCell_same _ _ _ h.c0
  have s1 : ((w.setCell ⟨g, 0, none⟩ (.int .i64 k')).setCell ⟨g, 1, none⟩ (.string enc')).cell? ⟨g, 1, none⟩ = some (.string enc') := World.cell?_setCell_same _ _ _ ((e0 _ _ _ _ (by omega)).trans h.c1)
  have s2 : (((w.setCell ⟨g, 0, none⟩ (.int .i64 k')).setCell ⟨g, 1, none⟩ (.string enc')).setCell ⟨g, 2, none⟩ (.int .i64 v')).cell? ⟨g, 2, none⟩ = some (.int .i64 v') :=
    World.cell?_setCell_same _ _ _ ((e0 _ _ _ _ (by omega)).trans ((e0 _ _ _ _ (by omega)).trans h.c2))
  have s3 : ((((w.setCell ⟨g, 0, none⟩ (.int .i64 k')).setCell ⟨g, 1, none⟩ (.string enc')).setCell ⟨g, 2, none⟩ (.int .i64 v')).setCell ⟨g, 3, none⟩ (.string root')).cell? ⟨g, 3, none⟩ = some (.string root') :=
    World.cell?_setCell_same _ _ _ ((e0 _ _ _ _ (by omega)).trans ((e0 _ _ _ _ (by omega)).trans ((e0 _ _ _ _ (by omega)).trans h.c3)))
  refine ⟨?_, ?_, ?_, ?_, World.cell?_setCell_same _ _ _ ((e0 _ _ _ _ (by omega)).trans ((e0 _ _ _ _ (by omega)).trans ((e0 _ _ _ _ (by omega)).trans ((e0 _ _ _ _ (by omega)).trans h.c4)))), ?_, ?_, ?_, ?_, ?_⟩
  · rw [e0 _ 4 0 _ (by omega), e0 _ 3 0 _ (by omega), e0 _ 2 0 _ (by omega), e0 _ 1 0 _ (by omega)]; exact s0
  · rw [e0 _ 4 1 _ (by omega), e0 _ 3 1 _ (by omega), e0 _ 2 1 _ (by omega)]; exact s1
  · rw [e0 _ 4 2 _ (by omega), e0 _ 3 2 _ (by omega)]; exact s2
  · rw [e0 _ 4 3 _ (by omega)]; exact s3
  all_goals rw [World.frozen?_setCell, World.frozen?_setCell, World.frozen?_setCell, World.frozen?_setCell, World.frozen?_setCell]
  · exact h.f0
  · exact h.f1
  · exact h.f2
  · exact h.f3
  · exact h.f4
theorem RecAt.ret (h : RecAt w g k enc v root nx) {a : Act} {R : Ending → World → Prop} (h4 : a.tmps.getD 4 undef = .pointer (some ⟨g, 0, none⟩)) (hd : a.defers = [])
    (hR : R (.returned (recV k enc v root nx)) w) : bodyPost Try.prog Try.f13 R .ret a w := by
  obtain ⟨c0, c1, c2, c3, c4, f0, f1, f2, f3, f4⟩ := h
  have h4' : a.tmps[4]?.getD undef = .pointer (some ⟨g, 0, none⟩) := by simpa using h4
  exact bodyPost_ret (v := recV k enc v root nx) (by simp [results, Try.results13, go_sem, h4', asAddr, c0, c1, c2, c3, c4]) hd hR
theorem below5 {W : World} (h : Below B W w) (hB : B ≤ g) (x0 x1 x2 x3 x4 : Value) : Below B W (((((w.setCell ⟨g, 0, none⟩ x0).setCell ⟨g, 1, none⟩ x1).setCell ⟨g, 2, none⟩ x2).setCell ⟨g, 3, none⟩ x3).setCell ⟨g, 4, none⟩ x4) :=
  ((((h.setCell hB _).setCell hB _).setCell hB _).setCell hB _).setCell hB _
end

set_option maxRecDepth 100000 in
set_option maxHeartbeats 400000 in
theorem read_no (s : ByteArray) (n : Int) (w : World) (hs : s.size ≤ 1048576) (h : n < 0 ∨ (s.size : Int) / 64 < n ∨ (s.size : Int) - 64 * n < 64) :
    Calls Try.prog 13 #[.string s, .int .i64 n] w fun e w' => readPost s n e ∧ Below w.heap.size w w' := by
  have HN : Hid (0 ≤ n → (∀ enc, ¬ IsNode s (64 * n.toNat) enc) ∧ ∀ v root, ¬ IsCommit s (64 * n.toNat) v root) := fun h0 => by
    have hno : ¬ 64 * n.toNat + 64 ≤ s.size := by omega
    exact ⟨fun enc h => hno h.parts.1, fun v root h => hno h.2.2.2.1⟩
  have hN := RecAt.mk5 w 0 ⟨#[]⟩ 0 ⟨#[]⟩ 0
  have hbw : Below w.heap.size w (w.alloc (.cells #[.int .i64 0, .string ⟨#[]⟩, .int .i64 0, .string ⟨#[]⟩, .int .i64 0] 34)) := (Below.refl _ _).alloc (Nat.le_refl _) _
  by_cases h0 : n < 0
  · have z0 : decide (n < 0) = true := by simpa using h0
    go_enter Try.func13, Try.ntmps13
    go_wp2_with fail
    exact hN.ret rfl rfl ⟨.inr (.inr ⟨HN.out, rfl⟩), hbw⟩
  by_cases h1 : (s.size : Int) / 64 < n
  · have z0 : decide (n < 0) = false := by simpa using h0
    have z1 : decide ((s.size : Int) / 64 < n) = true := by simpa using h1
    go_enter Try.func13, Try.ntmps13
    go_wp2_with fail
    exact hN.ret rfl rfl ⟨.inr (.inr ⟨HN.out, rfl⟩), hbw⟩
  · have z0 : decide (n < 0) = false := by simpa using h0
    have z1 : decide ((s.size : Int) / 64 < n) = false := by simpa using h1
    have z2 : IntKind.i64.wrap (n * 64) = n * 64 := wrap_i64_in _ (by omega) (by omega)
    have z3 : IntKind.i64.wrap ((s.size : Int) - n * 64) = (s.size : Int) - n * 64 := wrap_i64_in _ (by omega) (by omega)
    have z4 : decide ((s.size : Int) - n * 64 < 64) = true := by simp; omega
    go_enter Try.func13, Try.ntmps13
    go_wp2_with fail
    exact hN.ret rfl rfl ⟨.inr (.inr ⟨HN.out, rfl⟩), hbw⟩
end Go.Proofs.Ytglpjoandgbngab
