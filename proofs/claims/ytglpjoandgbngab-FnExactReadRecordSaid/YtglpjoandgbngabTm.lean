import Derived.Test.YtglpjoandgbngabTl
namespace Go.Proofs.Ytglpjoandgbngab
open Go.RowKit Go.Proofs.Sha

/-- The answer, once the record is taken. -/
theorem take_yes {s : ByteArray} {m a mk : Nat} {k : Int} {enc : ByteArray} {v : Int} {root : ByteArray} {nx : Int} {a' : Nat} (ha : 64 * m = a) (h : TakeR s a mk k enc v root nx a' false) : readPost s (m : Int) (.returned (recV k enc v root ((a' / 64 : Nat) : Int))) := by
  have e : 64 * (m : Int).toNat = a := by omega
  rcases h with ⟨_, h | ⟨g, _⟩⟩ | ⟨_, h | ⟨g, _⟩⟩ | ⟨_, _, g⟩
  · obtain ⟨_, hE, ha', rfl, rfl, rfl, _⟩ := h
    refine .inl ⟨enc, by omega, by rw [e]; exact hE, ?_⟩
    rw [show ((a' / 64 : Nat) : Int) = (m : Int) + (secs enc.size : Int) by omega]
  · cases g
  · obtain ⟨_, hE, ha', rfl, rfl, _⟩ := h
    refine .inr (.inl ⟨v, root, by omega, by rw [e]; exact hE, ?_⟩)
    rw [show ((a' / 64 : Nat) : Int) = (m : Int) + 1 by omega]
  · cases g
  · cases g
theorem take_no {s : ByteArray} {m a mk : Nat} {k : Int} {enc : ByteArray} {v : Int} {root : ByteArray} {nx : Int} {a' : Nat} (ha : 64 * m = a) (hmk : (s.data.toList.getD (a + 63) 0).toNat = mk) (h : TakeR s a mk k enc v root nx a' true) : readPost s (m : Int) (.returned (recV 0 ⟨#[]⟩ 0 ⟨#[]⟩ 0)) := by
  have e : 64 * (m : Int).toNat = a := by omega
  have hn : ∀ enc, IsNode s a enc → mk = 83 := fun enc hE => by rw [← hmk, hE.parts.2.1]; rfl
  have hc : ∀ v root, IsCommit s a v root → mk = 67 := fun v root hE => by rw [← hmk, hE.parts.1]; rfl
  refine .inr (.inr ⟨fun _ => ?_, rfl⟩)
  rw [e]
  rcases h with ⟨h83, ⟨g, _⟩ | ⟨_, h⟩⟩ | ⟨h67, ⟨g, _⟩ | ⟨_, h⟩⟩ | ⟨h1, h2, _⟩
  · cases g
  · exact ⟨h, fun v root hE => by have := hc v root hE; omega⟩
  · cases g
  · exact ⟨fun enc hE => by have := hn enc hE; omega, h⟩
  · exact ⟨fun enc hE => h1 (hn enc hE), fun v root hE => h2 (hc v root hE)⟩
theorem RB.s4 {g : Nat} {k : Int} {enc : ByteArray} {v : Int} {root : ByteArray} {nx : Int} {w : World} (h : RB g k enc v root nx w) (x : Int) : RB g k enc v root x (w.setCell ⟨g, 4, none⟩ (.int .i64 x)) := heap_setCell_same w g 4 _ 34 _ h

set_option maxRecDepth 100000 in
set_option maxHeartbeats 1000000 in
theorem read_impl (s : ByteArray) (n : Int) (w : World) (hs : s.size ≤ 1048576) :
    Calls Try.prog 14 #[.string s, .int .i64 n] w fun e w' => readPost s n e ∧ Below w.heap.size w w' := by
  obtain ⟨fb, hfb⟩ : ∃ fb, w.heap.size = fb := ⟨_, rfl⟩
  have hN := RecAt.mk5 w 0 ⟨#[]⟩ 0 ⟨#[]⟩ 0
  have hB1 : Hid (Below w.heap.size w (w.alloc (.cells #[.int .i64 0, .string ⟨#[]⟩, .int .i64 0, .string ⟨#[]⟩, .int .i64 0] 34))) := (Below.refl _ _).alloc (Nat.le_refl _) _
  have hB2 : Hid (Below fb w (w.alloc (.cells #[.int .i64 0, .string ⟨#[]⟩, .int .i64 0, .string ⟨#[]⟩, .int .i64 0] 34))) := (Below.refl _ _).alloc (by omega) _
  by_cases h0 : n < 0 ∨ (s.size : Int) / 64 ≤ n
  · have HN : Hid (0 ≤ n → (∀ enc, ¬ IsNode s (64 * n.toNat) enc) ∧ ∀ v root, ¬ IsCommit s (64 * n.toNat) v root) := fun h0 => by
      have hno : ¬ 64 * n.toNat + 64 ≤ s.size := by omega
      exact ⟨fun enc h => hno h.parts.1, fun v root h => hno h.2.2.2.1⟩
    by_cases h1 : n < 0
    · have z1 : decide (n < 0) = true := by simpa using h1
      go_enter Try.func14, Try.ntmps14
      go_wp2_with fail
      exact retRec rfl hN (by rw [hfb]; rfl) rfl ⟨.inr (.inr ⟨HN.out, rfl⟩), by first | exact hB1.out | exact hB2.out⟩
    · have z1 : decide (n < 0) = false := by simpa using h1
      have z2 : decide ((s.size : Int) / 64 ≤ n) = true := by simp; omega
      go_enter Try.func14, Try.ntmps14
      go_wp2_with fail
      exact retRec rfl hN (by rw [hfb]; rfl) rfl ⟨.inr (.inr ⟨HN.out, rfl⟩), by first | exact hB1.out | exact hB2.out⟩
  · obtain ⟨m, rfl⟩ := Int.eq_ofNat_of_zero_le (show 0 ≤ n by omega)
    have hle : 64 * m + 64 ≤ s.size := by omega
    obtain ⟨a, ha⟩ : ∃ a, 64 * m = a := ⟨_, rfl⟩
    have z1 : decide ((m : Int) < 0) = false := by simp
    have z2 : decide ((s.size : Int) / 64 ≤ (m : Int)) = false := by simp; omega
    have z3 : IntKind.i64.wrap ((m : Int) * 64) = (a : Int) := by rw [wrap_i64_in _ (by omega) (by omega)]; omega
    have y1 : IntKind.i64.wrap ((a : Int) + 63) = (a : Int) + 63 := wrap_i64_in _ (by omega) (by omega)
    have y2 : (0 : Int) ≤ (a : Int) + 63 := by omega
    have y3 : (a : Int) + 63 < (s.size : Int) := by omega
    obtain ⟨mk, hmk⟩ : ∃ b, (s.data.toList.getD (a + 63) 0).toNat = b := ⟨_, rfl⟩
    have y4 : ((s[a + 63]'(by omega)).toNat : Int) = (mk : Int) := by rw [bget s (a + 63) (by omega), hmk]
    have y5 : wrap64 (mk : Int) = (mk : Int) := wr64 _ (by omega) (by have := (s.data.toList.getD (a + 63) 0).toNat_lt; omega)
    have HMk : Hid ((s.data.toList.getD (a + 63) 0).toNat = mk) := hmk
    have HA : Hid (64 * m = a) := ha
    have hle2 : a ≤ s.size := by omega
    clear h0 hN hB1 hB2
    obtain ⟨w0, hw0⟩ : ∃ w0, w0 = (w.alloc (.cells #[.int .i64 0, .string ⟨#[]⟩, .int .i64 0, .string ⟨#[]⟩, .int .i64 0] 34)).alloc (.cells #[.string s, .int .i64 (a : Int), .bool false] 52) := ⟨_, rfl⟩
    have hr0 : Rd (fb + 1) s a false w0 := by
      rw [hw0]; unfold Rd; rw [show fb + 1 = (w.alloc (.cells #[.int .i64 0, .string ⟨#[]⟩, .int .i64 0, .string ⟨#[]⟩, .int .i64 0] 34)).heap.size by simp [hfb]]; exact heap_alloc_new _ _
    have hn0 : RB fb 0 ⟨#[]⟩ 0 ⟨#[]⟩ 0 w0 := by
      rw [hw0]; exact below_cells ((Below.refl _ _).alloc (Nat.le_refl _) _) (by rw [← hfb]; exact heap_alloc_new _ _)
    have hb0 : Below fb w w0 := by rw [hw0]; exact ((Below.refl _ _).alloc (by omega) _).alloc (by simp; omega) _
    have hs0 : w0.heap.size = fb + 2 := by rw [hw0]; simp [hfb]
    go_enter Try.func14, Try.ntmps14
    go_wp2_with fail
    rw [← hw0]
    clear hw0 hmk ha y4
    refine (takeRec_any mk (fb + 1) s a _ hr0 hle2 hs).mono ?_
    rintro e w1 ⟨k, v, nx, enc, root, a', f', rfl, HT, ha', hr1, hm1⟩
    have hn1 : RB fb 0 ⟨#[]⟩ 0 ⟨#[]⟩ 0 w1 := hm1.cells hn0 (by omega)
    have hb1 : Below fb w w1 := hb0.trans (hm1.to_below (by omega) (by omega))
    have hz1 := hm1.size
    obtain ⟨gg, hgg⟩ : ∃ gg, w1.heap.size = gg := ⟨_, rfl⟩
    have A1 : ∀ o, Rd (fb + 1) s a' f' (w1.alloc o) := fun o => hr1.alloc o
    have B1 : ∀ o, RB fb 0 ⟨#[]⟩ 0 ⟨#[]⟩ 0 (w1.alloc o) := fun o => below_cells ((Below.refl _ _).alloc (Nat.le_refl _) _) hn1
    have e1 : ∀ o, (w1.alloc o).cell? ⟨fb + 1, 1, none⟩ = some (.int .i64 (a' : Int)) := fun o => Lib.cell_of_heap (A1 o) 1
    have e2 : ∀ o, (w1.alloc o).cell? ⟨fb + 1, 2, none⟩ = some (.bool f') := fun o => Lib.cell_of_heap (A1 o) 2
    have b0 : ∀ o, (w1.alloc o).cell? ⟨fb, 0, none⟩ = some (.int .i64 0) := fun o => Lib.cell_of_heap (B1 o) 0
    have d0 : ∀ o, (w1.alloc o).frozen? ⟨fb, 0, none⟩ = false := fun o => frozen_of_heap (B1 o)
    have b1 : ∀ o, (w1.alloc o).cell? ⟨fb, 1, none⟩ = some (.string ⟨#[]⟩) := fun o => Lib.cell_of_heap (B1 o) 1
    have d1 : ∀ o, (w1.alloc o).frozen? ⟨fb, 1, none⟩ = false := fun o => frozen_of_heap (B1 o)
    have b2 : ∀ o, (w1.alloc o).cell? ⟨fb, 2, none⟩ = some (.int .i64 0) := fun o => Lib.cell_of_heap (B1 o) 2
    have d2 : ∀ o, (w1.alloc o).frozen? ⟨fb, 2, none⟩ = false := fun o => frozen_of_heap (B1 o)
    have b3 : ∀ o, (w1.alloc o).cell? ⟨fb, 3, none⟩ = some (.string ⟨#[]⟩) := fun o => Lib.cell_of_heap (B1 o) 3
    have d3 : ∀ o, (w1.alloc o).frozen? ⟨fb, 3, none⟩ = false := fun o => frozen_of_heap (B1 o)
    have b4 : ∀ o, (w1.alloc o).cell? ⟨fb, 4, none⟩ = some (.int .i64 0) := fun o => Lib.cell_of_heap (B1 o) 4
    have d4 : ∀ o, (w1.alloc o).frozen? ⟨fb, 4, none⟩ = false := fun o => frozen_of_heap (B1 o)
    have HB1 : Hid (∀ o, RB fb 0 ⟨#[]⟩ 0 ⟨#[]⟩ 0 (w1.alloc o)) := B1
    have HBl : Hid (∀ o, Below fb w (w1.alloc o)) := fun o => hb1.alloc (by omega) o
    have hgf : fb + 1 < gg := by omega
    have x1 : IntKind.i64.wrap ((a' : Int) / 64) = ((a' / 64 : Nat) : Int) := by rw [wrap_i64_in _ (by omega) (by omega)]; omega
    have x2 : (a' : Int) / 64 = ((a' / 64 : Nat) : Int) := by omega
    have x3 : Int.tdiv (a' : Int) 64 = ((a' / 64 : Nat) : Int) := by rw [Int.tdiv_eq_ediv_of_nonneg (by omega)]; omega
    clear hr0 hn0 hb0 hs0 hm1 hr1 hn1 hb1 hz1 A1 B1
    cases f'
    · obtain ⟨q, hq⟩ : ∃ q, a' / 64 = q := ⟨_, rfl⟩
      rw [hq] at x1 x2 x3
      have HPost : Hid (readPost s (m : Int) (.returned (recV k enc v root (q : Int)))) := by rw [← hq]; exact take_yes HA.out HT.out
      clear hq HT HA HMk
      go_wp2_with fail
      exact retRec rfl (RecAt.set5 (RB.at (HB1.out _)) k enc v root (q : Int)) rfl rfl ⟨HPost.out, by rw [hfb]; exact below5 (HBl.out _) (Nat.le_refl _) _ _ _ _ _⟩
    · have HPost : Hid (readPost s (m : Int) (.returned (recV 0 ⟨#[]⟩ 0 ⟨#[]⟩ 0))) := take_no HA.out HMk.out HT.out
      clear HT HA HMk
      go_wp2_with fail
      exact retRec rfl (RecAt.set5 (RB.at (HB1.out _)) 0 ⟨#[]⟩ 0 ⟨#[]⟩ 0) rfl rfl ⟨HPost.out, by rw [hfb]; exact below5 (HBl.out _) (Nat.le_refl _) _ _ _ _ _⟩
end Go.Proofs.Ytglpjoandgbngab
