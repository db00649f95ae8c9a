import Derived.Test.YtliapnhckdimoacGreatDoorZt
import Derived.Test.YtliapnhckdimoacGreatDoorZl
import Derived.Test.YtliapnhckdimoacGreatDoorZo
namespace Go.Proofs.YtliapnhckdimoacGreatDoor
open Go.RowKit Go.Proofs.Sha

/-- What takeRecord answers and leaves. -/
def TakeR (s : ByteArray) (a mk : Nat) (k : Int) (enc : ByteArray) (v : Int) (root : ByteArray) (nx : Int) (a' : Nat) (f' : Bool) : Prop :=
  (mk = 83 ∧ NodeR s a k enc v root nx a' f') ∨ (mk = 67 ∧ CommitR s a k enc v root nx a' f') ∨ (mk ≠ 83 ∧ mk ≠ 67 ∧ f' = true)
theorem NodeR.fault {s : ByteArray} {a : Nat} {k : Int} {enc : ByteArray} {v : Int} {root : ByteArray} {nx : Int} {a' : Nat} (h : NodeR s a k enc v root nx a' true) (k' : Int) (enc' : ByteArray) (v' : Int) (root' : ByteArray) (nx' : Int) : NodeR s a k' enc' v' root' nx' a' true := by
  rcases h with ⟨g, _⟩ | h
  · cases g
  · exact .inr h
theorem CommitR.fault {s : ByteArray} {a : Nat} {k : Int} {enc : ByteArray} {v : Int} {root : ByteArray} {nx : Int} {a' : Nat} (h : CommitR s a k enc v root nx a' true) (k' : Int) (enc' : ByteArray) (v' : Int) (root' : ByteArray) (nx' : Int) : CommitR s a k' enc' v' root' nx' a' true := by
  rcases h with ⟨g, _⟩ | h
  · cases g
  · exact .inr h
theorem rnodeR (r : Nat) (s : ByteArray) (a : Nat) (w : World) (h : Rd r s a false w) (ha : a ≤ s.size) (hs : s.size ≤ 1048576) :
    Calls Tryz.prog 44 #[.pointer (some ⟨r, 0, none⟩), .iface 78 (.agg #[])] w fun e w' => ∃ (k v nx : Int) (enc root : ByteArray) (a' : Nat) (f' : Bool), e = .returned (recV k enc v root nx) ∧ Hid (NodeR s a k enc v root nx a' f') ∧ a' ≤ s.size ∧ Rd r s a' f' w' ∧ Mv r w w' := by
  refine (rrec_node (NodeR s a) r s a false w h (fun w' h' => nodeRec_take r s a w' h' ha hs)).mono ?_
  rintro e w' ⟨k, v, nx, enc, root, a', f', rfl, HX, ha', hr, hm⟩
  cases f'
  · exact ⟨k, v, nx, enc, root, a', false, rfl, HX, ha', hr, hm⟩
  · exact ⟨0, 0, 0, ⟨#[]⟩, ⟨#[]⟩, a', true, rfl, HX.out.fault _ _ _ _ _, ha', hr, hm⟩
theorem rcommitR (r : Nat) (s : ByteArray) (a : Nat) (w : World) (h : Rd r s a false w) (ha : a ≤ s.size) (hs : s.size ≤ 1048576) :
    Calls Tryz.prog 44 #[.pointer (some ⟨r, 0, none⟩), .iface 79 (.agg #[])] w fun e w' => ∃ (k v nx : Int) (enc root : ByteArray) (a' : Nat) (f' : Bool), e = .returned (recV k enc v root nx) ∧ Hid (CommitR s a k enc v root nx a' f') ∧ a' ≤ s.size ∧ Rd r s a' f' w' ∧ Mv r w w' := by
  refine (rrec_cr (CommitR s a) r s a false w h (fun w' h' => commitRec_take r s a w' h' ha hs)).mono ?_
  rintro e w' ⟨k, v, nx, enc, root, a', f', rfl, HX, ha', hr, hm⟩
  cases f'
  · exact ⟨k, v, nx, enc, root, a', false, rfl, HX, ha', hr, hm⟩
  · exact ⟨0, 0, 0, ⟨#[]⟩, ⟨#[]⟩, a', true, rfl, HX.out.fault _ _ _ _ _, ha', hr, hm⟩

set_option maxRecDepth 100000 in
set_option maxHeartbeats 1000000 in
theorem takeRec_any (mk : Nat) (r : Nat) (s : ByteArray) (a : Nat) (w : World) (h : Rd r s a false w) (ha : a ≤ s.size) (hs : s.size ≤ 1048576) :
    Calls Tryz.prog 39 #[.pointer (some ⟨r, 0, none⟩), .int .i64 (mk : Int)] w fun e w' => ∃ (k v nx : Int) (enc root : ByteArray) (a' : Nat) (f' : Bool), e = .returned (recV k enc v root nx) ∧ Hid (TakeR s a mk k enc v root nx a' f') ∧ a' ≤ s.size ∧ Rd r s a' f' w' ∧ Mv r w w' := by
  have HNd : Hid (∀ w', Rd r s a false w' → Calls Tryz.prog 44 #[.pointer (some ⟨r, 0, none⟩), .iface 78 (.agg #[])] w' fun e w'' => ∃ (k v nx : Int) (enc root : ByteArray) (a' : Nat) (f' : Bool), e = .returned (recV k enc v root nx) ∧ Hid (NodeR s a k enc v root nx a' f') ∧ a' ≤ s.size ∧ Rd r s a' f' w'' ∧ Mv r w' w'') := fun w' h' => rnodeR r s a w' h' ha hs
  have HCm : Hid (∀ w', Rd r s a false w' → Calls Tryz.prog 44 #[.pointer (some ⟨r, 0, none⟩), .iface 79 (.agg #[])] w' fun e w'' => ∃ (k v nx : Int) (enc root : ByteArray) (a' : Nat) (f' : Bool), e = .returned (recV k enc v root nx) ∧ Hid (CommitR s a k enc v root nx a' f') ∧ a' ≤ s.size ∧ Rd r s a' f' w'' ∧ Mv r w' w'') := fun w' h' => rcommitR r s a w' h' ha hs
  have hlt := h.lt
  obtain ⟨fb, hfb⟩ : ∃ fb, w.heap.size = fb := ⟨_, rfl⟩
  have hb0 : RB fb 0 ⟨#[]⟩ 0 ⟨#[]⟩ 0 (w.alloc (.cells #[.int .i64 0, .string ⟨#[]⟩, .int .i64 0, .string ⟨#[]⟩, .int .i64 0] 31)) := by
    unfold RB; rw [← hfb]; exact heap_alloc_new _ _
  by_cases h83 : mk = 83
  · subst h83
    go_enter Tryz.func39, Tryz.ntmps39
    go_wp2_with fail
    refine (HNd.out _ (h.alloc _)).mono ?_
    rintro e w1 ⟨k, v, nx, enc, root, a', f', rfl, HX, ha', hr1, hm1⟩
    have hb1 : RB fb 0 ⟨#[]⟩ 0 ⟨#[]⟩ 0 w1 := hm1.cells hb0 (by omega)
    obtain ⟨c0, c1, c2, c3, c4, g0, g1, g2, g3, g4⟩ := RB.at hb1
    go_wp2_with fail
    have hF := fin5 hr1 (((Mv.refl r w).alloc _).trans hm1) hfb (Nat.le_refl fb) (by omega)
    exact retRec rfl (RecAt.set5 (RB.at hb1) k enc v root nx) rfl rfl ⟨k, v, nx, enc, root, a', f', rfl, .inl ⟨rfl, HX.out⟩, ha', (hF _ _ _ _ _).1, (hF _ _ _ _ _).2⟩
  have z1 : ((mk : Int) == 83) = false := by rw [beq_eq_false_iff_ne]; omega
  by_cases h67 : mk = 67
  · subst h67
    go_enter Tryz.func39, Tryz.ntmps39
    go_wp2_with fail
    refine (HCm.out _ (h.alloc _)).mono ?_
    rintro e w1 ⟨k, v, nx, enc, root, a', f', rfl, HX, ha', hr1, hm1⟩
    have hb1 : RB fb 0 ⟨#[]⟩ 0 ⟨#[]⟩ 0 w1 := hm1.cells hb0 (by omega)
    obtain ⟨c0, c1, c2, c3, c4, g0, g1, g2, g3, g4⟩ := RB.at hb1
    go_wp2_with fail
    have hF := fin5 hr1 (((Mv.refl r w).alloc _).trans hm1) hfb (Nat.le_refl fb) (by omega)
    exact retRec rfl (RecAt.set5 (RB.at hb1) k enc v root nx) rfl rfl ⟨k, v, nx, enc, root, a', f', rfl, .inr (.inl ⟨rfl, HX.out⟩), ha', (hF _ _ _ _ _).1, (hF _ _ _ _ _).2⟩
  have z2 : ((mk : Int) == 67) = false := by rw [beq_eq_false_iff_ne]; omega
  go_enter Tryz.func39, Tryz.ntmps39
  go_wp2_with fail
  refine (fail_any r s a false _ (h.alloc _)).mono ?_
  rintro e w1 ⟨rfl, hr1, hm1⟩
  have hb1 : RB fb 0 ⟨#[]⟩ 0 ⟨#[]⟩ 0 w1 := hm1.cells hb0 (by omega)
  obtain ⟨c0, c1, c2, c3, c4, g0, g1, g2, g3, g4⟩ := RB.at hb1
  go_wp2_with fail
  have hF := fin5 hr1 (((Mv.refl r w).alloc _).trans hm1) hfb (Nat.le_refl fb) (by omega)
  exact retRec rfl (RecAt.set5 (RB.at hb1) 0 ⟨#[]⟩ 0 ⟨#[]⟩ 0) rfl rfl ⟨0, 0, 0, ⟨#[]⟩, ⟨#[]⟩, a, true, rfl, .inr (.inr ⟨h83, h67, rfl⟩), ha, (hF _ _ _ _ _).1, (hF _ _ _ _ _).2⟩
end Go.Proofs.YtliapnhckdimoacGreatDoor
namespace Go.Proofs.YtliapnhckdimoacGreatDoor
open Go.RowKit Go.Proofs.Sha

/-- The answer, once the record is taken. -/
theorem take_yes {s : ByteArray} {m a mk : Nat} {k : Int} {enc : ByteArray} {v : Int} {root : ByteArray} {nx : Int} {a' : Nat} (ha : 64 * m = a) (h : TakeR s a mk k enc v root nx a' false) : readPost s (m : Int) (.returned (recV k enc v root ((a' / 64 : Nat) : Int))) := by
  have e : 64 * (m : Int).toNat = a := by omega
  rcases h with ⟨_, h | ⟨g, _⟩⟩ | ⟨_, h | ⟨g, _⟩⟩ | ⟨_, _, g⟩
  · obtain ⟨_, hE, ha', rfl, rfl, rfl, _⟩ := h
    refine .inl ⟨enc, by omega, by rw [e]; exact hE, ?_⟩
    rw [show ((a' / 64 : Nat) : Int) = (m : Int) + (secs enc.size : Int) by omega]
  · cases g
  · obtain ⟨_, hE, ha', rfl, rfl, _⟩ := h
    refine .inr (.inl ⟨v, root, by omega, by rw [e]; exact hE, ?_⟩)
    rw [show ((a' / 64 : Nat) : Int) = (m : Int) + 1 by omega]
  · cases g
  · cases g
theorem take_no {s : ByteArray} {m a mk : Nat} {k : Int} {enc : ByteArray} {v : Int} {root : ByteArray} {nx : Int} {a' : Nat} (ha : 64 * m = a) (hmk : (s.data.toList.getD (a + 63) 0).toNat = mk) (h : TakeR s a mk k enc v root nx a' true) : readPost s (m : Int) (.returned (recV 0 ⟨#[]⟩ 0 ⟨#[]⟩ 0)) := by
  have e : 64 * (m : Int).toNat = a := by omega
  have hn : ∀ enc, IsNode s a enc → mk = 83 := fun enc hE => by rw [← hmk, hE.parts.2.1]; rfl
  have hc : ∀ v root, IsCommit s a v root → mk = 67 := fun v root hE => by rw [← hmk, hE.parts.1]; rfl
  refine .inr (.inr ⟨fun _ => ?_, rfl⟩)
  rw [e]
  rcases h with ⟨h83, ⟨g, _⟩ | ⟨_, h⟩⟩ | ⟨h67, ⟨g, _⟩ | ⟨_, h⟩⟩ | ⟨h1, h2, _⟩
  · cases g
  · exact ⟨h, fun v root hE => by have := hc v root hE; omega⟩
  · cases g
  · exact ⟨fun enc hE => by have := hn enc hE; omega, h⟩
  · exact ⟨fun enc hE => h1 (hn enc hE), fun v root hE => h2 (hc v root hE)⟩
theorem RB.s4 {g : Nat} {k : Int} {enc : ByteArray} {v : Int} {root : ByteArray} {nx : Int} {w : World} (h : RB g k enc v root nx w) (x : Int) : RB g k enc v root x (w.setCell ⟨g, 4, none⟩ (.int .i64 x)) := heap_setCell_same w g 4 _ 31 _ h

set_option maxRecDepth 100000 in
set_option maxHeartbeats 1000000 in
theorem read_impl (s : ByteArray) (n : Int) (w : World) (hs : s.size ≤ 1048576) :
    Calls Tryz.prog 29 #[.string s, .int .i64 n] w fun e w' => readPost s n e ∧ Below w.heap.size w w' := by
  obtain ⟨fb, hfb⟩ : ∃ fb, w.heap.size = fb := ⟨_, rfl⟩
  have hN := RecAt.mk5 w 0 ⟨#[]⟩ 0 ⟨#[]⟩ 0
  have hB1 : Hid (Below w.heap.size w (w.alloc (.cells #[.int .i64 0, .string ⟨#[]⟩, .int .i64 0, .string ⟨#[]⟩, .int .i64 0] 31))) := (Below.refl _ _).alloc (Nat.le_refl _) _
  have hB2 : Hid (Below fb w (w.alloc (.cells #[.int .i64 0, .string ⟨#[]⟩, .int .i64 0, .string ⟨#[]⟩, .int .i64 0] 31))) := (Below.refl _ _).alloc (by omega) _
  by_cases h0 : n < 0 ∨ (s.size : Int) / 64 ≤ n
  · have HN : Hid (0 ≤ n → (∀ enc, ¬ IsNode s (64 * n.toNat) enc) ∧ ∀ v root, ¬ IsCommit s (64 * n.toNat) v root) := fun h0 => by
      have hno : ¬ 64 * n.toNat + 64 ≤ s.size := by omega
      exact ⟨fun enc h => hno h.parts.1, fun v root h => hno h.2.2.2.1⟩
    by_cases h1 : n < 0
    · have z1 : decide (n < 0) = true := by simpa using h1
      go_enter Tryz.func29, Tryz.ntmps29
      go_wp2_with fail
      exact retRec rfl hN (by rw [hfb]; rfl) rfl ⟨.inr (.inr ⟨HN.out, rfl⟩), by first | exact hB1.out | exact hB2.out⟩
    · have z1 : decide (n < 0) = false := by simpa using h1
      have z2 : decide ((s.size : Int) / 64 ≤ n) = true := by simp; omega
      go_enter Tryz.func29, Tryz.ntmps29
      go_wp2_with fail
      exact retRec rfl hN (by rw [hfb]; rfl) rfl ⟨.inr (.inr ⟨HN.out, rfl⟩), by first | exact hB1.out | exact hB2.out⟩
  · obtain ⟨m, rfl⟩ := Int.eq_ofNat_of_zero_le (show 0 ≤ n by omega)
    have hle : 64 * m + 64 ≤ s.size := by omega
    obtain ⟨a, ha⟩ : ∃ a, 64 * m = a := ⟨_, rfl⟩
    have z1 : decide ((m : Int) < 0) = false := by simp
    have z2 : decide ((s.size : Int) / 64 ≤ (m : Int)) = false := by simp; omega
    have z3 : IntKind.i64.wrap ((m : Int) * 64) = (a : Int) := by rw [wrap_i64_in _ (by omega) (by omega)]; omega
    have y1 : IntKind.i64.wrap ((a : Int) + 63) = (a : Int) + 63 := wrap_i64_in _ (by omega) (by omega)
    have y2 : (0 : Int) ≤ (a : Int) + 63 := by omega
    have y3 : (a : Int) + 63 < (s.size : Int) := by omega
    obtain ⟨mk, hmk⟩ : ∃ b, (s.data.toList.getD (a + 63) 0).toNat = b := ⟨_, rfl⟩
    have y4 : ((s[a + 63]'(by omega)).toNat : Int) = (mk : Int) := by rw [bget s (a + 63) (by omega), hmk]
    have y5 : wrap64 (mk : Int) = (mk : Int) := wr64 _ (by omega) (by have := (s.data.toList.getD (a + 63) 0).toNat_lt; omega)
    have HMk : Hid ((s.data.toList.getD (a + 63) 0).toNat = mk) := hmk
    have HA : Hid (64 * m = a) := ha
    have hle2 : a ≤ s.size := by omega
    clear h0 hN hB1 hB2
    obtain ⟨w0, hw0⟩ : ∃ w0, w0 = (w.alloc (.cells #[.int .i64 0, .string ⟨#[]⟩, .int .i64 0, .string ⟨#[]⟩, .int .i64 0] 31)).alloc (.cells #[.string s, .int .i64 (a : Int), .bool false] 68) := ⟨_, rfl⟩
    have hr0 : Rd (fb + 1) s a false w0 := by
      rw [hw0]; unfold Rd; rw [show fb + 1 = (w.alloc (.cells #[.int .i64 0, .string ⟨#[]⟩, .int .i64 0, .string ⟨#[]⟩, .int .i64 0] 31)).heap.size by simp [hfb]]; exact heap_alloc_new _ _
    have hn0 : RB fb 0 ⟨#[]⟩ 0 ⟨#[]⟩ 0 w0 := by
      rw [hw0]; exact below_cells ((Below.refl _ _).alloc (Nat.le_refl _) _) (by rw [← hfb]; exact heap_alloc_new _ _)
    have hb0 : Below fb w w0 := by rw [hw0]; exact ((Below.refl _ _).alloc (by omega) _).alloc (by simp; omega) _
    have hs0 : w0.heap.size = fb + 2 := by rw [hw0]; simp [hfb]
    go_enter Tryz.func29, Tryz.ntmps29
    go_wp2_with fail
    rw [← hw0]
    clear hw0 hmk ha y4
    refine (takeRec_any mk (fb + 1) s a _ hr0 hle2 hs).mono ?_
    rintro e w1 ⟨k, v, nx, enc, root, a', f', rfl, HT, ha', hr1, hm1⟩
    have hn1 : RB fb 0 ⟨#[]⟩ 0 ⟨#[]⟩ 0 w1 := hm1.cells hn0 (by omega)
    have hb1 : Below fb w w1 := hb0.trans (hm1.to_below (by omega) (by omega))
    have hz1 := hm1.size
    obtain ⟨gg, hgg⟩ : ∃ gg, w1.heap.size = gg := ⟨_, rfl⟩
    have A1 : ∀ o, Rd (fb + 1) s a' f' (w1.alloc o) := fun o => hr1.alloc o
    have B1 : ∀ o, RB fb 0 ⟨#[]⟩ 0 ⟨#[]⟩ 0 (w1.alloc o) := fun o => below_cells ((Below.refl _ _).alloc (Nat.le_refl _) _) hn1
    have e1 : ∀ o, (w1.alloc o).cell? ⟨fb + 1, 1, none⟩ = some (.int .i64 (a' : Int)) := fun o => Lib.cell_of_heap (A1 o) 1
    have e2 : ∀ o, (w1.alloc o).cell? ⟨fb + 1, 2, none⟩ = some (.bool f') := fun o => Lib.cell_of_heap (A1 o) 2
    have b0 : ∀ o, (w1.alloc o).cell? ⟨fb, 0, none⟩ = some (.int .i64 0) := fun o => Lib.cell_of_heap (B1 o) 0
    have d0 : ∀ o, (w1.alloc o).frozen? ⟨fb, 0, none⟩ = false := fun o => frozen_of_heap (B1 o)
    have b1 : ∀ o, (w1.alloc o).cell? ⟨fb, 1, none⟩ = some (.string ⟨#[]⟩) := fun o => Lib.cell_of_heap (B1 o) 1
    have d1 : ∀ o, (w1.alloc o).frozen? ⟨fb, 1, none⟩ = false := fun o => frozen_of_heap (B1 o)
    have b2 : ∀ o, (w1.alloc o).cell? ⟨fb, 2, none⟩ = some (.int .i64 0) := fun o => Lib.cell_of_heap (B1 o) 2
    have d2 : ∀ o, (w1.alloc o).frozen? ⟨fb, 2, none⟩ = false := fun o => frozen_of_heap (B1 o)
    have b3 : ∀ o, (w1.alloc o).cell? ⟨fb, 3, none⟩ = some (.string ⟨#[]⟩) := fun o => Lib.cell_of_heap (B1 o) 3
    have d3 : ∀ o, (w1.alloc o).frozen? ⟨fb, 3, none⟩ = false := fun o => frozen_of_heap (B1 o)
    have b4 : ∀ o, (w1.alloc o).cell? ⟨fb, 4, none⟩ = some (.int .i64 0) := fun o => Lib.cell_of_heap (B1 o) 4
    have d4 : ∀ o, (w1.alloc o).frozen? ⟨fb, 4, none⟩ = false := fun o => frozen_of_heap (B1 o)
    have HB1 : Hid (∀ o, RB fb 0 ⟨#[]⟩ 0 ⟨#[]⟩ 0 (w1.alloc o)) := B1
    have HBl : Hid (∀ o, Below fb w (w1.alloc o)) := fun o => hb1.alloc (by omega) o
    have hgf : fb + 1 < gg := by omega
    have x1 : IntKind.i64.wrap ((a' : Int) / 64) = ((a' / 64 : Nat) : Int) := by rw [wrap_i64_in _ (by omega) (by omega)]; omega
    have x2 : (a' : Int) / 64 = ((a' / 64 : Nat) : Int) := by omega
    have x3 : Int.tdiv (a' : Int) 64 = ((a' / 64 : Nat) : Int) := by rw [Int.tdiv_eq_ediv_of_nonneg (by omega)]; omega
    clear hr0 hn0 hb0 hs0 hm1 hr1 hn1 hb1 hz1 A1 B1
    cases f'
    · obtain ⟨q, hq⟩ : ∃ q, a' / 64 = q := ⟨_, rfl⟩
      rw [hq] at x1 x2 x3
      have HPost : Hid (readPost s (m : Int) (.returned (recV k enc v root (q : Int)))) := by rw [← hq]; exact take_yes HA.out HT.out
      clear hq HT HA HMk
      go_wp2_with fail
      exact retRec rfl (RecAt.set5 (RB.at (HB1.out _)) k enc v root (q : Int)) rfl rfl ⟨HPost.out, by rw [hfb]; exact below5 (HBl.out _) (Nat.le_refl _) _ _ _ _ _⟩
    · have HPost : Hid (readPost s (m : Int) (.returned (recV 0 ⟨#[]⟩ 0 ⟨#[]⟩ 0))) := take_no HA.out HMk.out HT.out
      clear HT HA HMk
      go_wp2_with fail
      exact retRec rfl (RecAt.set5 (RB.at (HB1.out _)) 0 ⟨#[]⟩ 0 ⟨#[]⟩ 0) rfl rfl ⟨HPost.out, by rw [hfb]; exact below5 (HBl.out _) (Nat.le_refl _) _ _ _ _ _⟩
end Go.Proofs.YtliapnhckdimoacGreatDoor
namespace Go.Proofs.YtliapnhckdimoacGreatDoor
open Go.RowKit Go.Proofs.Sha

theorem IsNode.one {s : ByteArray} {a : Nat} {enc enc' : ByteArray} (h : IsNode s a enc) (h' : IsNode s a enc') : enc = enc' := h.parts.2.2.2.symm.trans h'.parts.2.2.2
theorem IsCommit.one {s : ByteArray} {a : Nat} {v v' : Int} {root root' : ByteArray} (h : IsCommit s a v root) (h' : IsCommit s a v' root') : v = v' ∧ root = root' := by
  have p := h.parts
  have p' := h'.parts
  refine ⟨p.2.1.symm.trans p'.2.1, ?_⟩
  have e : root.size = root'.size := p.2.2.1.symm.trans p'.2.2.1
  rw [← p.2.2.2, ← p'.2.2.2, e]
theorem IsNode.not {s : ByteArray} {a : Nat} {enc : ByteArray} {v : Int} {root : ByteArray} (h : IsNode s a enc) (h' : IsCommit s a v root) : False := by
  have p := h.parts.2.1
  rw [h'.parts.1] at p
  exact absurd p (by decide)
/-- One answer at most. -/
theorem readPost.one {s : ByteArray} {n : Int} {e e' : Ending} (h : readPost s n e) (h' : readPost s n e') : e = e' := by
  rcases h with ⟨enc, h0, hE, rfl⟩ | ⟨v, root, h0, hE, rfl⟩ | ⟨hN, rfl⟩ <;> rcases h' with ⟨enc', h0', hE', rfl⟩ | ⟨v', root', h0', hE', rfl⟩ | ⟨hN', rfl⟩
  · rw [hE.one hE']
  · exact (hE.not hE').elim
  · exact absurd hE ((hN' h0).1 _)
  · exact (hE'.not hE).elim
  · obtain ⟨rfl, rfl⟩ := hE.one hE'
    rfl
  · exact absurd hE ((hN' h0).2 _ _)
  · exact absurd hE' ((hN h0').1 _)
  · exact absurd hE' ((hN h0').2 _ _)
  · rfl

end Go.Proofs.YtliapnhckdimoacGreatDoor
namespace Go.Proofs.YtliapnhckdimoacGreatDoor
open Go.RowKit Go.Proofs.Sha

theorem read_ex (s : ByteArray) (n : Nat) : ∃ x : RecT, readPost s (n : Int) (.returned (recT x)) ∧ RecOk s.size n x := by
  have e : 64 * (n : Int).toNat = 64 * n := by omega
  by_cases h1 : ∃ enc, IsNode s (64 * n) enc
  · obtain ⟨enc, hE⟩ := h1
    refine ⟨⟨1, enc, 0, ⟨#[]⟩, n + secs enc.size⟩, .inl ⟨enc, by omega, by rw [e]; exact hE, ?_⟩, .inr (.inl ⟨rfl, hE.2.1, ?_, ?_⟩)⟩
    · show Ending.returned (recV 1 enc 0 ⟨#[]⟩ ((n + secs enc.size : Nat) : Int)) = _
      rw [Int.natCast_add]
    · show n < n + secs enc.size
      have : 0 < secs enc.size := by unfold secs; omega
      omega
    · show 64 * (n + secs enc.size) ≤ s.size
      have := hE.2.2.1; omega
  · by_cases h2 : ∃ v root, IsCommit s (64 * n) v root
    · obtain ⟨v, root, hE⟩ := h2
      refine ⟨⟨2, ⟨#[]⟩, v, root, n + 1⟩, .inr (.inl ⟨v, root, by omega, by rw [e]; exact hE, rfl⟩), .inr (.inr ⟨rfl, hE.2.2.1, ?_, ?_⟩)⟩
      · show n < n + 1; omega
      · show 64 * (n + 1) ≤ s.size
        have := hE.2.2.2.1; omega
    · exact ⟨⟨0, ⟨#[]⟩, 0, ⟨#[]⟩, 0⟩, .inr (.inr ⟨fun _ => ⟨fun enc h => h1 ⟨enc, by rw [e] at h; exact h⟩, fun v root h => h2 ⟨v, root, by rw [e] at h; exact h⟩⟩, rfl⟩), .inl rfl⟩
set_option maxRecDepth 100000 in
theorem law_scan (s : ByteArray) (n : Int) (w : World) (hm : s.size ≤ maxLen) (hK : ∀ j, j < 64 → w.cell? ⟨0, j, none⟩ = some (.int .u32 ((kTab.getD j 0).toNat : Int))) :
    Calls Tryz.prog 3 #[.string s, .int .i64 n] w fun e w' => e = .returned (.bool true) ∧ Below w.heap.size w w' := by
  unfold maxLen at hm
  by_cases hs : 1048576 < s.size
  · have z0 : decide ((s.size : Int) > 1048576) = true := by rw [decide_eq_true_eq]; omega
    have z1 : decide ((1048576 : Int) < (s.size : Int)) = true := by rw [decide_eq_true_eq]; omega
    go_enter Tryz.func3, Tryz.ntmps3
    go_wp2_with fail
    go_ret
    exact ⟨rfl, Below.refl _ _⟩
  · have keep : Hid (∀ w1 w2 : World, (∀ j, j < 64 → w1.cell? ⟨0, j, none⟩ = some (.int .u32 ((kTab.getD j 0).toNat : Int))) → Below w1.heap.size w1 w2 → ∀ j, j < 64 → w2.cell? ⟨0, j, none⟩ = some (.int .u32 ((kTab.getD j 0).toNat : Int))) := fun w1 w2 h1 hb j hj => by
      have hl0 : 0 < w1.heap.size := World.block_lt_of_cell? w1 _ (h1 0 (by omega))
      exact (hb.cell (by exact hl0)).trans (h1 j hj)
    by_cases hn : 1 ≤ n ∧ n ≤ 32
    · obtain ⟨wd, rfl⟩ := Int.eq_ofNat_of_zero_le (show 0 ≤ n by omega)
      obtain ⟨R, hR⟩ := Classical.axiomOfChoice (read_ex s)
      have hRd : ReadSaid 29 s R := fun m w' => (read_impl s (m : Int) w' (by omega)).mono fun e w'' ⟨h1, hb⟩ => ⟨h1.one (hR m).1, hb⟩
      have hRs : ReadSaid 10 s R := fun m w' => (read_any s (m : Int) w' (by omega)).mono fun e w'' ⟨h1, hb⟩ => ⟨h1.one (hR m).1, hb⟩
      have hRo : ∀ m, RecOk s.size m (R m) := fun m => (hR m).2
      refine law_sc (K := fun w' => ∀ j, j < 64 → w'.cell? ⟨0, j, none⟩ = some (.int .u32 ((kTab.getD j 0).toNat : Int))) keep s (wd : Int) (by omega) R wd ?_ (fun w' => scan_spec s (by omega) wd (by omega) (by omega) R hRo hRs (fun t k w'' ht q1 q2 => sdig_yes t k w'' ht q1 q2) w')
        (fun w' hk => scan_impl (K := fun w' => ∀ j, j < 64 → w'.cell? ⟨0, j, none⟩ = some (.int .u32 ((kTab.getD j 0).toNat : Int))) (fun t w'' ht hk' => ehash_any t w'' ht hk') keep s (by omega) wd (by omega) (by omega) R hRo hRd w' hk) w hK
      intro st hr
      have hI := hr.inv hRo
      have h1 := hI.len
      have h2 := hI.sec
      refine ⟨by omega, fun j => ?_, fun j => ?_⟩
      · rw [List.getD_eq_getElem?_getD]
        cases hj : st.nodes[j]? with
        | none => exact Nat.zero_le _
        | some e => exact Nat.le_trans (hI.enc e (List.mem_append_left _ (List.mem_of_getElem? hj))) (by decide)
      · rw [List.getD_eq_getElem?_getD]
        cases hj : st.roots[j]? with
        | none => exact Nat.zero_le _
        | some e => exact Nat.le_trans (hI.root e (List.mem_of_getElem? hj)) (by decide)
    · refine law_sc (K := fun w' => ∀ j, j < 64 → w'.cell? ⟨0, j, none⟩ = some (.int .u32 ((kTab.getD j 0).toNat : Int))) keep s n (by omega) noR 0 ?_ (fun w' => scan_spec_bad s n hn w') (fun w' _ => scan_impl_bad s n hn w') w hK
      have hz : ∀ st, Reach noR 0 st → st = st0 := fun st hr => by
        induction hr with
        | zero => rfl
        | step _ h2 ih => rw [ih] at h2; cases h2
      intro st hr
      rw [hz st hr]
      exact ⟨by decide, fun j => by cases j <;> exact Nat.zero_le _, fun j => by cases j <;> exact Nat.zero_le _⟩
end Go.Proofs.YtliapnhckdimoacGreatDoor
