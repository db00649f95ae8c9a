import Derived.Test.YtglpjoandgbngabTe
namespace Go.Proofs.Ytglpjoandgbngab
open Go.RowKit Go.Proofs.Sha

theorem vcommit_any (v : Nat) (root : ByteArray) (w : World) : Calls Try.prog 136 #[.int .i64 (v : Int), .string root] w fun e w' => e = .returned (.bool (decide (1 ≤ v ∧ v ≤ 1000000 ∧ root.size ≤ 32))) ∧ w = w' := by
  by_cases h1 : 1 ≤ v
  · by_cases h2 : v ≤ 1000000
    · by_cases h3 : root.size ≤ 32
      · have z1 : decide ((1 : Int) ≤ (v : Int)) = true := by simp; omega
        have z2 : decide ((v : Int) ≤ 1000000) = true := by simp; omega
        have z3 : decide ((root.size : Int) ≤ 32) = true := by simp; omega
        rw [decide_eq_true ⟨h1, h2, h3⟩]
        go_enter Try.func136, Try.ntmps136
        go_wp2
        go_ret
        exact ⟨rfl, rfl⟩
      · have z1 : decide ((1 : Int) ≤ (v : Int)) = true := by simp; omega
        have z2 : decide ((v : Int) ≤ 1000000) = true := by simp; omega
        have z3 : decide ((root.size : Int) ≤ 32) = false := by simp; omega
        rw [decide_eq_false (by omega)]
        go_enter Try.func136, Try.ntmps136
        go_wp2
        go_ret
        exact ⟨rfl, rfl⟩
    · have z1 : decide ((1 : Int) ≤ (v : Int)) = true := by simp; omega
      have z2 : decide ((v : Int) ≤ 1000000) = false := by simp; omega
      rw [decide_eq_false (by omega)]
      go_enter Try.func136, Try.ntmps136
      go_wp2
      go_ret
      exact ⟨rfl, rfl⟩
  · have z1 : decide ((1 : Int) ≤ (v : Int)) = false := by simp; omega
    rw [decide_eq_false (by omega)]
    go_enter Try.func136, Try.ntmps136
    go_wp2
    go_ret
    exact ⟨rfl, rfl⟩

/-- What commitForm.take answers and leaves. -/
def KR (s : ByteArray) (a : Nat) (f : Bool) (v : Nat) (root : ByteArray) (a' : Nat) (f' : Bool) : Prop :=
  ∃ (t1 : ByteArray) (a1 : Nat) (f1 f2 : Bool), NX s a f 4 t1 a1 f1 ∧ v = valTo 4 true (byteAt t1) t1.size ∧ SX 1 false s a1 f1 root a' f2 ∧ f' = (f2 || !decide (1 ≤ v ∧ v ≤ 1000000 ∧ root.size ≤ 32))

theorem RB.s2 {g : Nat} {k : Int} {enc : ByteArray} {v : Int} {root : ByteArray} {nx : Int} {w : World} (h : RB g k enc v root nx w) (x : Int) : RB g k enc x root nx (w.setCell ⟨g, 2, none⟩ (.int .i64 x)) := heap_setCell_same w g 2 _ 34 _ h
theorem RB.s3 {g : Nat} {k : Int} {enc : ByteArray} {v : Int} {root : ByteArray} {nx : Int} {w : World} (h : RB g k enc v root nx w) (x : ByteArray) : RB g k enc v x nx (w.setCell ⟨g, 3, none⟩ (.string x)) := heap_setCell_same w g 3 _ 34 _ h

/-- What stands while a commit is read. -/
structure KS (w : World) (fb r : Nat) (s : ByteArray) (a : Nat) (f : Bool) (v : Int) (root : ByteArray) (W : World) : Prop where
  sz : w.heap.size = fb
  lt : r < fb
  rd : Rd r s a f W
  mv : Mv r w W
  rb : RB (fb + 1) 0 ⟨#[]⟩ 0 ⟨#[]⟩ 0 W
  nb : RB (fb + 1 + 1) 2 ⟨#[]⟩ v root 0 W
section
variable {w : World} {fb r : Nat} {s : ByteArray} {a : Nat} {f : Bool} {v : Int} {root : ByteArray} {W W' : World}
theorem KS.below (h : KS w fb r s a f v root W) (hb : Below W.heap.size W W') : KS w fb r s a f v root W' :=
  ⟨h.sz, h.lt, h.rd.below hb, h.mv.trans (Mv.of_below r hb), below_cells hb h.rb, below_cells hb h.nb⟩
theorem KS.move (h : KS w fb r s a f v root W) {a' : Nat} {f' : Bool} (hr : Rd r s a' f' W') (hm : Mv r W W') : KS w fb r s a' f' v root W' :=
  have hl := h.lt
  ⟨h.sz, h.lt, hr, h.mv.trans hm, hm.cells h.rb (by omega), hm.cells h.nb (by omega)⟩
theorem KS.s2 (h : KS w fb r s a f v root W) (y : Int) : KS w fb r s a f y root (W.setCell ⟨fb + 1 + 1, 2, none⟩ (.int .i64 y)) :=
  have hl := h.lt
  ⟨h.sz, h.lt, h.rd.other (by omega), h.mv.other h.sz (by omega), set_other h.rb (by omega), h.nb.s2 y⟩
theorem KS.s3 (h : KS w fb r s a f v root W) (y : ByteArray) : KS w fb r s a f v y (W.setCell ⟨fb + 1 + 1, 3, none⟩ (.string y)) :=
  have hl := h.lt
  ⟨h.sz, h.lt, h.rd.other (by omega), h.mv.other h.sz (by omega), set_other h.rb (by omega), h.nb.s3 y⟩
end

set_option maxRecDepth 100000 in
set_option maxHeartbeats 1000000 in
theorem commit_take (r : Nat) (s : ByteArray) (a : Nat) (f : Bool) (w : World) (h : Rd r s a f w) (ha : a ≤ s.size) (hs : s.size ≤ 1048576) :
    Calls Try.prog 135 #[.agg #[], .pointer (some ⟨r, 0, none⟩)] w fun e w' => ∃ (v : Nat) (root : ByteArray) (a' : Nat) (f' : Bool), e = .returned (recV 2 ⟨#[]⟩ (v : Int) root 0) ∧ Hid (KR s a f v root a' f') ∧ a' ≤ s.size ∧ Rd r s a' f' w' ∧ Mv r w w' := by
  have hlt := h.lt
  obtain ⟨fb, hfb⟩ : ∃ fb, w.heap.size = fb := ⟨_, rfl⟩
  obtain ⟨w0, hw0⟩ : ∃ w0, w0 = ((w.alloc (.cells #[] 134)).alloc (.cells #[.int .i64 0, .string ⟨#[]⟩, .int .i64 0, .string ⟨#[]⟩, .int .i64 0] 34)).alloc (.cells #[.int .i64 2, .string ⟨#[]⟩, .int .i64 0, .string ⟨#[]⟩, .int .i64 0] 34) := ⟨_, rfl⟩
  have hS0 : KS w fb r s a f 0 ⟨#[]⟩ w0 := by
    refine ⟨hfb, by omega, ?_, ?_, ?_, ?_⟩
    · rw [hw0]; exact ((h.alloc _).alloc _).alloc _
    · rw [hw0]; exact (((Mv.refl r w).alloc _).alloc _).alloc _
    · rw [hw0]; refine below_cells ((Below.refl _ _).alloc (Nat.le_refl _) _) ?_
      rw [show fb + 1 = (w.alloc (.cells #[] 134)).heap.size by simp [hfb]]; exact heap_alloc_new _ _
    · rw [hw0]; unfold RB; rw [show fb + 1 + 1 = ((w.alloc (.cells #[] 134)).alloc (.cells #[.int .i64 0, .string ⟨#[]⟩, .int .i64 0, .string ⟨#[]⟩, .int .i64 0] 34)).heap.size by simp [hfb]]; exact heap_alloc_new _ _
  go_enter Try.func135, Try.ntmps135
  go_wp2_with fail
  rw [← hw0]
  clear hw0 h
  refine (recNum_any _).mono ?_
  rintro e w1 ⟨rfl, hb1⟩
  have hS1 := hS0.below hb1
  clear hS0 hb1
  go_wp2_with fail
  refine (rint 4 true r s a f _ hS1.rd ha hs (by omega) (by omega)).mono ?_
  rintro e w2 ⟨v, t1, a1, f1, rfl, H1, HV, ha1, hv, hr2, hm2⟩
  have hS2 := hS1.move hr2 hm2
  clear hS1 hr2 hm2
  have c2 : w2.cell? ⟨fb + 1 + 1, 2, none⟩ = some (.int .i64 0) := Lib.cell_of_heap hS2.nb 2
  have g2 : w2.frozen? ⟨fb + 1 + 1, 2, none⟩ = false := frozen_of_heap hS2.nb
  go_wp2_with fail
  obtain ⟨w3, hw3⟩ : ∃ w3, w3 = w2.setCell ⟨fb + 1 + 1, 2, none⟩ (.int .i64 (v : Int)) := ⟨_, rfl⟩
  have hS3 : KS w fb r s a1 f1 (v : Int) ⟨#[]⟩ w3 := by rw [hw3]; exact hS2.s2 _
  rw [← hw3]
  clear hw3 hS2 c2 g2
  refine (rsized 1 false r s a1 f1 _ hS3.rd ha1 hs (by omega) (by omega)).mono ?_
  rintro e w4 ⟨root, a', f2, rfl, H2, ha', hrt, hr4, hm4⟩
  have hS4 := hS3.move hr4 hm4
  clear hS3 hr4 hm4
  have HK : Hid (∀ f', f' = (f2 || !decide (1 ≤ v ∧ v ≤ 1000000 ∧ root.size ≤ 32)) → KR s a f v root a' f') := fun f' hf' => ⟨t1, a1, f1, f2, H1.out, HV.out, H2.out, hf'⟩
  obtain ⟨z, hz⟩ : ∃ z, decide (1 ≤ v ∧ v ≤ 1000000 ∧ root.size ≤ 32) = z := ⟨_, rfl⟩
  have HVc : Hid (∀ w', Calls Try.prog 136 #[.int .i64 (v : Int), .string root] w' fun e w'' => e = .returned (.bool z) ∧ w' = w'') := fun w' => by rw [← hz]; exact vcommit_any v root w'
  rw [hz] at HK
  clear H1 HV H2 hz
  have c3 : w4.cell? ⟨fb + 1 + 1, 3, none⟩ = some (.string ⟨#[]⟩) := Lib.cell_of_heap hS4.nb 3
  have g3 : w4.frozen? ⟨fb + 1 + 1, 3, none⟩ = false := frozen_of_heap hS4.nb
  have c2 : w4.cell? ⟨fb + 1 + 1, 2, none⟩ = some (.int .i64 (v : Int)) := Lib.cell_of_heap hS4.nb 2
  go_wp2_with fail
  obtain ⟨w5, hw5⟩ : ∃ w5, w5 = w4.setCell ⟨fb + 1 + 1, 3, none⟩ (.string root) := ⟨_, rfl⟩
  have hS5 : KS w fb r s a' f2 (v : Int) root w5 := by rw [hw5]; exact hS4.s3 _
  rw [← hw5]
  clear hw5 hS4 c3 g3 c2
  refine (HVc.out _).mono ?_
  rintro e w6 ⟨rfl, rfl⟩
  have HEnd : Hid (∀ (W : World) (f' : Bool), f' = (f2 || !z) → KS w fb r s a' f' (v : Int) root W → ∀ (A : Act), A.tmps.getD 4 undef = .pointer (some ⟨fb + 1, 0, none⟩) → A.defers = [] →
      bodyPost Try.prog Try.f135 (fun e w' => ∃ (v : Nat) (root : ByteArray) (a' : Nat) (f' : Bool), e = .returned (recV 2 ⟨#[]⟩ (v : Int) root 0) ∧ Hid (KR s a f v root a' f') ∧ a' ≤ s.size ∧ Rd r s a' f' w' ∧ Mv r w w') .ret A
        (((((W.setCell ⟨fb + 1, 0, none⟩ (.int .i64 2)).setCell ⟨fb + 1, 1, none⟩ (.string ⟨#[]⟩)).setCell ⟨fb + 1, 2, none⟩ (.int .i64 (v : Int))).setCell ⟨fb + 1, 3, none⟩ (.string root)).setCell ⟨fb + 1, 4, none⟩ (.int .i64 0))) := by
    intro W f' hf' hS A h4 hd
    have hF := fin5 hS.rd hS.mv hfb (Nat.le_succ fb) (by omega)
    exact retRec rfl (RecAt.set5 (RB.at hS.rb) 2 ⟨#[]⟩ (v : Int) root 0) h4 hd ⟨v, root, a', f', rfl, HK.out f' hf', ha', (hF _ _ _ _ _).1, (hF _ _ _ _ _).2⟩
  clear HK HVc
  cases z
  · go_wp2_with fail
    refine (fail_any r s a' f2 _ hS5.rd).mono ?_
    rintro e w7 ⟨rfl, hr7, hm7⟩
    have hS7 := hS5.move hr7 hm7
    obtain ⟨c0, c1, c2, c3, c4, g0, g1, g2, g3, g4⟩ := RB.at hS7.rb
    obtain ⟨d0, d1, d2, d3, d4, k0, k1, k2, k3, k4⟩ := RB.at hS7.nb
    go_wp2_with fail
    exact HEnd.out _ true (by simp) hS7 _ rfl rfl
  · obtain ⟨c0, c1, c2, c3, c4, g0, g1, g2, g3, g4⟩ := RB.at hS5.rb
    obtain ⟨d0, d1, d2, d3, d4, k0, k1, k2, k3, k4⟩ := RB.at hS5.nb
    go_wp2_with fail
    exact HEnd.out _ f2 (by simp) hS5 _ rfl rfl
end Go.Proofs.Ytglpjoandgbngab
