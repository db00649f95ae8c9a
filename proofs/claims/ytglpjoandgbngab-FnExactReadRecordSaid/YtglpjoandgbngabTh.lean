import Derived.Test.YtglpjoandgbngabTg
namespace Go.Proofs.Ytglpjoandgbngab
open Go.RowKit Go.Proofs.Sha

/-- A commit with zeros behind is read. -/
def QX (s : ByteArray) (a : Nat) (f : Bool) (k : Int) (enc : ByteArray) (v : Int) (root : ByteArray) (nx : Int) (a' : Nat) (f' : Bool) : Prop :=
  ∃ (a1 : Nat) (f1 : Bool) (n : Nat) (rt t2 : ByteArray) (f2 : Bool), KR s a f n rt a1 f1 ∧ (f1 = false → k = 2 ∧ enc = ⟨#[]⟩ ∧ v = (n : Int) ∧ root = rt ∧ nx = 0) ∧ a1 ≤ s.size ∧ NX s a1 f1 (gap a1) t2 a' f2 ∧ f' = (f2 || !zeroT t2)

/-- What stands while a padded record is read. -/
structure PS (w : World) (fb r : Nat) (s : ByteArray) (a : Nat) (f : Bool) (g : Nat) (k : Int) (enc : ByteArray) (v : Int) (root : ByteArray) (nx : Int) (W : World) : Prop where
  sz : w.heap.size = fb
  lt : r < fb
  gb : fb + 1 < g
  rd : Rd r s a f W
  mv : Mv r w W
  rb : RB (fb + 1) 0 ⟨#[]⟩ 0 ⟨#[]⟩ 0 W
  nb : RB g k enc v root nx W
section
variable {w : World} {fb r g : Nat} {s : ByteArray} {a : Nat} {f : Bool} {k v nx : Int} {enc root : ByteArray} {W W' : World}
theorem PS.below (h : PS w fb r s a f g k enc v root nx W) (hb : Below W.heap.size W W') : PS w fb r s a f g k enc v root nx W' :=
  ⟨h.sz, h.lt, h.gb, h.rd.below hb, h.mv.trans (Mv.of_below r hb), below_cells hb h.rb, below_cells hb h.nb⟩
theorem PS.move (h : PS w fb r s a f g k enc v root nx W) {a' : Nat} {f' : Bool} (hr : Rd r s a' f' W') (hm : Mv r W W') : PS w fb r s a' f' g k enc v root nx W' :=
  have hl := h.lt; have hg := h.gb
  ⟨h.sz, h.lt, h.gb, hr, h.mv.trans hm, hm.cells h.rb (by omega), hm.cells h.nb (by omega)⟩
end

set_option maxRecDepth 100000 in
set_option maxHeartbeats 1000000 in
theorem padR_take (r : Nat) (s : ByteArray) (a : Nat) (f : Bool) (w : World) (h : Rd r s a f w) (ha : a ≤ s.size) (hs : s.size ≤ 90000) :
    Calls Try.prog 133 #[.agg #[.iface 134 (.agg #[])], .pointer (some ⟨r, 0, none⟩)] w fun e w' => ∃ (k v nx : Int) (enc root : ByteArray) (a' : Nat) (f' : Bool), e = .returned (recV k enc v root nx) ∧ Hid (QX s a f k enc v root nx a' f') ∧ a' ≤ s.size ∧ Rd r s a' f' w' ∧ Mv r w w' := by
  have HS : Hid (∀ w', Rd r s a f w' → Calls Try.prog 39 #[.pointer (some ⟨r, 0, none⟩), .iface 134 (.agg #[])] w' fun e w'' => ∃ (k v nx : Int) (enc root : ByteArray) (a1 : Nat) (f1 : Bool), e = .returned (recV k enc v root nx) ∧ Hid (∃ (n : Nat) (rt : ByteArray), KR s a f n rt a1 f1 ∧ (f1 = false → k = 2 ∧ enc = ⟨#[]⟩ ∧ v = (n : Int) ∧ root = rt ∧ nx = 0)) ∧ a1 ≤ s.size ∧ Rd r s a1 f1 w'' ∧ Mv r w' w'') := by
    intro w' h'
    refine (rrec_commit (fun k enc v root nx a1 f1 => ∃ (n : Nat) (rt : ByteArray), KR s a f n rt a1 f1 ∧ k = 2 ∧ enc = ⟨#[]⟩ ∧ v = (n : Int) ∧ root = rt ∧ nx = 0) r s a f w' h' ?_).mono ?_
    · intro w2 h2
      refine (commit_take r s a f w2 h2 ha (by omega)).mono ?_
      rintro e w3 ⟨n, rt, a1, f1, rfl, HK, ha1, hr3, hm3⟩
      exact ⟨2, (n : Int), 0, ⟨#[]⟩, rt, a1, f1, rfl, ⟨n, rt, HK.out, rfl, rfl, rfl, rfl, rfl⟩, ha1, hr3, hm3⟩
    · rintro e w3 ⟨k, v, nx, enc, root, a1, f1, rfl, HK, ha1, hr3, hm3⟩
      obtain ⟨n, rt, hK, hh⟩ := HK.out
      cases f1
      · exact ⟨k, v, nx, enc, root, a1, false, rfl, ⟨n, rt, hK, fun _ => hh⟩, ha1, hr3, hm3⟩
      · exact ⟨0, 0, 0, ⟨#[]⟩, ⟨#[]⟩, a1, true, rfl, ⟨n, rt, hK, fun h => by cases h⟩, ha1, hr3, hm3⟩
  have hlt := h.lt
  obtain ⟨fb, hfb⟩ : ∃ fb, w.heap.size = fb := ⟨_, rfl⟩
  obtain ⟨w0, hw0⟩ : ∃ w0, w0 = (w.alloc (.cells #[.iface 134 (.agg #[])] 129)).alloc (.cells #[.int .i64 0, .string ⟨#[]⟩, .int .i64 0, .string ⟨#[]⟩, .int .i64 0] 34) := ⟨_, rfl⟩
  have hr0 : Rd r s a f w0 := by rw [hw0]; exact (h.alloc _).alloc _
  have hm0 : Mv r w w0 := by rw [hw0]; exact ((Mv.refl r w).alloc _).alloc _
  have hb0 : RB (fb + 1) 0 ⟨#[]⟩ 0 ⟨#[]⟩ 0 w0 := by
    rw [hw0]; unfold RB; rw [show fb + 1 = (w.alloc (.cells #[.iface 134 (.agg #[])] 129)).heap.size by simp [hfb]]; exact heap_alloc_new _ _
  have hz0 : fb + 2 ≤ w0.heap.size := by rw [hw0]; simp [hfb]
  go_enter Try.func133, Try.ntmps133
  go_wp2_with fail
  rw [← hw0]
  clear hw0 h
  refine (HS.out _ hr0).mono ?_
  rintro e w1 ⟨k, v, nx, enc, root, a1, f1, rfl, HK, ha1, hr1, hm1⟩
  obtain ⟨gg, hgg⟩ : ∃ gg, w1.heap.size = gg := ⟨_, rfl⟩
  have hz1 := Nat.le_trans hz0 hm1.size
  have hS2 : PS w fb r s a1 f1 gg k enc v root nx (w1.alloc (.cells #[.int .i64 k, .string enc, .int .i64 v, .string root, .int .i64 nx] 34)) :=
    ⟨hfb, by omega, by omega, hr1.alloc _, (hm0.trans hm1).alloc _, below_cells ((Below.refl _ _).alloc (Nat.le_refl _) _) (hm1.cells hb0 (by omega)), by unfold RB; rw [← hgg]; exact heap_alloc_new _ _⟩
  clear hr0 hm0 hb0 hz0 hr1 hm1 hz1 HS
  obtain ⟨g, hg⟩ : ∃ g, gap a1 = g := ⟨_, rfl⟩
  have g63 : g < 63 := by rw [← hg]; exact gap_lt _
  have HM : Hid (∀ w', Calls Try.prog 99 #[.int .i64 (a1 : Int)] w' fun e w'' => e = .returned (.int .i64 (g : Int)) ∧ w' = w'') := fun w' => by rw [← hg]; exact missing_any a1 w' (by omega)
  have HN : Hid (∀ w', Rd r s a1 f1 w' → Calls Try.prog 89 #[.pointer (some ⟨r, 0, none⟩), .int .i64 (g : Int)] w' fun e w'' => ∃ t a' f', e = .returned (.string t) ∧ Hid (NX s a1 f1 g t a' f') ∧ a' ≤ s.size ∧ t.size ≤ s.size ∧ Rd r s a' f' w'' ∧ Mv r w' w'') := fun w' h' => next_any r s a1 f1 g w' h' ha1 (by omega) (by omega)
  have HG : Hid (gap a1 = g) := hg
  have c1 : (w1.alloc (.cells #[.int .i64 k, .string enc, .int .i64 v, .string root, .int .i64 nx] 34)).cell? ⟨r, 1, none⟩ = some (.int .i64 (a1 : Int)) := Lib.cell_of_heap hS2.rd 1
  clear hg
  go_wp2_with fail
  refine (HM.out _).mono ?_
  rintro e w2 ⟨rfl, rfl⟩
  clear c1
  go_wp2_with fail
  refine (HN.out _ hS2.rd).mono ?_
  rintro e w3 ⟨t2, a2, f2, rfl, HX2, ha2, ht2, hr3, hm3⟩
  have hS3 := hS2.move hr3 hm3
  clear hS2 hr3 hm3
  go_wp2_with fail
  refine (trim_any t2 _ (by omega)).mono ?_
  rintro e w4 ⟨y, rfl, HY, hb4⟩
  have hS4 := hS3.below hb4
  have HP : Hid (∀ f', f' = (f2 || !zeroT t2) → QX s a f k enc v root nx a2 f') := fun f' hf' => by
    obtain ⟨n, rt, hK, hh⟩ := HK.out
    exact ⟨a1, f1, n, rt, t2, f2, hK, hh, ha1, by rw [HG.out]; exact HX2.out, hf'⟩
  clear hb4 hS3 HK HX2 HM HN
  obtain ⟨z, hz⟩ : ∃ z, zeroT t2 = z := ⟨_, rfl⟩
  have ye : y.toList.isEmpty = z := by rw [HY.out, hz]
  rw [hz] at HP
  have HEnd : Hid (∀ (W : World) (f' : Bool), f' = (f2 || !z) → PS w fb r s a2 f' gg k enc v root nx W → ∀ (A : Act), A.tmps.getD 4 undef = .pointer (some ⟨fb + 1, 0, none⟩) → A.defers = [] →
      bodyPost Try.prog Try.f133 (fun e w' => ∃ (k v nx : Int) (enc root : ByteArray) (a' : Nat) (f' : Bool), e = .returned (recV k enc v root nx) ∧ Hid (QX s a f k enc v root nx a' f') ∧ a' ≤ s.size ∧ Rd r s a' f' w' ∧ Mv r w w') .ret A
        (((((W.setCell ⟨fb + 1, 0, none⟩ (.int .i64 k)).setCell ⟨fb + 1, 1, none⟩ (.string enc)).setCell ⟨fb + 1, 2, none⟩ (.int .i64 v)).setCell ⟨fb + 1, 3, none⟩ (.string root)).setCell ⟨fb + 1, 4, none⟩ (.int .i64 nx))) := by
    intro W f' hf' hS A h4 hd
    have hF := fin5 hS.rd hS.mv hfb (Nat.le_succ fb) (by omega)
    exact retRec rfl (RecAt.set5 (RB.at hS.rb) k enc v root nx) h4 hd ⟨k, v, nx, enc, root, a2, f', rfl, HP.out f' hf', ha2, (hF _ _ _ _ _).1, (hF _ _ _ _ _).2⟩
  clear HY hz HP HG
  cases z
  · go_wp2_with fail
    refine (fail_any r s a2 f2 _ hS4.rd).mono ?_
    rintro e w5 ⟨rfl, hr5, hm5⟩
    have hS5 := hS4.move hr5 hm5
    obtain ⟨c0, c1, c2, c3, c4, g0, g1, g2, g3, g4⟩ := RB.at hS5.rb
    obtain ⟨d0, d1, d2, d3, d4, k0, k1, k2, k3, k4⟩ := RB.at hS5.nb
    go_wp2_with fail
    exact HEnd.out _ true (by simp) hS5 _ rfl rfl
  · obtain ⟨c0, c1, c2, c3, c4, g0, g1, g2, g3, g4⟩ := RB.at hS4.rb
    obtain ⟨d0, d1, d2, d3, d4, k0, k1, k2, k3, k4⟩ := RB.at hS4.nb
    go_wp2_with fail
    exact HEnd.out _ f2 (by simp) hS4 _ rfl rfl
end Go.Proofs.Ytglpjoandgbngab
