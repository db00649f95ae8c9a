import Derived.Test.YtmfhfehemoeeeaaGreatDoorZsar
set_option maxRecDepth 100000
set_option maxHeartbeats 1000000
namespace Go.Proofs.YtmfhfehemoeeeaaGreatDoor
open Go.RowKit Go.Proofs.Sha

/-- A commit with zeros behind is read. -/
def QX (s : ByteArray) (a : Nat) (f : Bool) (k : Int) (enc : ByteArray) (v : Int) (root : ByteArray) (nx : Int) (a' : Nat) (f' : Bool) : Prop :=
  ∃ (a1 : Nat) (f1 : Bool) (n : Nat) (rt t2 : ByteArray) (f2 : Bool), KR s a f n rt a1 f1 ∧ (f1 = false → k = 2 ∧ enc = ⟨#[]⟩ ∧ v = (n : Int) ∧ root = rt ∧ nx = 0) ∧ a1 ≤ s.size ∧ NX s a1 f1 (gap a1) t2 a' f2 ∧ f' = (f2 || !zeroT t2)

/-- What stands while a padded record is read. -/
structure PSr (w : World) (fb r : Nat) (s : ByteArray) (a : Nat) (f : Bool) (g : Nat) (k : Int) (enc : ByteArray) (v : Int) (root : ByteArray) (nx : Int) (W : World) : Prop where
  sz : w.heap.size = fb
  lt : r < fb
  gb : fb + 1 < g
  rd : Rd r s a f W
  mv : Mv r w W
  rb : RB (fb + 1) 0 ⟨#[]⟩ 0 ⟨#[]⟩ 0 W
  nb : RB g k enc v root nx W
section
variable {w : World} {fb r g : Nat} {s : ByteArray} {a : Nat} {f : Bool} {k v nx : Int} {enc root : ByteArray} {W W' : World}
theorem PSr.below (h : PSr w fb r s a f g k enc v root nx W) (hb : Below W.heap.size W W') : PSr w fb r s a f g k enc v root nx W' :=
  ⟨h.sz, h.lt, h.gb, h.rd.below hb, h.mv.trans (Mv.of_below r hb), below_cells hb h.rb, below_cells hb h.nb⟩
theorem PSr.move (h : PSr w fb r s a f g k enc v root nx W) {a' : Nat} {f' : Bool} (hr : Rd r s a' f' W') (hm : Mv r W W') : PSr w fb r s a' f' g k enc v root nx W' :=
  have hl := h.lt; have hg := h.gb
  ⟨h.sz, h.lt, h.gb, hr, h.mv.trans hm, hm.cells h.rb (by omega), hm.cells h.nb (by omega)⟩
end

theorem padR_take (r : Nat) (s : ByteArray) (a : Nat) (f : Bool) (w : World) (h : Rd r s a f w) (ha : a ≤ s.size) (hs : s.size ≤ 90000) :
    Calls Tryz.prog 200 #[.agg #[.iface 219 (.agg #[])], .pointer (some ⟨r, 0, none⟩)] w fun e w' => ∃ (k v nx : Int) (enc root : ByteArray) (a' : Nat) (f' : Bool), e = .returned (recV k enc v root nx) ∧ Hid (QX s a f k enc v root nx a' f') ∧ a' ≤ s.size ∧ Rd r s a' f' w' ∧ Mv r w w' := by
  have HS : Hid (∀ w', Rd r s a f w' → Calls Tryz.prog 96 #[.pointer (some ⟨r, 0, none⟩), .iface 219 (.agg #[])] w' fun e w'' => ∃ (k v nx : Int) (enc root : ByteArray) (a1 : Nat) (f1 : Bool), e = .returned (recV k enc v root nx) ∧ Hid (∃ (n : Nat) (rt : ByteArray), KR s a f n rt a1 f1 ∧ (f1 = false → k = 2 ∧ enc = ⟨#[]⟩ ∧ v = (n : Int) ∧ root = rt ∧ nx = 0)) ∧ a1 ≤ s.size ∧ Rd r s a1 f1 w'' ∧ Mv r w' w'') := by
    intro w' h'
    refine (rrec_commit (fun k enc v root nx a1 f1 => ∃ (n : Nat) (rt : ByteArray), KR s a f n rt a1 f1 ∧ k = 2 ∧ enc = ⟨#[]⟩ ∧ v = (n : Int) ∧ root = rt ∧ nx = 0) r s a f w' h' ?_).mono ?_
    · intro w2 h2
      refine (commit_take r s a f w2 h2 ha (by omega)).mono ?_
      rintro e w3 ⟨n, rt, a1, f1, rfl, HK, ha1, hr3, hm3⟩
      exact ⟨2, (n : Int), 0, ⟨#[]⟩, rt, a1, f1, rfl, ⟨n, rt, HK.out, rfl, rfl, rfl, rfl, rfl⟩, ha1, hr3, hm3⟩
    · rintro e w3 ⟨k, v, nx, enc, root, a1, f1, rfl, HK, ha1, hr3, hm3⟩
      obtain ⟨n, rt, hK, hh⟩ := HK.out
      cases f1
      · exact ⟨k, v, nx, enc, root, a1, false, rfl, ⟨n, rt, hK, fun _ => hh⟩, ha1, hr3, hm3⟩
      · exact ⟨0, 0, 0, ⟨#[]⟩, ⟨#[]⟩, a1, true, rfl, ⟨n, rt, hK, fun h => by cases h⟩, ha1, hr3, hm3⟩
  have hlt := h.lt
  obtain ⟨fb, hfb⟩ : ∃ fb, w.heap.size = fb := ⟨_, rfl⟩
  obtain ⟨w0, hw0⟩ : ∃ w0, w0 = (w.alloc (.cells #[.iface 219 (.agg #[])] 215)).alloc (.cells #[.int .i64 0, .string ⟨#[]⟩, .int .i64 0, .string ⟨#[]⟩, .int .i64 0] 66) := ⟨_, rfl⟩
  have hr0 : Rd r s a f w0 := by rw [hw0]; exact (h.alloc _).alloc _
  have hm0 : Mv r w w0 := by rw [hw0]; exact ((Mv.refl r w).alloc _).alloc _
  have hb0 : RB (fb + 1) 0 ⟨#[]⟩ 0 ⟨#[]⟩ 0 w0 := by
    rw [hw0]; unfold RB; rw [show fb + 1 = (w.alloc (.cells #[.iface 219 (.agg #[])] 215)).heap.size by simp [hfb]]; exact heap_alloc_new _ _
  have hz0 : fb + 2 ≤ w0.heap.size := by rw [hw0]; simp [hfb]
  go_enter Tryz.func200, Tryz.ntmps200
  go_wp2_with fail
  rw [← hw0]
  clear hw0 h
  refine (HS.out _ hr0).mono ?_
  rintro e w1 ⟨k, v, nx, enc, root, a1, f1, rfl, HK, ha1, hr1, hm1⟩
  obtain ⟨gg, hgg⟩ : ∃ gg, w1.heap.size = gg := ⟨_, rfl⟩
  have hz1 := Nat.le_trans hz0 hm1.size
  have hS2 : PSr w fb r s a1 f1 gg k enc v root nx (w1.alloc (.cells #[.int .i64 k, .string enc, .int .i64 v, .string root, .int .i64 nx] 66)) :=
    ⟨hfb, by omega, by omega, hr1.alloc _, (hm0.trans hm1).alloc _, below_cells ((Below.refl _ _).alloc (Nat.le_refl _) _) (hm1.cells hb0 (by omega)), by unfold RB; rw [← hgg]; exact heap_alloc_new _ _⟩
  clear hr0 hm0 hb0 hz0 hr1 hm1 hz1 HS
  obtain ⟨g, hg⟩ : ∃ g, gap a1 = g := ⟨_, rfl⟩
  have g63 : g < 63 := by rw [← hg]; exact gap_lt _
  have HM : Hid (∀ w', Calls Tryz.prog 159 #[.int .i64 (a1 : Int)] w' fun e w'' => e = .returned (.int .i64 (g : Int)) ∧ w' = w'') := fun w' => by rw [← hg]; exact missing_any a1 w' (by omega)
  have HN : Hid (∀ w', Rd r s a1 f1 w' → Calls Tryz.prog 162 #[.pointer (some ⟨r, 0, none⟩), .int .i64 (g : Int)] w' fun e w'' => ∃ t a' f', e = .returned (.string t) ∧ Hid (NX s a1 f1 g t a' f') ∧ a' ≤ s.size ∧ t.size ≤ s.size ∧ Rd r s a' f' w'' ∧ Mv r w' w'') := fun w' h' => next_any r s a1 f1 g w' h' ha1 (by omega) (by omega)
  have HG : Hid (gap a1 = g) := hg
  have c1 : (w1.alloc (.cells #[.int .i64 k, .string enc, .int .i64 v, .string root, .int .i64 nx] 66)).cell? ⟨r, 1, none⟩ = some (.int .i64 (a1 : Int)) := Lib.cell_of_heap hS2.rd 1
  clear hg
  go_wp2_with fail
  refine (HM.out _).mono ?_
  rintro e w2 ⟨rfl, rfl⟩
  clear c1
  go_wp2_with fail
  refine (HN.out _ hS2.rd).mono ?_
  rintro e w3 ⟨t2, a2, f2, rfl, HX2, ha2, ht2, hr3, hm3⟩
  have hS3 := hS2.move hr3 hm3
  clear hS2 hr3 hm3
  go_wp2_with fail
  refine (trim_any t2 _ (by omega)).mono ?_
  rintro e w4 ⟨y, rfl, HY, hb4⟩
  have hS4 := hS3.below hb4
  have HP : Hid (∀ f', f' = (f2 || !zeroT t2) → QX s a f k enc v root nx a2 f') := fun f' hf' => by
    obtain ⟨n, rt, hK, hh⟩ := HK.out
    exact ⟨a1, f1, n, rt, t2, f2, hK, hh, ha1, by rw [HG.out]; exact HX2.out, hf'⟩
  clear hb4 hS3 HK HX2 HM HN
  obtain ⟨z, hz⟩ : ∃ z, zeroT t2 = z := ⟨_, rfl⟩
  have ye : y.toList.isEmpty = z := by rw [HY.out, hz]
  rw [hz] at HP
  have HEnd : Hid (∀ (W : World) (f' : Bool), f' = (f2 || !z) → PSr w fb r s a2 f' gg k enc v root nx W → ∀ (A : Act), A.tmps.getD 4 undef = .pointer (some ⟨fb + 1, 0, none⟩) → A.defers = [] →
      bodyPost Tryz.prog Tryz.f200 (fun e w' => ∃ (k v nx : Int) (enc root : ByteArray) (a' : Nat) (f' : Bool), e = .returned (recV k enc v root nx) ∧ Hid (QX s a f k enc v root nx a' f') ∧ a' ≤ s.size ∧ Rd r s a' f' w' ∧ Mv r w w') .ret A
        (((((W.setCell ⟨fb + 1, 0, none⟩ (.int .i64 k)).setCell ⟨fb + 1, 1, none⟩ (.string enc)).setCell ⟨fb + 1, 2, none⟩ (.int .i64 v)).setCell ⟨fb + 1, 3, none⟩ (.string root)).setCell ⟨fb + 1, 4, none⟩ (.int .i64 nx))) := by
    intro W f' hf' hS A h4 hd
    have hF := fin5 hS.rd hS.mv hfb (Nat.le_succ fb) (by omega)
    exact retRec rfl (RecAt.set5 (RB.at hS.rb) k enc v root nx) h4 hd ⟨k, v, nx, enc, root, a2, f', rfl, HP.out f' hf', ha2, (hF _ _ _ _ _).1, (hF _ _ _ _ _).2⟩
  clear HY hz HP HG
  cases z
  · go_wp2_with fail
    refine (fail_any r s a2 f2 _ hS4.rd).mono ?_
    rintro e w5 ⟨rfl, hr5, hm5⟩
    have hS5 := hS4.move hr5 hm5
    obtain ⟨c0, c1, c2, c3, c4, g0, g1, g2, g3, g4⟩ := RB.at hS5.rb
    obtain ⟨d0, d1, d2, d3, d4, k0, k1, k2, k3, k4⟩ := RB.at hS5.nb
    go_wp2_with fail
    exact HEnd.out _ true (by simp) hS5 _ rfl rfl
  · obtain ⟨c0, c1, c2, c3, c4, g0, g1, g2, g3, g4⟩ := RB.at hS4.rb
    obtain ⟨d0, d1, d2, d3, d4, k0, k1, k2, k3, k4⟩ := RB.at hS4.nb
    go_wp2_with fail
    exact HEnd.out _ f2 (by simp) hS4 _ rfl rfl
theorem ret82 {w : World} {g : Nat} {k : Int} {enc : ByteArray} {v : Int} {root : ByteArray} {nx : Int} (h : RecAt w g k enc v root nx) {a : Act} {R : Ending → World → Prop} (b : Bool) (h4 : a.tmps.getD 4 undef = .pointer (some ⟨g, 0, none⟩)) (h5 : a.tmps.getD 5 undef = .bool b) (hd : a.defers = [])
    (hR : R (.returned (.tuple #[recV k enc v root nx, .bool b])) w) : bodyPost Tryz.prog Tryz.f147 R .ret a w := by
  obtain ⟨c0, c1, c2, c3, c4, f0, f1, f2, f3, f4⟩ := h
  have h4' : a.tmps[4]?.getD undef = .pointer (some ⟨g, 0, none⟩) := by simpa using h4
  have h5' : a.tmps[5]?.getD undef = .bool b := by simpa using h5
  exact bodyPost_ret (v := .tuple #[recV k enc v root nx, .bool b]) (by simp [results, Tryz.results147, go_sem, h4', h5', asAddr, c0, c1, c2, c3, c4]) hd hR
/-- What readWhole of a record answers. -/
def wholeR (s : ByteArray) (k : Int) (enc : ByteArray) (v : Int) (root : ByteArray) (nx : Int) (a' : Nat) (f' : Bool) : Value := if f' = false ∧ a' = s.size then .tuple #[recV k enc v root nx, .bool true] else .tuple #[recV 0 ⟨#[]⟩ 0 ⟨#[]⟩ 0, .bool false]

theorem whole_R (s : ByteArray) (w : World) (hs : s.size ≤ 90000) :
    Calls Tryz.prog 147 #[.string s, .iface 215 (.agg #[.iface 219 (.agg #[])])] w fun e w' => ∃ (k v nx : Int) (enc root : ByteArray) (a' : Nat) (f' : Bool), e = .returned (wholeR s k enc v root nx a' f') ∧ Hid (QX s 0 false k enc v root nx a' f') ∧ a' ≤ s.size ∧ Below w.heap.size w w' := by
  obtain ⟨fb, hfb⟩ : ∃ fb, w.heap.size = fb := ⟨_, rfl⟩
  obtain ⟨w0, hw0⟩ : ∃ w0, w0 = (w.alloc (.cells #[.int .i64 0, .string ⟨#[]⟩, .int .i64 0, .string ⟨#[]⟩, .int .i64 0] 66)).alloc (.cells #[.string s, .int .i64 0, .bool false] 140) := ⟨_, rfl⟩
  have hr0 : Rd (fb + 1) s 0 false w0 := by
    rw [hw0]; unfold Rd; rw [show fb + 1 = (w.alloc (.cells #[.int .i64 0, .string ⟨#[]⟩, .int .i64 0, .string ⟨#[]⟩, .int .i64 0] 66)).heap.size by simp [hfb]]; exact heap_alloc_new _ _
  have hn0 : RB fb 0 ⟨#[]⟩ 0 ⟨#[]⟩ 0 w0 := by
    rw [hw0]; exact below_cells ((Below.refl _ _).alloc (Nat.le_refl _) _) (by rw [← hfb]; exact heap_alloc_new _ _)
  have hb0 : Below fb w w0 := by rw [hw0]; exact ((Below.refl _ _).alloc (by omega) _).alloc (by simp; omega) _
  have hs0 : w0.heap.size = fb + 2 := by rw [hw0]; simp [hfb]
  go_enter Tryz.func147, Tryz.ntmps147
  go_wp2_with fail
  rw [← hw0]
  clear hw0
  refine (rrec_pad (QX s 0 false) (fb + 1) s 0 false _ hr0 (fun w' h' => padR_take (fb + 1) s 0 false w' h' (by omega) hs)).mono ?_
  rintro e w1 ⟨k, v, nx, enc, root, a', f', he, HX, ha', hr1, hm1⟩
  have hn1 : RB fb 0 ⟨#[]⟩ 0 ⟨#[]⟩ 0 w1 := hm1.cells hn0 (by omega)
  have hb1 : Below fb w w1 := hb0.trans (hm1.to_below (by omega) (by omega))
  have A1 : ∀ o, (w1.alloc o).heap[fb + 1]? = some (.cells #[.string s, .int .i64 (a' : Int), .bool f'] 140) := fun o => hr1.alloc o
  have B1 : ∀ o, RB fb 0 ⟨#[]⟩ 0 ⟨#[]⟩ 0 (w1.alloc o) := fun o => below_cells ((Below.refl _ _).alloc (Nat.le_refl _) _) hn1
  have B2 : ∀ o o', RB fb 0 ⟨#[]⟩ 0 ⟨#[]⟩ 0 ((w1.alloc o).alloc o') := fun o o' => below_cells ((Below.refl _ _).alloc (Nat.le_refl _) _) (B1 o)
  have e1 : ∀ o, (w1.alloc o).cell? ⟨fb + 1, 1, none⟩ = some (.int .i64 (a' : Int)) := fun o => Lib.cell_of_heap (A1 o) 1
  have e2 : ∀ o, (w1.alloc o).cell? ⟨fb + 1, 2, none⟩ = some (.bool f') := fun o => Lib.cell_of_heap (A1 o) 2
  have b0 : ∀ o, (w1.alloc o).cell? ⟨fb, 0, none⟩ = some (.int .i64 0) := fun o => Lib.cell_of_heap (B1 o) 0
  have d0 : ∀ o, (w1.alloc o).frozen? ⟨fb, 0, none⟩ = false := fun o => frozen_of_heap (B1 o)
  have p0 : ∀ o o', ((w1.alloc o).alloc o').cell? ⟨fb, 0, none⟩ = some (.int .i64 0) := fun o o' => Lib.cell_of_heap (B2 o o') 0
  have q0 : ∀ o o', ((w1.alloc o).alloc o').frozen? ⟨fb, 0, none⟩ = false := fun o o' => frozen_of_heap (B2 o o')
  have b1 : ∀ o, (w1.alloc o).cell? ⟨fb, 1, none⟩ = some (.string ⟨#[]⟩) := fun o => Lib.cell_of_heap (B1 o) 1
  have d1 : ∀ o, (w1.alloc o).frozen? ⟨fb, 1, none⟩ = false := fun o => frozen_of_heap (B1 o)
  have p1 : ∀ o o', ((w1.alloc o).alloc o').cell? ⟨fb, 1, none⟩ = some (.string ⟨#[]⟩) := fun o o' => Lib.cell_of_heap (B2 o o') 1
  have q1 : ∀ o o', ((w1.alloc o).alloc o').frozen? ⟨fb, 1, none⟩ = false := fun o o' => frozen_of_heap (B2 o o')
  have b2 : ∀ o, (w1.alloc o).cell? ⟨fb, 2, none⟩ = some (.int .i64 0) := fun o => Lib.cell_of_heap (B1 o) 2
  have d2 : ∀ o, (w1.alloc o).frozen? ⟨fb, 2, none⟩ = false := fun o => frozen_of_heap (B1 o)
  have p2 : ∀ o o', ((w1.alloc o).alloc o').cell? ⟨fb, 2, none⟩ = some (.int .i64 0) := fun o o' => Lib.cell_of_heap (B2 o o') 2
  have q2 : ∀ o o', ((w1.alloc o).alloc o').frozen? ⟨fb, 2, none⟩ = false := fun o o' => frozen_of_heap (B2 o o')
  have b3 : ∀ o, (w1.alloc o).cell? ⟨fb, 3, none⟩ = some (.string ⟨#[]⟩) := fun o => Lib.cell_of_heap (B1 o) 3
  have d3 : ∀ o, (w1.alloc o).frozen? ⟨fb, 3, none⟩ = false := fun o => frozen_of_heap (B1 o)
  have p3 : ∀ o o', ((w1.alloc o).alloc o').cell? ⟨fb, 3, none⟩ = some (.string ⟨#[]⟩) := fun o o' => Lib.cell_of_heap (B2 o o') 3
  have q3 : ∀ o o', ((w1.alloc o).alloc o').frozen? ⟨fb, 3, none⟩ = false := fun o o' => frozen_of_heap (B2 o o')
  have b4 : ∀ o, (w1.alloc o).cell? ⟨fb, 4, none⟩ = some (.int .i64 0) := fun o => Lib.cell_of_heap (B1 o) 4
  have d4 : ∀ o, (w1.alloc o).frozen? ⟨fb, 4, none⟩ = false := fun o => frozen_of_heap (B1 o)
  have p4 : ∀ o o', ((w1.alloc o).alloc o').cell? ⟨fb, 4, none⟩ = some (.int .i64 0) := fun o o' => Lib.cell_of_heap (B2 o o') 4
  have q4 : ∀ o o', ((w1.alloc o).alloc o').frozen? ⟨fb, 4, none⟩ = false := fun o o' => frozen_of_heap (B2 o o')
  have HB1 : Hid (∀ o, RB fb 0 ⟨#[]⟩ 0 ⟨#[]⟩ 0 (w1.alloc o)) := B1
  have HB2 : Hid (∀ o o', RB fb 0 ⟨#[]⟩ 0 ⟨#[]⟩ 0 ((w1.alloc o).alloc o')) := B2
  have hsz1 : fb ≤ w1.heap.size := by have := hm1.size; omega
  clear A1 B1 B2 hn1 hm1 hr1 hr0 hn0 hb0 hs0
  have HBl1 : Hid (∀ o (x0 x1 x2 x3 x4 : Value), Below w.heap.size w ((((((w1.alloc o).setCell ⟨fb, 0, none⟩ x0).setCell ⟨fb, 1, none⟩ x1).setCell ⟨fb, 2, none⟩ x2).setCell ⟨fb, 3, none⟩ x3).setCell ⟨fb, 4, none⟩ x4)) := fun o x0 x1 x2 x3 x4 => by
    rw [hfb]; exact below5 (hb1.alloc hsz1 o) (Nat.le_refl _) _ _ _ _ _
  have HBl2 : Hid (∀ o o' (x0 x1 x2 x3 x4 : Value), Below w.heap.size w (((((((w1.alloc o).alloc o').setCell ⟨fb, 0, none⟩ x0).setCell ⟨fb, 1, none⟩ x1).setCell ⟨fb, 2, none⟩ x2).setCell ⟨fb, 3, none⟩ x3).setCell ⟨fb, 4, none⟩ x4)) := fun o o' x0 x1 x2 x3 x4 => by
    rw [hfb]; exact below5 ((hb1.alloc hsz1 o).alloc (by simp; omega) o') (Nat.le_refl _) _ _ _ _ _
  clear hb1 hsz1
  cases f'
  · rw [if_neg (by simp)] at he
    subst he
    by_cases hlt : a' < s.size
    · have z1 : decide ((a' : Int) < (s.size : Int)) = true := by simp; omega
      go_wp2_with fail
      refine ret82 (RecAt.set5 (RB.at (HB2.out _ _)) 0 ⟨#[]⟩ 0 ⟨#[]⟩ 0) false rfl rfl rfl ⟨k, v, nx, enc, root, a', false, ?_, HX, ha', HBl2.out _ _ _ _ _ _ _⟩
      unfold wholeR; rw [if_neg (by omega)]
    · have z1 : decide ((a' : Int) < (s.size : Int)) = false := by simp; omega
      go_wp2_with fail
      refine ret82 (RecAt.set5 (RB.at (HB1.out _)) k enc v root nx) true rfl rfl rfl ⟨k, v, nx, enc, root, a', false, ?_, HX, ha', HBl1.out _ _ _ _ _ _⟩
      unfold wholeR; rw [if_pos ⟨rfl, by omega⟩]
  · rw [if_pos rfl] at he
    subst he
    go_wp2_with fail
    refine ret82 (RecAt.set5 (RB.at (HB2.out _ _)) 0 ⟨#[]⟩ 0 ⟨#[]⟩ 0) false rfl rfl rfl ⟨k, v, nx, enc, root, a', true, ?_, HX, ha', HBl2.out _ _ _ _ _ _ _⟩
    unfold wholeR; rw [if_neg (by simp)]
theorem SX1 {s : ByteArray} {a : Nat} {f : Bool} {t : ByteArray} {a' : Nat} {f' : Bool} (h : SX 1 false s a f t a' f') (b : Nat) (hb : (s.data.toList.getD a 0).toNat = b) :
    (f = false ∧ a + 1 + b ≤ s.size ∧ t = s.extract (a + 1) (a + 1 + b) ∧ a' = a + 1 + b ∧ f' = false) ∨ ((f = true ∨ ¬ (a + 1 + b ≤ s.size)) ∧ f' = true) := by
  obtain ⟨t1, a1, f1, h1, h2⟩ := h
  rcases NX1 h1 with ⟨hf, hle, hv, ha1, hf1⟩ | ⟨hf, hf1⟩
  · rw [hv, hb] at h2
    subst ha1
    rcases h2 with ⟨_, hle2, ht, ha', hf'⟩ | ⟨hf2, _, _, hf'⟩
    · exact .inl ⟨hf, hle2, ht, ha', hf'⟩
    · refine .inr ⟨.inr fun hp => ?_, hf'⟩
      rcases hf2 with h | h
      · rw [hf1] at h; cases h
      · exact h hp
  · rcases h2 with ⟨hf2, _⟩ | ⟨_, _, _, hf'⟩
    · rw [hf1] at hf2; cases hf2
    · refine .inr ⟨?_, hf'⟩
      rcases hf with h | h
      · exact .inl h
      · exact .inr fun hp => h (by omega)

/-- What a commit record's reading answers and leaves. -/
def CommitR (s : ByteArray) (a : Nat) (k : Int) (enc : ByteArray) (v : Int) (root : ByteArray) (nx : Int) (a' : Nat) (f' : Bool) : Prop :=
  (f' = false ∧ IsCommit s a v root ∧ a' = a + 64 ∧ k = 2 ∧ enc = ⟨#[]⟩ ∧ nx = 0) ∨ (f' = true ∧ ∀ v' root', ¬ IsCommit s a v' root')

theorem gap5 (b : Nat) (h : b ≤ 32) : gap (5 + b) = 63 - (5 + b) := by unfold gap; omega

theorem QX.yes {t : ByteArray} {k v nx : Int} {enc root : ByteArray} {a' : Nat} (h : QX t 0 false k enc v root nx a' false) (ht : t.size = 63) :
    1 ≤ v ∧ v ≤ 1000000 ∧ root.size ≤ 32 ∧ k = 2 ∧ enc = ⟨#[]⟩ ∧ nx = 0 ∧ t.data.toList = part63 (four v.toNat ++ ([UInt8.ofNat root.size] ++ root.data.toList)) 0 := by
  obtain ⟨a1, f1, n, rt, t2, f2, hK, hh, _, h3, hf⟩ := h
  have hf2 : f2 = false ∧ zeroT t2 = true := by
    cases f2 <;> cases hz : zeroT t2 <;> rw [hz] at hf <;> first | exact ⟨rfl, rfl⟩ | cases hf
  rcases h3 with ⟨hf1, hle2, ht2, _, _⟩ | ⟨_, _, _, g⟩
  · obtain ⟨rfl, rfl, rfl, rfl, rfl⟩ := hh hf1
    obtain ⟨t1, a0, f0, f3, h1, hn, h2, hf3⟩ := hK
    have hf30 : f3 = false ∧ (1 ≤ n ∧ n ≤ 1000000 ∧ root.size ≤ 32) := by
      rw [hf1] at hf3
      cases f3
      · refine ⟨rfl, ?_⟩
        by_cases hd : 1 ≤ n ∧ n ≤ 1000000 ∧ root.size ≤ 32
        · exact hd
        · rw [decide_eq_false hd] at hf3; cases hf3
      · cases hf3
    rcases h1 with ⟨_, hle1, ht1, ha0, _⟩ | ⟨hno, _⟩
    · rw [num_ex t t1 0 hle1 ht1] at hn
      rw [Nat.zero_add] at ha0
      subst ha0
      obtain ⟨b, hb⟩ : ∃ b, (t.data.toList.getD 4 0).toNat = b := ⟨_, rfl⟩
      rcases SX1 h2 b hb with ⟨_, hle, hrt, ha1, _⟩ | ⟨_, g⟩
      · have hrs : root.size = b := by rw [hrt]; exact ex_size t (4 + 1) b hle
        subst ha1
        refine ⟨by omega, by omega, hf30.2.2.2, rfl, rfl, rfl, ?_⟩
        have hz := zeroT_rep hf2.2
        have hl : t.data.toList.length = 63 := ht
        have hg := gap5 b (by omega)
        rw [ht2, ex_size t _ _ hle2, ex_list, show 4 + 1 + b = 5 + b from rfl, hg] at hz
        have hL : (four (n : Int).toNat ++ ([UInt8.ofNat root.size] ++ root.data.toList)).length = 5 + b := by
          rw [List.length_append, List.length_append]; show 4 + (1 + root.size) = _; omega
        unfold part63
        rw [List.drop_zero, List.take_of_length_le (by rw [hL]; omega), hL, Nat.sub_zero, ← hz, Int.toNat_natCast, hn, four_back t 0 (by omega), hrs, ← hb, UInt8.ofNat_toNat, ← seg_one t.data.toList 4 (by omega), hrt, ex_list, seg_add, hb, List.drop_zero]
        have e1 := seg_add t.data.toList 0 4 (1 + b)
        rw [List.drop_zero, Nat.zero_add] at e1
        rw [e1, List.take_of_length_le (l := List.drop (5 + b) t.data.toList) (by rw [List.length_drop]; omega), show 4 + (1 + b) = 5 + b by omega, List.take_append_drop]
      · rw [hf30.1] at g; cases g
    · rcases hno with g | g
      · cases g
      · omega
  · rw [g] at hf2; cases hf2.1

theorem QX.no {t : ByteArray} {k v nx : Int} {enc root : ByteArray} {a' : Nat} {f' : Bool} (h : QX t 0 false k enc v root nx a' f') {v' : Int} {root' : ByteArray} (h1 : 1 ≤ v') (h2 : v' ≤ 1000000) (h3 : root'.size ≤ 32)
    (ht : t.data.toList = four v'.toNat ++ ([UInt8.ofNat root'.size] ++ root'.data.toList) ++ List.replicate (63 - (5 + root'.size)) 0) : f' = false ∧ a' = t.size := by
  have hL : (four v'.toNat ++ ([UInt8.ofNat root'.size] ++ root'.data.toList)).length = 5 + root'.size := by
    rw [List.length_append, List.length_append]; show 4 + (1 + root'.size) = _; omega
  have hsz : t.size = 63 := by
    show t.data.toList.length = _
    rw [ht, List.length_append, List.length_replicate, hL]; omega
  have hnum : numAt t 0 = v'.toNat := by
    have g : ∀ j, j < 4 → t.data.toList.getD j 0 = (four v'.toNat).getD j 0 := fun j hj => by rw [ht, List.append_assoc, four_getD _ _ j hj]
    have := four_num v'.toNat (by omega)
    unfold numAt
    rw [g 0 (by omega), g (0 + 1) (by omega), g (0 + 2) (by omega), g (0 + 3) (by omega)]
    exact this
  have hb : (t.data.toList.getD 4 0).toNat = root'.size := by
    rw [ht]
    show (UInt8.ofNat root'.size).toNat = _
    exact UInt8.toNat_ofNat_of_lt' (by show _ < 256; omega)
  obtain ⟨a1, f1, n, rt, t2, f2, hK, _, _, h5, hf⟩ := h
  obtain ⟨t1, a0, f0, f3, k1, hn, k2, hf3⟩ := hK
  rcases k1 with ⟨_, hle1, ht1, ha0, hf0⟩ | ⟨hno, _⟩
  · rw [num_ex t t1 0 hle1 ht1, hnum] at hn
    rw [Nat.zero_add] at ha0
    subst ha0
    rcases SX1 k2 _ hb with ⟨_, hle, hrt, ha1, hf3'⟩ | ⟨hno, _⟩
    · have hrs : rt.size = root'.size := by rw [hrt]; exact ex_size t (4 + 1) _ hle
      have hf1 : f1 = false := by rw [hf3, hf3', decide_eq_true (by omega)]; rfl
      subst ha1
      have hg := gap5 root'.size h3
      rcases h5 with ⟨_, hle2, ht2, ha2, g⟩ | ⟨hno, _⟩
      · refine ⟨?_, ?_⟩
        · have : zeroT t2 = true := rep_zeroT (63 - (5 + root'.size)) (by
            rw [ht2, ex_list, show 4 + 1 + root'.size = 5 + root'.size from rfl, hg, ht, ← hL, List.drop_left, List.take_of_length_le (by rw [List.length_replicate]; exact Nat.le_refl _)])
          rw [hf, g, this]; rfl
        · rw [ha2, show 4 + 1 + root'.size = 5 + root'.size from rfl, hg]; omega
      · rcases hno with g | g
        · rw [hf1] at g; cases g
        · rw [show 4 + 1 + root'.size = 5 + root'.size from rfl, hg] at g; omega
    · rcases hno with g | g
      · rw [hf0] at g; cases g
      · omega
  · rcases hno with g | g
    · cases g
    · omega

theorem commit_yes {s : ByteArray} {a a' a2 : Nat} {t : ByteArray} {k v nx : Int} {enc root : ByteArray} (hC : CX 67 s a false t a' false) (hQ : QX t 0 false k enc v root nx a2 false) : IsCommit s a v root ∧ a' = a + 64 ∧ k = 2 ∧ enc = ⟨#[]⟩ ∧ nx = 0 := by
  rcases hC with ⟨_, hle, hmk, ht, ha', _⟩ | ⟨_, g⟩
  · have hts : t.size = 63 := by rw [ht]; exact ex_size s a 63 (by omega)
    obtain ⟨h1, h2, h3, rfl, rfl, rfl, hl⟩ := hQ.yes hts
    refine ⟨⟨h1, h2, h3, hle, ?_⟩, ha', rfl, rfl, rfl⟩
    have hsl : s.data.toList.length = s.size := rfl
    rw [commit_text h1 h2 h3, markedTo, markedTo, List.nil_append, Nat.mul_zero, ← hl, if_pos rfl, ht, ex_list]
    conv => lhs; rw [← T_of s, T_extract, Nat.add_sub_cancel_left]
    have e := seg_add s.data.toList a 63 1
    rw [seg_one _ _ (by omega), UInt8.toNat.inj (show _ = (67 : UInt8).toNat from hmk)] at e
    rw [e]
  · cases g
theorem commit_no {s : ByteArray} {a a' a2 : Nat} {f' f2 : Bool} {t : ByteArray} {k v nx : Int} {enc root : ByteArray} (hC : CX 67 s a false t a' f') (hQ : QX t 0 false k enc v root nx a2 f2) (hno : ¬ (f' = false ∧ f2 = false ∧ a2 = t.size)) (v' : Int) (root' : ByteArray) : ¬ IsCommit s a v' root' := by
  intro hE
  have hmk := hE.parts.1
  obtain ⟨h1, h2, h3, hle, he⟩ := hE
  rcases hC with ⟨_, _, _, ht, _, hf'⟩ | ⟨hn, _⟩
  · refine hno ⟨hf', ?_⟩
    rw [commit_text h1 h2 h3] at he
    have hx := sub_extract he 0 63 (by omega)
    rw [Nat.add_zero, List.drop_zero, markedTo, markedTo, List.nil_append, Nat.mul_zero, List.take_append_of_le_length (by rw [part63_length]; exact Nat.le_refl _), List.take_of_length_le (by rw [part63_length]; exact Nat.le_refl _)] at hx
    have hL : (four v'.toNat ++ ([UInt8.ofNat root'.size] ++ root'.data.toList)).length = 5 + root'.size := by
      rw [List.length_append, List.length_append]; show 4 + (1 + root'.size) = _; omega
    refine hQ.no h1 h2 h3 ?_
    rw [ht, hx, T_data, part63, List.drop_zero, List.take_of_length_le (by rw [hL]; omega), hL, Nat.sub_zero]
  · rcases hn with g | g
    · cases g
    · exact g ⟨hle, by rw [hmk]; rfl⟩
end Go.Proofs.YtmfhfehemoeeeaaGreatDoor
