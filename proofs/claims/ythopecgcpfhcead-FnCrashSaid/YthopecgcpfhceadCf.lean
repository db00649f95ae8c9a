import Derived.Test.YthopecgcpfhceadCe
import Derived.Test.YthopecgcpfhceadKg
namespace Go.Proofs.Ythopecgcpfhcead
open Go.RowKit Go.Proofs.Sha

theorem DB.s0 {g : Nat} {x y : ByteArray} {z : Int} {w : World} (h : DB g x y z w) (a : ByteArray) : DB g a y z (w.setCell ⟨g, 0, none⟩ (.string a)) := heap_setCell_same _ g 0 _ 33 _ h
theorem DB.s2 {g : Nat} {x y : ByteArray} {z : Int} {w : World} (h : DB g x y z w) (a : Int) : DB g x y a (w.setCell ⟨g, 2, none⟩ (.int .i64 a)) := heap_setCell_same _ g 2 _ 33 _ h
/-- What stands while a disk is drawn. -/
structure DD (w : World) (fb gb : Nat) (x y : ByteArray) (z : Int) (W : World) : Prop where
  sz : w.heap.size = fb
  lt : fb < gb
  bl : Below fb w W
  rb : DB fb ⟨#[]⟩ ⟨#[]⟩ 0 W
  nb : DB gb x y z W
section
variable {w : World} {fb gb : Nat} {x y : ByteArray} {z : Int} {W W' : World}
theorem DD.below (h : DD w fb gb x y z W) (hb : Below W.heap.size W W') : DD w fb gb x y z W' :=
  ⟨h.sz, h.lt, h.bl.trans (hb.mono (by have := h.bl.size; have := h.sz; omega)), h.rb.below hb, h.nb.below hb⟩
theorem DD.s0 (h : DD w fb gb x y z W) (a : ByteArray) : DD w fb gb a y z (W.setCell ⟨gb, 0, none⟩ (.string a)) :=
  ⟨h.sz, h.lt, h.bl.setCell (Nat.le_of_lt h.lt) _, h.rb.other (Nat.ne_of_lt h.lt), h.nb.s0 a⟩
theorem DD.s2 (h : DD w fb gb x y z W) (a : Int) : DD w fb gb x y a (W.setCell ⟨gb, 2, none⟩ (.int .i64 a)) :=
  ⟨h.sz, h.lt, h.bl.setCell (Nat.le_of_lt h.lt) _, h.rb.other (Nat.ne_of_lt h.lt), h.nb.s2 a⟩
theorem DD.drew (h : DD w fb gb x y z W) : DD w fb gb x y z W.drew := ⟨h.sz, h.lt, h.bl.drew, h.rb, h.nb⟩
theorem DD.fin (h : DD w fb gb x y z W) (a b : ByteArray) (c : Int) : DB fb a b c (((W.setCell ⟨fb, 0, none⟩ (.string a)).setCell ⟨fb, 1, none⟩ (.string b)).setCell ⟨fb, 2, none⟩ (.int .i64 c)) ∧ Below w.heap.size w (((W.setCell ⟨fb, 0, none⟩ (.string a)).setCell ⟨fb, 1, none⟩ (.string b)).setCell ⟨fb, 2, none⟩ (.int .i64 c)) := by
  refine ⟨h.rb.all a b c, ?_⟩
  rw [h.sz]
  exact ((h.bl.setCell (Nat.le_refl _) _).setCell (Nat.le_refl _) _).setCell (Nat.le_refl _) _
theorem DD.mk0 {w : World} (w1 : World) (fb : Nat) (hfb : w.heap.size = fb) (hb : Below (fb + 1) (w.alloc (.cells #[.string ⟨#[]⟩, .string ⟨#[]⟩, .int .i64 0] 33)) w1) (x y : ByteArray) (z : Int) :
    DD w fb w1.heap.size x y z (w1.alloc (.cells #[.string x, .string y, .int .i64 z] 33)) := by
  have hz := hb.size
  simp at hz
  have hB : Below fb w w1 := by
    rw [← hfb] at hb ⊢
    exact ((Below.refl _ w).alloc (Nat.le_refl _) _).trans (hb.mono (by omega))
  refine ⟨hfb, by omega, hB.alloc (by omega) _, ?_, heap_alloc_new _ _⟩
  refine DB.below (w := w1) ?_ ((Below.refl _ _).alloc (Nat.le_refl _) _)
  refine (hb.block fb (by omega)).trans ?_
  rw [← hfb]; exact heap_alloc_new _ _
end

set_option maxRecDepth 100000 in
set_option maxHeartbeats 2000000 in
theorem drawDisk_det (a : Option Addr) (xs : List Nat) (cap : Nat) (p : Nat) (hX : Code8 xs) (hp : p ≤ 40000) :
    ∃ (st now : ByteArray) (cp : Nat) (P : Nat), (st.size ≤ 20000 ∧ now.size ≤ 20000 ∧ cp ≤ 21000 ∧ P ≤ p + 200) ∧ ∀ w, BL a xs w → Calls Try.prog 47 #[.slice a xs.length cap, .int .i64 (p : Int)] w fun e w' => e = .returned (.tuple #[.agg #[.string st, .string now, .int .i64 (cp : Int)], .int .i64 (P : Int)]) ∧ Below w.heap.size w w' := by
  obtain ⟨s, q, ⟨hs, hq⟩, HI⟩ := image_det a xs cap p hX (by omega)
  obtain ⟨x, hx, HA⟩ := take_det a xs cap q (s.size + 1) hX (by omega) (by omega) (by omega)
  obtain ⟨y, hy, HB⟩ := take_det a xs cap (q + 1) 8 hX (by omega) (by omega) (by omega)
  have HA' : Hid (∀ w m, m = ((s.size + 1 : Nat) : Int) → BL a xs w → Calls Try.prog 27 #[.slice a xs.length cap, .int .i64 (q : Int), .int .i64 m] w fun e w' => e = .returned (.tuple #[.int .i64 (x : Int), .int .i64 ((q + 1 : Nat) : Int)]) ∧ Below w.heap.size w w') := fun w m hm hw => by rw [hm]; exact HA w hw
  replace HI : Hid _ := HI
  replace HB : Hid _ := HB
  clear HA
  obtain ⟨q1, hq1⟩ : ∃ q1, q + 1 = q1 := ⟨_, rfl⟩
  obtain ⟨q2, hq2⟩ : ∃ q2, q1 + 1 = q2 := ⟨_, rfl⟩
  rw [hq1] at HA' HB
  rw [hq2] at HB
  have hq2b : q2 ≤ p + 200 := by omega
  clear hq1 hq2
  obtain ⟨c, hc⟩ : ∃ c, s.size + y * 20 = c := ⟨_, rfl⟩
  have hcI : (s.size : Int) + (y : Int) * 20 = (c : Int) := by omega
  have y2 : IntKind.i64.wrap ((s.size : Int) + (y : Int) * 20) = (c : Int) := by rw [wrap_i64_in _ (by omega) (by omega)]; exact hcI
  have v1 : (x : Int) ≤ (s.size : Int) := by omega
  have v2 : (0 : Int) ≤ (x : Int) := by omega
  obtain ⟨d, hd⟩ : ∃ d, x / 64 = d := ⟨_, rfl⟩
  have u1 : (x : Int) / 64 = (d : Int) := by omega
  obtain ⟨A, hA⟩ : ∃ A, d * 64 = A := ⟨_, rfl⟩
  have hAI : (d : Int) * 64 = (A : Int) := by omega
  have y3 : IntKind.i64.wrap ((d : Int) * 64) = (A : Int) := by rw [wrap_i64_in _ (by omega) (by omega)]; exact hAI
  have v3 : (A : Int) ≤ (s.size : Int) := by omega
  have v4 : (0 : Int) ≤ (A : Int) := by omega
  have e1 : (s.extract 0 x).size ≤ 20000 := by rw [ByteArray.size_extract]; omega
  have e2 : (s.extract 0 A).size ≤ 20000 := by rw [ByteArray.size_extract]; omega
  have hc2 : c ≤ 21000 := by omega
  clear hd hA
  by_cases c5 : y < 5
  · have z5 : decide ((y : Int) < 5) = true := by simp; omega
    refine ⟨s.extract 0 A, s, c, q2, ⟨e2, hs, hc2, hq2b⟩, fun w h => ?_⟩
    go_enter Try.func47, Try.ntmps47
    obtain ⟨fb, hfb⟩ : ∃ fb, w.heap.size = fb := ⟨_, rfl⟩
    go_wp2_with fail
    refine (HI.out _ (h.below ((Below.refl _ w).alloc (Nat.le_refl _) _))).mono ?_
    rintro e w1 ⟨rfl, hb1⟩
    have hB1 : Below w.heap.size w w1 := ((Below.refl _ w).alloc (Nat.le_refl _) _).trans (hb1.mono (by simp))
    have hC1 : Below (fb + 1) (w.alloc (.cells #[.string ⟨#[]⟩, .string ⟨#[]⟩, .int .i64 0] 33)) w1 := hb1.mono (by simp; omega)
    clear hb1
    go_wp2_with fail
    refine (HA'.out _ _ (by omega) (h.below hB1)).mono ?_
    rintro e w2 ⟨rfl, hb2⟩
    have hB2 := hB1.trans (hb2.mono hB1.size)
    have hC2 := hC1.trans (hb2.mono (by have := hC1.size; simp at this; omega))
    clear hb2 hB1 hC1
    go_wp2_with fail
    refine (HB.out _ (h.below hB2)).mono ?_
    rintro e w3 ⟨rfl, hb3⟩
    have hC3 := hC2.trans (hb3.mono (by have := hC2.size; simp at this; omega))
    clear hb3 hB2 hC2
    obtain ⟨gb, hgb⟩ : ∃ gb, w3.heap.size = gb := ⟨_, rfl⟩
    have hD := DD.mk0 w3 fb hfb hC3 (s.extract 0 x) s (c : Int)
    rw [hgb] at hD
    go_upto_region 6 with fail
    generalize w3.alloc (.cells #[.string (s.extract 0 x), .string s, .int .i64 (c : Int)] 33) = w4 at hD ⊢
    clear hC3 hgb

    obtain ⟨c0, c1, c2, f0, f1, f2⟩ := hD.nb.at
    go_upto_region 8 with fail
    have hD2 := hD.s0 (s.extract 0 A)
    generalize w4.setCell ⟨gb, 0, none⟩ (.string (s.extract 0 A)) = w5 at hD2 ⊢
    clear hD c0 c1 c2 f0 f1 f2
    obtain ⟨c0, c1, c2, f0, f1, f2⟩ := hD2.nb.at
    obtain ⟨r0, r1, r2, g0, g1, g2⟩ := hD2.rb.at
    go_wp2_with fail
    exact retD Try.results47 rfl rfl rfl (hD2.fin _ _ _).1 ⟨rfl, (hD2.fin _ _ _).2⟩
  · have z5 : decide ((y : Int) < 5) = false := by simp; omega
    refine ⟨s.extract 0 x, s, c, q2, ⟨e1, hs, hc2, hq2b⟩, fun w h => ?_⟩
    go_enter Try.func47, Try.ntmps47
    obtain ⟨fb, hfb⟩ : ∃ fb, w.heap.size = fb := ⟨_, rfl⟩
    go_wp2_with fail
    refine (HI.out _ (h.below ((Below.refl _ w).alloc (Nat.le_refl _) _))).mono ?_
    rintro e w1 ⟨rfl, hb1⟩
    have hB1 : Below w.heap.size w w1 := ((Below.refl _ w).alloc (Nat.le_refl _) _).trans (hb1.mono (by simp))
    have hC1 : Below (fb + 1) (w.alloc (.cells #[.string ⟨#[]⟩, .string ⟨#[]⟩, .int .i64 0] 33)) w1 := hb1.mono (by simp; omega)
    clear hb1
    go_wp2_with fail
    refine (HA'.out _ _ (by omega) (h.below hB1)).mono ?_
    rintro e w2 ⟨rfl, hb2⟩
    have hB2 := hB1.trans (hb2.mono hB1.size)
    have hC2 := hC1.trans (hb2.mono (by have := hC1.size; simp at this; omega))
    clear hb2 hB1 hC1
    go_wp2_with fail
    refine (HB.out _ (h.below hB2)).mono ?_
    rintro e w3 ⟨rfl, hb3⟩
    have hC3 := hC2.trans (hb3.mono (by have := hC2.size; simp at this; omega))
    clear hb3 hB2 hC2
    obtain ⟨gb, hgb⟩ : ∃ gb, w3.heap.size = gb := ⟨_, rfl⟩
    have hD := DD.mk0 w3 fb hfb hC3 (s.extract 0 x) s (c : Int)
    rw [hgb] at hD
    go_upto_region 6 with fail
    generalize w3.alloc (.cells #[.string (s.extract 0 x), .string s, .int .i64 (c : Int)] 33) = w4 at hD ⊢
    clear hC3 hgb

    obtain ⟨c0, c1, c2, f0, f1, f2⟩ := hD.nb.at
    obtain ⟨r0, r1, r2, g0, g1, g2⟩ := hD.rb.at
    go_wp2_with fail
    exact retD Try.results47 rfl rfl rfl (hD.fin _ _ _).1 ⟨rfl, (hD.fin _ _ _).2⟩
end Go.Proofs.Ythopecgcpfhcead
