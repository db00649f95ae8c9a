import Derived.Test.YthopecgcpfhceadCf
namespace Go.Proofs.Ythopecgcpfhcead
open Go.RowKit Go.Proofs.Sha

theorem DD.fin' {w : World} {fb gb : Nat} {x y : ByteArray} {z : Int} {W : World} (h : DD w fb gb x y z W) (a b : ByteArray) (c : Int) : Below fb w (((W.setCell ⟨fb, 0, none⟩ (.string a)).setCell ⟨fb, 1, none⟩ (.string b)).setCell ⟨fb, 2, none⟩ (.int .i64 c)) :=
  ((h.bl.setCell (Nat.le_refl _) _).setCell (Nat.le_refl _) _).setCell (Nat.le_refl _) _

set_option maxRecDepth 100000 in
set_option maxHeartbeats 2000000 in
theorem anyDisk_det (a : Option Addr) (xs : List Nat) (cap : Nat) (hX : Code8 xs) :
    ∃ (st now : ByteArray) (cp : Int) (P : Nat), (st.size ≤ 30000 ∧ now.size ≤ 30000 ∧ P ≤ 300) ∧ ∀ w, BL a xs w → Calls Try.prog 26 #[.slice a xs.length cap, .int .i64 0] w fun e w' => e = .returned (.tuple #[.agg #[.string st, .string now, .int .i64 cp], .int .i64 (P : Int)]) ∧ Below w.heap.size w w' := by
  obtain ⟨x, hx, HT'⟩ := take_det a xs cap 0 32 hX (by omega) (by omega) (by omega)
  obtain ⟨st, now, cp, q, ⟨hst, hnow, hcp, hq⟩, HD'⟩ := drawDisk_det a xs cap 1 hX (by omega)
  have HT : Hid (∀ w, BL a xs w → Calls Try.prog 27 #[.slice a xs.length cap, .int .i64 0, .int .i64 32] w fun e w' => e = .returned (.tuple #[.int .i64 (x : Int), .int .i64 1]) ∧ Below w.heap.size w w') := fun w h => HT' w h
  have HD : Hid (∀ w, BL a xs w → Calls Try.prog 47 #[.slice a xs.length cap, .int .i64 1] w fun e w' => e = .returned (.tuple #[.agg #[.string st, .string now, .int .i64 (cp : Int)], .int .i64 (q : Int)]) ∧ Below w.heap.size w w') := fun w h => HD' w h
  clear HT' HD'
  obtain ⟨ST, hST⟩ : ∃ t : ByteArray, t = if x = 29 then st ++ ⟨#[120]⟩ else if x = 31 then now ++ ⟨#[108, 111, 110, 103, 101, 114]⟩ else st := ⟨_, rfl⟩
  obtain ⟨CP, hCP⟩ : ∃ c : Int, c = if x = 28 then (now.size : Int) - 1 else if x = 30 then 1048576 + ((q % 2 : Nat) : Int) else (cp : Int) := ⟨_, rfl⟩
  have hsz : ST.size ≤ 30000 := by
    rw [hST]
    split
    · rw [ByteArray.size_append]; show st.size + 1 ≤ _; omega
    · split
      · rw [ByteArray.size_append]; show now.size + 6 ≤ _; omega
      · omega
  refine ⟨ST, now, CP, q, ⟨hsz, by omega, by omega⟩, fun w h => ?_⟩
  replace hST : Hid _ := hST
  replace hCP : Hid _ := hCP
  go_enter Try.func26, Try.ntmps26
  obtain ⟨fb, hfb⟩ : ∃ fb, w.heap.size = fb := ⟨_, rfl⟩
  go_wp2_with fail
  refine (HT.out _ (h.below ((Below.refl _ w).alloc (Nat.le_refl _) _))).mono ?_
  rintro e w1 ⟨rfl, hb1⟩
  have hB1 : Below w.heap.size w w1 := ((Below.refl _ w).alloc (Nat.le_refl _) _).trans (hb1.mono (by simp))
  have hC1 : Below (fb + 1) (w.alloc (.cells #[.string ⟨#[]⟩, .string ⟨#[]⟩, .int .i64 0] 33)) w1 := hb1.mono (by simp; omega)
  clear hb1
  go_wp2_with fail
  refine (HD.out _ (h.below hB1)).mono ?_
  rintro e w3 ⟨rfl, hb3⟩
  have hC3 := hC1.trans (hb3.mono (by have := hC1.size; simp at this; omega))
  clear hb3 hB1 hC1
  obtain ⟨gb, hgb⟩ : ∃ gb, w3.heap.size = gb := ⟨_, rfl⟩
  have hD := DD.mk0 w3 fb hfb hC3 st now (cp : Int)
  rw [hgb] at hD
  go_upto_region 4 with fail
  generalize w3.alloc (.cells #[.string st, .string now, .int .i64 (cp : Int)] 33) = w4 at hD ⊢
  clear hC3 hgb
  by_cases x28 : x = 28
  · have eS : Hid (ST = st) := hST.out.trans ((if_neg (by omega)).trans (if_neg (by omega)))
    have eC : Hid (CP = (now.size : Int) - 1) := hCP.out.trans (if_pos x28)
    subst x28
    have y1 : IntKind.i64.wrap ((now.size : Int) - 1) = (now.size : Int) - 1 := wrap_i64_in _ (by omega) (by omega)
    obtain ⟨c0, c1, c2, f0, f1, f2⟩ := hD.nb.at
    go_upto_region 12 with fail
    rw [← eC.out]
    have hD2 := hD.s2 CP
    generalize w4.setCell ⟨gb, 2, none⟩ (.int .i64 CP) = w5 at hD2 ⊢
    clear hD c0 c1 c2 f0 f1 f2
    obtain ⟨c0, c1, c2, f0, f1, f2⟩ := hD2.nb.at
    obtain ⟨r0, r1, r2, g0, g1, g2⟩ := hD2.rb.at
    go_wp2_with fail
    rw [eS.out]
    exact retD Try.results26 rfl rfl rfl (hD2.fin _ _ _).1 ⟨rfl, (by first | exact (hD2.fin _ _ _).2 | exact hD2.fin' _ _ _)⟩
  have z28 : ((x : Int) == 28) = false := by rw [beq_eq_false_iff_ne]; omega
  by_cases x29 : x = 29
  · have eS : Hid (ST = st ++ ⟨#[120]⟩) := hST.out.trans (if_pos x29)
    have eC : Hid (CP = (cp : Int)) := hCP.out.trans ((if_neg x28).trans (if_neg (by omega)))
    subst x29
    have f9 : ¬ (9223372036854775807 < st.size + 1) := by omega
    obtain ⟨c0, c1, c2, f0, f1, f2⟩ := hD.nb.at
    go_upto_region 12 with fail
    rw [← eS.out]
    have hD2 := hD.s0 ST
    generalize w4.setCell ⟨gb, 0, none⟩ (.string ST) = w5 at hD2 ⊢
    clear hD c0 c1 c2 f0 f1 f2
    obtain ⟨c0, c1, c2, f0, f1, f2⟩ := hD2.nb.at
    obtain ⟨r0, r1, r2, g0, g1, g2⟩ := hD2.rb.at
    go_wp2_with fail
    rw [eC.out]
    exact retD Try.results26 rfl rfl rfl (hD2.fin _ _ _).1 ⟨rfl, (by first | exact (hD2.fin _ _ _).2 | exact hD2.fin' _ _ _)⟩
  have z29 : ((x : Int) == 29) = false := by rw [beq_eq_false_iff_ne]; omega
  by_cases x30 : x = 30
  · have eS : Hid (ST = st) := hST.out.trans ((if_neg x29).trans (if_neg (by omega)))
    have eC : Hid (CP = 1048576 + ((q % 2 : Nat) : Int)) := hCP.out.trans ((if_neg x28).trans (if_pos x30))
    subst x30
    have u1 : (q : Int) % 2 = ((q % 2 : Nat) : Int) := by omega
    obtain ⟨q2, hq2⟩ : ∃ q2, q % 2 = q2 := ⟨_, rfl⟩
    rw [hq2] at eC u1
    have hq2b : q2 < 2 := by omega
    have y1 : IntKind.i64.wrap (1048576 + (q2 : Int)) = 1048576 + (q2 : Int) := wrap_i64_in _ (by omega) (by omega)
    clear hq2
    obtain ⟨c0, c1, c2, f0, f1, f2⟩ := hD.nb.at
    go_upto_region 12 with fail
    rw [← eC.out]
    have hD2 := hD.s2 CP
    generalize w4.setCell ⟨gb, 2, none⟩ (.int .i64 CP) = w5 at hD2 ⊢
    clear hD c0 c1 c2 f0 f1 f2
    obtain ⟨c0, c1, c2, f0, f1, f2⟩ := hD2.nb.at
    obtain ⟨r0, r1, r2, g0, g1, g2⟩ := hD2.rb.at
    go_wp2_with fail
    rw [eS.out]
    exact retD Try.results26 rfl rfl rfl (hD2.fin _ _ _).1 ⟨rfl, (by first | exact (hD2.fin _ _ _).2 | exact hD2.fin' _ _ _)⟩
  have z30 : ((x : Int) == 30) = false := by rw [beq_eq_false_iff_ne]; omega
  by_cases x31 : x = 31
  · have eS : Hid (ST = now ++ ⟨#[108, 111, 110, 103, 101, 114]⟩) := hST.out.trans ((if_neg x29).trans (if_pos x31))
    have eC : Hid (CP = (cp : Int)) := hCP.out.trans ((if_neg x28).trans (if_neg x30))
    subst x31
    have f9 : ¬ (9223372036854775807 < now.size + 6) := by omega
    obtain ⟨c0, c1, c2, f0, f1, f2⟩ := hD.nb.at
    go_upto_region 12 with fail
    rw [← eS.out]
    have hD2 := hD.s0 ST
    generalize w4.setCell ⟨gb, 0, none⟩ (.string ST) = w5 at hD2 ⊢
    clear hD c0 c1 c2 f0 f1 f2
    obtain ⟨c0, c1, c2, f0, f1, f2⟩ := hD2.nb.at
    obtain ⟨r0, r1, r2, g0, g1, g2⟩ := hD2.rb.at
    go_wp2_with fail
    rw [eC.out]
    exact retD Try.results26 rfl rfl rfl (hD2.fin _ _ _).1 ⟨rfl, (by first | exact (hD2.fin _ _ _).2 | exact hD2.fin' _ _ _)⟩
  have z31 : ((x : Int) == 31) = false := by rw [beq_eq_false_iff_ne]; omega
  have eS : Hid (ST = st) := hST.out.trans ((if_neg x29).trans (if_neg x31))
  have eC : Hid (CP = (cp : Int)) := hCP.out.trans ((if_neg x28).trans (if_neg x30))
  obtain ⟨c0, c1, c2, f0, f1, f2⟩ := hD.nb.at
  obtain ⟨r0, r1, r2, g0, g1, g2⟩ := hD.rb.at
  go_wp2_with fail
  rw [eS.out, eC.out]
  exact retD Try.results26 rfl rfl rfl (hD.fin _ _ _).1 ⟨rfl, (by first | exact (hD.fin _ _ _).2 | exact hD.fin' _ _ _)⟩
end Go.Proofs.Ythopecgcpfhcead
