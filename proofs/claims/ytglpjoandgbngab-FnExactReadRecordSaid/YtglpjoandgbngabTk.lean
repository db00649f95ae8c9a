import Derived.Test.YtglpjoandgbngabTj
namespace Go.Proofs.Ytglpjoandgbngab
open Go.RowKit Go.Proofs.Sha

set_option maxRecDepth 100000 in
set_option maxHeartbeats 1000000 in
theorem commitRec_take (r : Nat) (s : ByteArray) (a : Nat) (w : World) (h : Rd r s a false w) (ha : a ≤ s.size) (hs : s.size ≤ 1048576) :
    Calls Try.prog 79 #[.agg #[], .pointer (some ⟨r, 0, none⟩)] w fun e w' => ∃ (k v nx : Int) (enc root : ByteArray) (a' : Nat) (f' : Bool), e = .returned (recV k enc v root nx) ∧ Hid (CommitR s a k enc v root nx a' f') ∧ a' ≤ s.size ∧ Rd r s a' f' w' ∧ Mv r w w' := by
  have hlt := h.lt
  obtain ⟨fb, hfb⟩ : ∃ fb, w.heap.size = fb := ⟨_, rfl⟩
  obtain ⟨w0, hw0⟩ : ∃ w0, w0 = (w.alloc (.cells #[] 68)).alloc (.cells #[.int .i64 0, .string ⟨#[]⟩, .int .i64 0, .string ⟨#[]⟩, .int .i64 0] 34) := ⟨_, rfl⟩
  have hr0 : Rd r s a false w0 := by rw [hw0]; exact (h.alloc _).alloc _
  have hm0 : Mv r w w0 := by rw [hw0]; exact ((Mv.refl r w).alloc _).alloc _
  have hb0 : RB (fb + 1) 0 ⟨#[]⟩ 0 ⟨#[]⟩ 0 w0 := by
    rw [hw0]; unfold RB; rw [show fb + 1 = (w.alloc (.cells #[] 68)).heap.size by simp [hfb]]; exact heap_alloc_new _ _
  have hz0 : fb + 2 ≤ w0.heap.size := by rw [hw0]; simp [hfb]
  go_enter Try.func79, Try.ntmps79
  go_wp2_with fail
  rw [← hw0]
  clear hw0 h
  refine (rsec 67 r s a false _ hr0 ha hs (by omega) (by omega)).mono ?_
  rintro e w1 ⟨t, a1, f1, rfl, H1, hf1, ha1, ht1, hr1, hm1⟩
  have ht63 : t.size ≤ 63 := H1.out.small hf1
  have hS1 : CS w fb r s a1 f1 w1 := ⟨hfb, by omega, hr1, hm0.trans hm1, hm1.cells hb0 (by omega)⟩
  have hz1 : fb + 2 ≤ w1.heap.size := Nat.le_trans hz0 hm1.size
  clear hm0 hm1 hb0 hr0 hz0 hr1 hf1
  go_wp2_with fail
  refine (commitBody_any _).mono ?_
  rintro e w2 ⟨rfl, hb2⟩
  have hS2 := hS1.below hb2
  have hz2 : fb + 2 ≤ w2.heap.size := Nat.le_trans hz1 hb2.size
  clear hS1 hb2 hz1
  go_wp2_with fail
  refine (whole_R t _ (by omega)).mono ?_
  rintro e w3 ⟨k, v, nx, enc, root, a2, f2, he, HQ, ha2, hb3⟩
  have hS3 := hS2.below hb3
  have hz3 : fb + 2 ≤ w3.heap.size := Nat.le_trans hz2 hb3.size
  clear hS2 hb3 hz2
  have HNo : Hid (¬ (f1 = false ∧ f2 = false ∧ a2 = t.size) → ∀ v' root', ¬ IsCommit s a v' root') := fun hno => commit_no H1.out HQ.out hno
  have HYes : Hid (f1 = false → f2 = false → IsCommit s a v root ∧ a1 = a + 64 ∧ k = 2 ∧ enc = ⟨#[]⟩ ∧ nx = 0) := fun h1 h2 => by
    subst h1 h2
    exact commit_yes H1.out HQ.out
  clear H1 HQ
  obtain ⟨gg, hgg⟩ : ∃ gg, w3.heap.size = gg := ⟨_, rfl⟩
  by_cases hok : f2 = false ∧ a2 = t.size
  · rw [wholeR, if_pos hok] at he
    subst he
    have HO : Hid (f2 = false ∧ a2 = t.size) := hok
    clear hok
    have hS4 : PS w fb r s a1 f1 gg k enc v root nx (w3.alloc (.cells #[.int .i64 k, .string enc, .int .i64 v, .string root, .int .i64 nx] 34)) :=
      ⟨hfb, by omega, by omega, hS3.rd.alloc _, hS3.mv.alloc _, below_cells ((Below.refl _ _).alloc (Nat.le_refl _) _) hS3.rb, by unfold RB; rw [← hgg]; exact heap_alloc_new _ _⟩
    obtain ⟨c0, c1, c2, c3, c4, g0, g1, g2, g3, g4⟩ := RB.at hS4.rb
    obtain ⟨d0, d1, d2, d3, d4, k0, k1, k2, k3, k4⟩ := RB.at hS4.nb
    clear hS3 hgg
    go_wp2_with fail
    have hF := fin5 hS4.rd hS4.mv hfb (Nat.le_succ fb) (by omega)
    refine retRec rfl (RecAt.set5 (RB.at hS4.rb) k enc v root nx) rfl rfl ⟨k, v, nx, enc, root, a1, f1, rfl, ?_, ha1, (hF _ _ _ _ _).1, (hF _ _ _ _ _).2⟩
    cases f1
    · exact .inl ⟨rfl, HYes.out rfl HO.out.1⟩
    · exact .inr ⟨rfl, HNo.out (by rintro ⟨h, _⟩; cases h)⟩
  · rw [wholeR, if_neg hok] at he
    subst he
    have HO : Hid (∀ v' root', ¬ IsCommit s a v' root') := HNo.out fun h => hok h.2
    clear hok HNo HYes
    have hS4 : PS w fb r s a1 f1 gg 0 ⟨#[]⟩ 0 ⟨#[]⟩ 0 (w3.alloc (.cells #[.int .i64 0, .string ⟨#[]⟩, .int .i64 0, .string ⟨#[]⟩, .int .i64 0] 34)) :=
      ⟨hfb, by omega, by omega, hS3.rd.alloc _, hS3.mv.alloc _, below_cells ((Below.refl _ _).alloc (Nat.le_refl _) _) hS3.rb, by unfold RB; rw [← hgg]; exact heap_alloc_new _ _⟩
    go_wp2_with fail
    refine (fail_any r s a1 f1 _ hS4.rd).mono ?_
    rintro e w5 ⟨rfl, hr5, hm5⟩
    have hS5 := hS4.move hr5 hm5
    clear hS3 hS4 hr5 hm5
    obtain ⟨c0, c1, c2, c3, c4, g0, g1, g2, g3, g4⟩ := RB.at hS5.rb
    obtain ⟨d0, d1, d2, d3, d4, k0, k1, k2, k3, k4⟩ := RB.at hS5.nb
    go_wp2_with fail
    have hF := fin5 hS5.rd hS5.mv hfb (Nat.le_succ fb) (by omega)
    exact retRec rfl (RecAt.set5 (RB.at hS5.rb) 0 ⟨#[]⟩ 0 ⟨#[]⟩ 0) rfl rfl ⟨0, 0, 0, ⟨#[]⟩, ⟨#[]⟩, a1, true, rfl, .inr ⟨rfl, HO.out⟩, ha1, (hF _ _ _ _ _).1, (hF _ _ _ _ _).2⟩
end Go.Proofs.Ytglpjoandgbngab
