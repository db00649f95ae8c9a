import Derived.Test.YtmfhfehemoeeeaaGreatDoorZsas
set_option maxRecDepth 100000
set_option maxHeartbeats 1000000
namespace Go.Proofs.YtmfhfehemoeeeaaGreatDoor
open Go.RowKit Go.Proofs.Sha

theorem commitRec_take (r : Nat) (s : ByteArray) (a : Nat) (w : World) (h : Rd r s a false w) (ha : a ≤ s.size) (hs : s.size ≤ 1048576) :
    Calls Tryz.prog 145 #[.agg #[], .pointer (some ⟨r, 0, none⟩)] w fun e w' => ∃ (k v nx : Int) (enc root : ByteArray) (a' : Nat) (f' : Bool), e = .returned (recV k enc v root nx) ∧ Hid (CommitR s a k enc v root nx a' f') ∧ a' ≤ s.size ∧ Rd r s a' f' w' ∧ Mv r w w' := by
  have hlt := h.lt
  obtain ⟨fb, hfb⟩ : ∃ fb, w.heap.size = fb := ⟨_, rfl⟩
  obtain ⟨w0, hw0⟩ : ∃ w0, w0 = (w.alloc (.cells #[] 70)).alloc (.cells #[.int .i64 0, .string ⟨#[]⟩, .int .i64 0, .string ⟨#[]⟩, .int .i64 0] 66) := ⟨_, rfl⟩
  have hr0 : Rd r s a false w0 := by rw [hw0]; exact (h.alloc _).alloc _
  have hm0 : Mv r w w0 := by rw [hw0]; exact ((Mv.refl r w).alloc _).alloc _
  have hb0 : RB (fb + 1) 0 ⟨#[]⟩ 0 ⟨#[]⟩ 0 w0 := by
    rw [hw0]; unfold RB; rw [show fb + 1 = (w.alloc (.cells #[] 70)).heap.size by simp [hfb]]; exact heap_alloc_new _ _
  have hz0 : fb + 2 ≤ w0.heap.size := by rw [hw0]; simp [hfb]
  go_enter Tryz.func145, Tryz.ntmps145
  go_wp2_with fail
  rw [← hw0]
  clear hw0 h
  refine (rsec 67 r s a false _ hr0 ha hs (by omega) (by omega)).mono ?_
  rintro e w1 ⟨t, a1, f1, rfl, H1, hf1, ha1, ht1, hr1, hm1⟩
  have ht63 : t.size ≤ 63 := H1.out.small hf1
  have hS1 : CS w fb r s a1 f1 w1 := ⟨hfb, by omega, hr1, hm0.trans hm1, hm1.cells hb0 (by omega)⟩
  have hz1 : fb + 2 ≤ w1.heap.size := Nat.le_trans hz0 hm1.size
  clear hm0 hm1 hb0 hr0 hz0 hr1 hf1
  go_wp2_with fail
  refine (commitBody_any _).mono ?_
  rintro e w2 ⟨rfl, hb2⟩
  have hS2 := hS1.below hb2
  have hz2 : fb + 2 ≤ w2.heap.size := Nat.le_trans hz1 hb2.size
  clear hS1 hb2 hz1
  go_wp2_with fail
  refine (whole_R t _ (by omega)).mono ?_
  rintro e w3 ⟨k, v, nx, enc, root, a2, f2, he, HQ, ha2, hb3⟩
  have hS3 := hS2.below hb3
  have hz3 : fb + 2 ≤ w3.heap.size := Nat.le_trans hz2 hb3.size
  clear hS2 hb3 hz2
  have HNo : Hid (¬ (f1 = false ∧ f2 = false ∧ a2 = t.size) → ∀ v' root', ¬ IsCommit s a v' root') := fun hno => commit_no H1.out HQ.out hno
  have HYes : Hid (f1 = false → f2 = false → IsCommit s a v root ∧ a1 = a + 64 ∧ k = 2 ∧ enc = ⟨#[]⟩ ∧ nx = 0) := fun h1 h2 => by
    subst h1 h2
    exact commit_yes H1.out HQ.out
  clear H1 HQ
  obtain ⟨gg, hgg⟩ : ∃ gg, w3.heap.size = gg := ⟨_, rfl⟩
  by_cases hok : f2 = false ∧ a2 = t.size
  · rw [wholeR, if_pos hok] at he
    subst he
    have HO : Hid (f2 = false ∧ a2 = t.size) := hok
    clear hok
    have hS4 : PSr w fb r s a1 f1 gg k enc v root nx (w3.alloc (.cells #[.int .i64 k, .string enc, .int .i64 v, .string root, .int .i64 nx] 66)) :=
      ⟨hfb, by omega, by omega, hS3.rd.alloc _, hS3.mv.alloc _, below_cells ((Below.refl _ _).alloc (Nat.le_refl _) _) hS3.rb, by unfold RB; rw [← hgg]; exact heap_alloc_new _ _⟩
    obtain ⟨c0, c1, c2, c3, c4, g0, g1, g2, g3, g4⟩ := RB.at hS4.rb
    obtain ⟨d0, d1, d2, d3, d4, k0, k1, k2, k3, k4⟩ := RB.at hS4.nb
    clear hS3 hgg
    go_wp2_with fail
    have hF := fin5 hS4.rd hS4.mv hfb (Nat.le_succ fb) (by omega)
    refine retRec rfl (RecAt.set5 (RB.at hS4.rb) k enc v root nx) rfl rfl ⟨k, v, nx, enc, root, a1, f1, rfl, ?_, ha1, (hF _ _ _ _ _).1, (hF _ _ _ _ _).2⟩
    cases f1
    · exact .inl ⟨rfl, HYes.out rfl HO.out.1⟩
    · exact .inr ⟨rfl, HNo.out (by rintro ⟨h, _⟩; cases h)⟩
  · rw [wholeR, if_neg hok] at he
    subst he
    have HO : Hid (∀ v' root', ¬ IsCommit s a v' root') := HNo.out fun h => hok h.2
    clear hok HNo HYes
    have hS4 : PSr w fb r s a1 f1 gg 0 ⟨#[]⟩ 0 ⟨#[]⟩ 0 (w3.alloc (.cells #[.int .i64 0, .string ⟨#[]⟩, .int .i64 0, .string ⟨#[]⟩, .int .i64 0] 66)) :=
      ⟨hfb, by omega, by omega, hS3.rd.alloc _, hS3.mv.alloc _, below_cells ((Below.refl _ _).alloc (Nat.le_refl _) _) hS3.rb, by unfold RB; rw [← hgg]; exact heap_alloc_new _ _⟩
    go_wp2_with fail
    refine (fail_any r s a1 f1 _ hS4.rd).mono ?_
    rintro e w5 ⟨rfl, hr5, hm5⟩
    have hS5 := hS4.move hr5 hm5
    clear hS3 hS4 hr5 hm5
    obtain ⟨c0, c1, c2, c3, c4, g0, g1, g2, g3, g4⟩ := RB.at hS5.rb
    obtain ⟨d0, d1, d2, d3, d4, k0, k1, k2, k3, k4⟩ := RB.at hS5.nb
    go_wp2_with fail
    have hF := fin5 hS5.rd hS5.mv hfb (Nat.le_succ fb) (by omega)
    exact retRec rfl (RecAt.set5 (RB.at hS5.rb) 0 ⟨#[]⟩ 0 ⟨#[]⟩ 0) rfl rfl ⟨0, 0, 0, ⟨#[]⟩, ⟨#[]⟩, a1, true, rfl, .inr ⟨rfl, HO.out⟩, ha1, (hF _ _ _ _ _).1, (hF _ _ _ _ _).2⟩
/-- What takeRecord answers and leaves. -/
def TakeR (s : ByteArray) (a mk : Nat) (k : Int) (enc : ByteArray) (v : Int) (root : ByteArray) (nx : Int) (a' : Nat) (f' : Bool) : Prop :=
  (mk = 83 ∧ NodeR s a k enc v root nx a' f') ∨ (mk = 67 ∧ CommitR s a k enc v root nx a' f') ∨ (mk ≠ 83 ∧ mk ≠ 67 ∧ f' = true)
theorem NodeR.fault {s : ByteArray} {a : Nat} {k : Int} {enc : ByteArray} {v : Int} {root : ByteArray} {nx : Int} {a' : Nat} (h : NodeR s a k enc v root nx a' true) (k' : Int) (enc' : ByteArray) (v' : Int) (root' : ByteArray) (nx' : Int) : NodeR s a k' enc' v' root' nx' a' true := by
  rcases h with ⟨g, _⟩ | h
  · cases g
  · exact .inr h
theorem CommitR.fault {s : ByteArray} {a : Nat} {k : Int} {enc : ByteArray} {v : Int} {root : ByteArray} {nx : Int} {a' : Nat} (h : CommitR s a k enc v root nx a' true) (k' : Int) (enc' : ByteArray) (v' : Int) (root' : ByteArray) (nx' : Int) : CommitR s a k' enc' v' root' nx' a' true := by
  rcases h with ⟨g, _⟩ | h
  · cases g
  · exact .inr h
theorem rnodeR (r : Nat) (s : ByteArray) (a : Nat) (w : World) (h : Rd r s a false w) (ha : a ≤ s.size) (hs : s.size ≤ 1048576) :
    Calls Tryz.prog 96 #[.pointer (some ⟨r, 0, none⟩), .iface 68 (.agg #[])] w fun e w' => ∃ (k v nx : Int) (enc root : ByteArray) (a' : Nat) (f' : Bool), e = .returned (recV k enc v root nx) ∧ Hid (NodeR s a k enc v root nx a' f') ∧ a' ≤ s.size ∧ Rd r s a' f' w' ∧ Mv r w w' := by
  refine (rrec_node (NodeR s a) r s a false w h (fun w' h' => nodeRec_take r s a w' h' ha hs)).mono ?_
  rintro e w' ⟨k, v, nx, enc, root, a', f', rfl, HX, ha', hr, hm⟩
  cases f'
  · exact ⟨k, v, nx, enc, root, a', false, rfl, HX, ha', hr, hm⟩
  · exact ⟨0, 0, 0, ⟨#[]⟩, ⟨#[]⟩, a', true, rfl, HX.out.fault _ _ _ _ _, ha', hr, hm⟩
theorem rcommitR (r : Nat) (s : ByteArray) (a : Nat) (w : World) (h : Rd r s a false w) (ha : a ≤ s.size) (hs : s.size ≤ 1048576) :
    Calls Tryz.prog 96 #[.pointer (some ⟨r, 0, none⟩), .iface 70 (.agg #[])] w fun e w' => ∃ (k v nx : Int) (enc root : ByteArray) (a' : Nat) (f' : Bool), e = .returned (recV k enc v root nx) ∧ Hid (CommitR s a k enc v root nx a' f') ∧ a' ≤ s.size ∧ Rd r s a' f' w' ∧ Mv r w w' := by
  refine (rrec_cr (CommitR s a) r s a false w h (fun w' h' => commitRec_take r s a w' h' ha hs)).mono ?_
  rintro e w' ⟨k, v, nx, enc, root, a', f', rfl, HX, ha', hr, hm⟩
  cases f'
  · exact ⟨k, v, nx, enc, root, a', false, rfl, HX, ha', hr, hm⟩
  · exact ⟨0, 0, 0, ⟨#[]⟩, ⟨#[]⟩, a', true, rfl, HX.out.fault _ _ _ _ _, ha', hr, hm⟩

theorem takeRec_any (mk : Nat) (r : Nat) (s : ByteArray) (a : Nat) (w : World) (h : Rd r s a false w) (ha : a ≤ s.size) (hs : s.size ≤ 1048576) :
    Calls Tryz.prog 81 #[.pointer (some ⟨r, 0, none⟩), .int .i64 (mk : Int)] w fun e w' => ∃ (k v nx : Int) (enc root : ByteArray) (a' : Nat) (f' : Bool), e = .returned (recV k enc v root nx) ∧ Hid (TakeR s a mk k enc v root nx a' f') ∧ a' ≤ s.size ∧ Rd r s a' f' w' ∧ Mv r w w' := by
  have HNd : Hid (∀ w', Rd r s a false w' → Calls Tryz.prog 96 #[.pointer (some ⟨r, 0, none⟩), .iface 68 (.agg #[])] w' fun e w'' => ∃ (k v nx : Int) (enc root : ByteArray) (a' : Nat) (f' : Bool), e = .returned (recV k enc v root nx) ∧ Hid (NodeR s a k enc v root nx a' f') ∧ a' ≤ s.size ∧ Rd r s a' f' w'' ∧ Mv r w' w'') := fun w' h' => rnodeR r s a w' h' ha hs
  have HCm : Hid (∀ w', Rd r s a false w' → Calls Tryz.prog 96 #[.pointer (some ⟨r, 0, none⟩), .iface 70 (.agg #[])] w' fun e w'' => ∃ (k v nx : Int) (enc root : ByteArray) (a' : Nat) (f' : Bool), e = .returned (recV k enc v root nx) ∧ Hid (CommitR s a k enc v root nx a' f') ∧ a' ≤ s.size ∧ Rd r s a' f' w'' ∧ Mv r w' w'') := fun w' h' => rcommitR r s a w' h' ha hs
  have hlt := h.lt
  obtain ⟨fb, hfb⟩ : ∃ fb, w.heap.size = fb := ⟨_, rfl⟩
  have hb0 : RB fb 0 ⟨#[]⟩ 0 ⟨#[]⟩ 0 (w.alloc (.cells #[.int .i64 0, .string ⟨#[]⟩, .int .i64 0, .string ⟨#[]⟩, .int .i64 0] 66)) := by
    unfold RB; rw [← hfb]; exact heap_alloc_new _ _
  by_cases h83 : mk = 83
  · subst h83
    go_enter Tryz.func81, Tryz.ntmps81
    go_wp2_with fail
    refine (HNd.out _ (h.alloc _)).mono ?_
    rintro e w1 ⟨k, v, nx, enc, root, a', f', rfl, HX, ha', hr1, hm1⟩
    have hb1 : RB fb 0 ⟨#[]⟩ 0 ⟨#[]⟩ 0 w1 := hm1.cells hb0 (by omega)
    obtain ⟨c0, c1, c2, c3, c4, g0, g1, g2, g3, g4⟩ := RB.at hb1
    go_wp2_with fail
    have hF := fin5 hr1 (((Mv.refl r w).alloc _).trans hm1) hfb (Nat.le_refl fb) (by omega)
    exact retRec rfl (RecAt.set5 (RB.at hb1) k enc v root nx) rfl rfl ⟨k, v, nx, enc, root, a', f', rfl, .inl ⟨rfl, HX.out⟩, ha', (hF _ _ _ _ _).1, (hF _ _ _ _ _).2⟩
  have z1 : ((mk : Int) == 83) = false := by rw [beq_eq_false_iff_ne]; omega
  by_cases h67 : mk = 67
  · subst h67
    go_enter Tryz.func81, Tryz.ntmps81
    go_wp2_with fail
    refine (HCm.out _ (h.alloc _)).mono ?_
    rintro e w1 ⟨k, v, nx, enc, root, a', f', rfl, HX, ha', hr1, hm1⟩
    have hb1 : RB fb 0 ⟨#[]⟩ 0 ⟨#[]⟩ 0 w1 := hm1.cells hb0 (by omega)
    obtain ⟨c0, c1, c2, c3, c4, g0, g1, g2, g3, g4⟩ := RB.at hb1
    go_wp2_with fail
    have hF := fin5 hr1 (((Mv.refl r w).alloc _).trans hm1) hfb (Nat.le_refl fb) (by omega)
    exact retRec rfl (RecAt.set5 (RB.at hb1) k enc v root nx) rfl rfl ⟨k, v, nx, enc, root, a', f', rfl, .inr (.inl ⟨rfl, HX.out⟩), ha', (hF _ _ _ _ _).1, (hF _ _ _ _ _).2⟩
  have z2 : ((mk : Int) == 67) = false := by rw [beq_eq_false_iff_ne]; omega
  go_enter Tryz.func81, Tryz.ntmps81
  go_wp2_with fail
  refine (fail_any r s a false _ (h.alloc _)).mono ?_
  rintro e w1 ⟨rfl, hr1, hm1⟩
  have hb1 : RB fb 0 ⟨#[]⟩ 0 ⟨#[]⟩ 0 w1 := hm1.cells hb0 (by omega)
  obtain ⟨c0, c1, c2, c3, c4, g0, g1, g2, g3, g4⟩ := RB.at hb1
  go_wp2_with fail
  have hF := fin5 hr1 (((Mv.refl r w).alloc _).trans hm1) hfb (Nat.le_refl fb) (by omega)
  exact retRec rfl (RecAt.set5 (RB.at hb1) 0 ⟨#[]⟩ 0 ⟨#[]⟩ 0) rfl rfl ⟨0, 0, 0, ⟨#[]⟩, ⟨#[]⟩, a, true, rfl, .inr (.inr ⟨h83, h67, rfl⟩), ha, (hF _ _ _ _ _).1, (hF _ _ _ _ _).2⟩
/-- The answer, once the record is taken. -/
theorem take_yes {s : ByteArray} {m a mk : Nat} {k : Int} {enc : ByteArray} {v : Int} {root : ByteArray} {nx : Int} {a' : Nat} (ha : 64 * m = a) (h : TakeR s a mk k enc v root nx a' false) : readPost s (m : Int) (.returned (recV k enc v root ((a' / 64 : Nat) : Int))) := by
  have e : 64 * (m : Int).toNat = a := by omega
  rcases h with ⟨_, h | ⟨g, _⟩⟩ | ⟨_, h | ⟨g, _⟩⟩ | ⟨_, _, g⟩
  · obtain ⟨_, hE, ha', rfl, rfl, rfl, _⟩ := h
    refine .inl ⟨enc, by omega, by rw [e]; exact hE, ?_⟩
    rw [show ((a' / 64 : Nat) : Int) = (m : Int) + (secs enc.size : Int) by omega]
  · cases g
  · obtain ⟨_, hE, ha', rfl, rfl, _⟩ := h
    refine .inr (.inl ⟨v, root, by omega, by rw [e]; exact hE, ?_⟩)
    rw [show ((a' / 64 : Nat) : Int) = (m : Int) + 1 by omega]
  · cases g
  · cases g
theorem take_no {s : ByteArray} {m a mk : Nat} {k : Int} {enc : ByteArray} {v : Int} {root : ByteArray} {nx : Int} {a' : Nat} (ha : 64 * m = a) (hmk : (s.data.toList.getD (a + 63) 0).toNat = mk) (h : TakeR s a mk k enc v root nx a' true) : readPost s (m : Int) (.returned (recV 0 ⟨#[]⟩ 0 ⟨#[]⟩ 0)) := by
  have e : 64 * (m : Int).toNat = a := by omega
  have hn : ∀ enc, IsNode s a enc → mk = 83 := fun enc hE => by rw [← hmk, hE.parts.2.1]; rfl
  have hc : ∀ v root, IsCommit s a v root → mk = 67 := fun v root hE => by rw [← hmk, hE.parts.1]; rfl
  refine .inr (.inr ⟨fun _ => ?_, rfl⟩)
  rw [e]
  rcases h with ⟨h83, ⟨g, _⟩ | ⟨_, h⟩⟩ | ⟨h67, ⟨g, _⟩ | ⟨_, h⟩⟩ | ⟨h1, h2, _⟩
  · cases g
  · exact ⟨h, fun v root hE => by have := hc v root hE; omega⟩
  · cases g
  · exact ⟨fun enc hE => by have := hn enc hE; omega, h⟩
  · exact ⟨fun enc hE => h1 (hn enc hE), fun v root hE => h2 (hc v root hE)⟩
theorem read_impl (s : ByteArray) (n : Int) (w : World) (hs : s.size ≤ 1048576) :
    Calls Tryz.prog 60 #[.string s, .int .i64 n] w fun e w' => readPost s n e ∧ Below w.heap.size w w' := by
  obtain ⟨fb, hfb⟩ : ∃ fb, w.heap.size = fb := ⟨_, rfl⟩
  have hN := RecAt.mk5 w 0 ⟨#[]⟩ 0 ⟨#[]⟩ 0
  have hB1 : Hid (Below w.heap.size w (w.alloc (.cells #[.int .i64 0, .string ⟨#[]⟩, .int .i64 0, .string ⟨#[]⟩, .int .i64 0] 66))) := (Below.refl _ _).alloc (Nat.le_refl _) _
  have hB2 : Hid (Below fb w (w.alloc (.cells #[.int .i64 0, .string ⟨#[]⟩, .int .i64 0, .string ⟨#[]⟩, .int .i64 0] 66))) := (Below.refl _ _).alloc (by omega) _
  by_cases h0 : n < 0 ∨ (s.size : Int) / 64 ≤ n
  · have HN : Hid (0 ≤ n → (∀ enc, ¬ IsNode s (64 * n.toNat) enc) ∧ ∀ v root, ¬ IsCommit s (64 * n.toNat) v root) := fun h0 => by
      have hno : ¬ 64 * n.toNat + 64 ≤ s.size := by omega
      exact ⟨fun enc h => hno h.parts.1, fun v root h => hno h.2.2.2.1⟩
    by_cases h1 : n < 0
    · have z1 : decide (n < 0) = true := by simpa using h1
      go_enter Tryz.func60, Tryz.ntmps60
      go_wp2_with fail
      exact retRec rfl hN (by rw [hfb]; rfl) rfl ⟨.inr (.inr ⟨HN.out, rfl⟩), by first | exact hB1.out | exact hB2.out⟩
    · have z1 : decide (n < 0) = false := by simpa using h1
      have z2 : decide ((s.size : Int) / 64 ≤ n) = true := by simp; omega
      go_enter Tryz.func60, Tryz.ntmps60
      go_wp2_with fail
      exact retRec rfl hN (by rw [hfb]; rfl) rfl ⟨.inr (.inr ⟨HN.out, rfl⟩), by first | exact hB1.out | exact hB2.out⟩
  · obtain ⟨m, rfl⟩ := Int.eq_ofNat_of_zero_le (show 0 ≤ n by omega)
    have hle : 64 * m + 64 ≤ s.size := by omega
    obtain ⟨a, ha⟩ : ∃ a, 64 * m = a := ⟨_, rfl⟩
    have z1 : decide ((m : Int) < 0) = false := by simp
    have z2 : decide ((s.size : Int) / 64 ≤ (m : Int)) = false := by simp; omega
    have z3 : IntKind.i64.wrap ((m : Int) * 64) = (a : Int) := by rw [wrap_i64_in _ (by omega) (by omega)]; omega
    have y1 : IntKind.i64.wrap ((a : Int) + 63) = (a : Int) + 63 := wrap_i64_in _ (by omega) (by omega)
    have y2 : (0 : Int) ≤ (a : Int) + 63 := by omega
    have y3 : (a : Int) + 63 < (s.size : Int) := by omega
    obtain ⟨mk, hmk⟩ : ∃ b, (s.data.toList.getD (a + 63) 0).toNat = b := ⟨_, rfl⟩
    have y4 : ((s[a + 63]'(by omega)).toNat : Int) = (mk : Int) := by rw [bget s (a + 63) (by omega), hmk]
    have y5 : wrap64 (mk : Int) = (mk : Int) := wr64 _ (by omega) (by have := (s.data.toList.getD (a + 63) 0).toNat_lt; omega)
    have HMk : Hid ((s.data.toList.getD (a + 63) 0).toNat = mk) := hmk
    have HA : Hid (64 * m = a) := ha
    have hle2 : a ≤ s.size := by omega
    clear h0 hN hB1 hB2
    obtain ⟨w0, hw0⟩ : ∃ w0, w0 = (w.alloc (.cells #[.int .i64 0, .string ⟨#[]⟩, .int .i64 0, .string ⟨#[]⟩, .int .i64 0] 66)).alloc (.cells #[.string s, .int .i64 (a : Int), .bool false] 140) := ⟨_, rfl⟩
    have hr0 : Rd (fb + 1) s a false w0 := by
      rw [hw0]; unfold Rd; rw [show fb + 1 = (w.alloc (.cells #[.int .i64 0, .string ⟨#[]⟩, .int .i64 0, .string ⟨#[]⟩, .int .i64 0] 66)).heap.size by simp [hfb]]; exact heap_alloc_new _ _
    have hn0 : RB fb 0 ⟨#[]⟩ 0 ⟨#[]⟩ 0 w0 := by
      rw [hw0]; exact below_cells ((Below.refl _ _).alloc (Nat.le_refl _) _) (by rw [← hfb]; exact heap_alloc_new _ _)
    have hb0 : Below fb w w0 := by rw [hw0]; exact ((Below.refl _ _).alloc (by omega) _).alloc (by simp; omega) _
    have hs0 : w0.heap.size = fb + 2 := by rw [hw0]; simp [hfb]
    go_enter Tryz.func60, Tryz.ntmps60
    go_wp2_with fail
    rw [← hw0]
    clear hw0 hmk ha y4
    refine (takeRec_any mk (fb + 1) s a _ hr0 hle2 hs).mono ?_
    rintro e w1 ⟨k, v, nx, enc, root, a', f', rfl, HT, ha', hr1, hm1⟩
    have hn1 : RB fb 0 ⟨#[]⟩ 0 ⟨#[]⟩ 0 w1 := hm1.cells hn0 (by omega)
    have hb1 : Below fb w w1 := hb0.trans (hm1.to_below (by omega) (by omega))
    have hz1 := hm1.size
    obtain ⟨gg, hgg⟩ : ∃ gg, w1.heap.size = gg := ⟨_, rfl⟩
    have A1 : ∀ o, Rd (fb + 1) s a' f' (w1.alloc o) := fun o => hr1.alloc o
    have B1 : ∀ o, RB fb 0 ⟨#[]⟩ 0 ⟨#[]⟩ 0 (w1.alloc o) := fun o => below_cells ((Below.refl _ _).alloc (Nat.le_refl _) _) hn1
    have e1 : ∀ o, (w1.alloc o).cell? ⟨fb + 1, 1, none⟩ = some (.int .i64 (a' : Int)) := fun o => Lib.cell_of_heap (A1 o) 1
    have e2 : ∀ o, (w1.alloc o).cell? ⟨fb + 1, 2, none⟩ = some (.bool f') := fun o => Lib.cell_of_heap (A1 o) 2
    have b0 : ∀ o, (w1.alloc o).cell? ⟨fb, 0, none⟩ = some (.int .i64 0) := fun o => Lib.cell_of_heap (B1 o) 0
    have d0 : ∀ o, (w1.alloc o).frozen? ⟨fb, 0, none⟩ = false := fun o => frozen_of_heap (B1 o)
    have b1 : ∀ o, (w1.alloc o).cell? ⟨fb, 1, none⟩ = some (.string ⟨#[]⟩) := fun o => Lib.cell_of_heap (B1 o) 1
    have d1 : ∀ o, (w1.alloc o).frozen? ⟨fb, 1, none⟩ = false := fun o => frozen_of_heap (B1 o)
    have b2 : ∀ o, (w1.alloc o).cell? ⟨fb, 2, none⟩ = some (.int .i64 0) := fun o => Lib.cell_of_heap (B1 o) 2
    have d2 : ∀ o, (w1.alloc o).frozen? ⟨fb, 2, none⟩ = false := fun o => frozen_of_heap (B1 o)
    have b3 : ∀ o, (w1.alloc o).cell? ⟨fb, 3, none⟩ = some (.string ⟨#[]⟩) := fun o => Lib.cell_of_heap (B1 o) 3
    have d3 : ∀ o, (w1.alloc o).frozen? ⟨fb, 3, none⟩ = false := fun o => frozen_of_heap (B1 o)
    have b4 : ∀ o, (w1.alloc o).cell? ⟨fb, 4, none⟩ = some (.int .i64 0) := fun o => Lib.cell_of_heap (B1 o) 4
    have d4 : ∀ o, (w1.alloc o).frozen? ⟨fb, 4, none⟩ = false := fun o => frozen_of_heap (B1 o)
    have HB1 : Hid (∀ o, RB fb 0 ⟨#[]⟩ 0 ⟨#[]⟩ 0 (w1.alloc o)) := B1
    have HBl : Hid (∀ o, Below fb w (w1.alloc o)) := fun o => hb1.alloc (by omega) o
    have hgf : fb + 1 < gg := by omega
    have x1 : IntKind.i64.wrap ((a' : Int) / 64) = ((a' / 64 : Nat) : Int) := by rw [wrap_i64_in _ (by omega) (by omega)]; omega
    have x2 : (a' : Int) / 64 = ((a' / 64 : Nat) : Int) := by omega
    have x3 : Int.tdiv (a' : Int) 64 = ((a' / 64 : Nat) : Int) := by rw [Int.tdiv_eq_ediv_of_nonneg (by omega)]; omega
    clear hr0 hn0 hb0 hs0 hm1 hr1 hn1 hb1 hz1 A1 B1
    cases f'
    · obtain ⟨q, hq⟩ : ∃ q, a' / 64 = q := ⟨_, rfl⟩
      rw [hq] at x1 x2 x3
      have HPost : Hid (readPost s (m : Int) (.returned (recV k enc v root (q : Int)))) := by rw [← hq]; exact take_yes HA.out HT.out
      clear hq HT HA HMk
      go_wp2_with fail
      exact retRec rfl (RecAt.set5 (RB.at (HB1.out _)) k enc v root (q : Int)) rfl rfl ⟨HPost.out, by rw [hfb]; exact below5 (HBl.out _) (Nat.le_refl _) _ _ _ _ _⟩
    · have HPost : Hid (readPost s (m : Int) (.returned (recV 0 ⟨#[]⟩ 0 ⟨#[]⟩ 0))) := take_no HA.out HMk.out HT.out
      clear HT HA HMk
      go_wp2_with fail
      exact retRec rfl (RecAt.set5 (RB.at (HB1.out _)) 0 ⟨#[]⟩ 0 ⟨#[]⟩ 0) rfl rfl ⟨HPost.out, by rw [hfb]; exact below5 (HBl.out _) (Nat.le_refl _) _ _ _ _ _⟩
theorem IsNode.one {s : ByteArray} {a : Nat} {enc enc' : ByteArray} (h : IsNode s a enc) (h' : IsNode s a enc') : enc = enc' := h.parts.2.2.2.symm.trans h'.parts.2.2.2
theorem IsCommit.one {s : ByteArray} {a : Nat} {v v' : Int} {root root' : ByteArray} (h : IsCommit s a v root) (h' : IsCommit s a v' root') : v = v' ∧ root = root' := by
  have p := h.parts
  have p' := h'.parts
  refine ⟨p.2.1.symm.trans p'.2.1, ?_⟩
  have e : root.size = root'.size := p.2.2.1.symm.trans p'.2.2.1
  rw [← p.2.2.2, ← p'.2.2.2, e]
theorem IsNode.not {s : ByteArray} {a : Nat} {enc : ByteArray} {v : Int} {root : ByteArray} (h : IsNode s a enc) (h' : IsCommit s a v root) : False := by
  have p := h.parts.2.1
  rw [h'.parts.1] at p
  exact absurd p (by decide)
/-- One answer at most. -/
theorem readPost.one {s : ByteArray} {n : Int} {e e' : Ending} (h : readPost s n e) (h' : readPost s n e') : e = e' := by
  rcases h with ⟨enc, h0, hE, rfl⟩ | ⟨v, root, h0, hE, rfl⟩ | ⟨hN, rfl⟩ <;> rcases h' with ⟨enc', h0', hE', rfl⟩ | ⟨v', root', h0', hE', rfl⟩ | ⟨hN', rfl⟩
  · rw [hE.one hE']
  · exact (hE.not hE').elim
  · exact absurd hE ((hN' h0).1 _)
  · exact (hE'.not hE).elim
  · obtain ⟨rfl, rfl⟩ := hE.one hE'
    rfl
  · exact absurd hE ((hN' h0).2 _ _)
  · exact absurd hE' ((hN h0').1 _)
  · exact absurd hE' ((hN h0').2 _ _)
  · rfl

end Go.Proofs.YtmfhfehemoeeeaaGreatDoor
