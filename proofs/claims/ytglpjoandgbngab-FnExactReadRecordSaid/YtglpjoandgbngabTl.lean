import Derived.Test.YtglpjoandgbngabTk
namespace Go.Proofs.Ytglpjoandgbngab
open Go.RowKit Go.Proofs.Sha

/-- What takeRecord answers and leaves. -/
def TakeR (s : ByteArray) (a mk : Nat) (k : Int) (enc : ByteArray) (v : Int) (root : ByteArray) (nx : Int) (a' : Nat) (f' : Bool) : Prop :=
  (mk = 83 ∧ NodeR s a k enc v root nx a' f') ∨ (mk = 67 ∧ CommitR s a k enc v root nx a' f') ∨ (mk ≠ 83 ∧ mk ≠ 67 ∧ f' = true)
theorem NodeR.fault {s : ByteArray} {a : Nat} {k : Int} {enc : ByteArray} {v : Int} {root : ByteArray} {nx : Int} {a' : Nat} (h : NodeR s a k enc v root nx a' true) (k' : Int) (enc' : ByteArray) (v' : Int) (root' : ByteArray) (nx' : Int) : NodeR s a k' enc' v' root' nx' a' true := by
  rcases h with ⟨g, _⟩ | h
  · cases g
  · exact .inr h
theorem CommitR.fault {s : ByteArray} {a : Nat} {k : Int} {enc : ByteArray} {v : Int} {root : ByteArray} {nx : Int} {a' : Nat} (h : CommitR s a k enc v root nx a' true) (k' : Int) (enc' : ByteArray) (v' : Int) (root' : ByteArray) (nx' : Int) : CommitR s a k' enc' v' root' nx' a' true := by
  rcases h with ⟨g, _⟩ | h
  · cases g
  · exact .inr h
theorem rnodeR (r : Nat) (s : ByteArray) (a : Nat) (w : World) (h : Rd r s a false w) (ha : a ≤ s.size) (hs : s.size ≤ 1048576) :
    Calls Try.prog 39 #[.pointer (some ⟨r, 0, none⟩), .iface 67 (.agg #[])] w fun e w' => ∃ (k v nx : Int) (enc root : ByteArray) (a' : Nat) (f' : Bool), e = .returned (recV k enc v root nx) ∧ Hid (NodeR s a k enc v root nx a' f') ∧ a' ≤ s.size ∧ Rd r s a' f' w' ∧ Mv r w w' := by
  refine (rrec_node (NodeR s a) r s a false w h (fun w' h' => nodeRec_take r s a w' h' ha hs)).mono ?_
  rintro e w' ⟨k, v, nx, enc, root, a', f', rfl, HX, ha', hr, hm⟩
  cases f'
  · exact ⟨k, v, nx, enc, root, a', false, rfl, HX, ha', hr, hm⟩
  · exact ⟨0, 0, 0, ⟨#[]⟩, ⟨#[]⟩, a', true, rfl, HX.out.fault _ _ _ _ _, ha', hr, hm⟩
theorem rcommitR (r : Nat) (s : ByteArray) (a : Nat) (w : World) (h : Rd r s a false w) (ha : a ≤ s.size) (hs : s.size ≤ 1048576) :
    Calls Try.prog 39 #[.pointer (some ⟨r, 0, none⟩), .iface 68 (.agg #[])] w fun e w' => ∃ (k v nx : Int) (enc root : ByteArray) (a' : Nat) (f' : Bool), e = .returned (recV k enc v root nx) ∧ Hid (CommitR s a k enc v root nx a' f') ∧ a' ≤ s.size ∧ Rd r s a' f' w' ∧ Mv r w w' := by
  refine (rrec_cr (CommitR s a) r s a false w h (fun w' h' => commitRec_take r s a w' h' ha hs)).mono ?_
  rintro e w' ⟨k, v, nx, enc, root, a', f', rfl, HX, ha', hr, hm⟩
  cases f'
  · exact ⟨k, v, nx, enc, root, a', false, rfl, HX, ha', hr, hm⟩
  · exact ⟨0, 0, 0, ⟨#[]⟩, ⟨#[]⟩, a', true, rfl, HX.out.fault _ _ _ _ _, ha', hr, hm⟩

set_option maxRecDepth 100000 in
set_option maxHeartbeats 1000000 in
theorem takeRec_any (mk : Nat) (r : Nat) (s : ByteArray) (a : Nat) (w : World) (h : Rd r s a false w) (ha : a ≤ s.size) (hs : s.size ≤ 1048576) :
    Calls Try.prog 29 #[.pointer (some ⟨r, 0, none⟩), .int .i64 (mk : Int)] w fun e w' => ∃ (k v nx : Int) (enc root : ByteArray) (a' : Nat) (f' : Bool), e = .returned (recV k enc v root nx) ∧ Hid (TakeR s a mk k enc v root nx a' f') ∧ a' ≤ s.size ∧ Rd r s a' f' w' ∧ Mv r w w' := by
  have HNd : Hid (∀ w', Rd r s a false w' → Calls Try.prog 39 #[.pointer (some ⟨r, 0, none⟩), .iface 67 (.agg #[])] w' fun e w'' => ∃ (k v nx : Int) (enc root : ByteArray) (a' : Nat) (f' : Bool), e = .returned (recV k enc v root nx) ∧ Hid (NodeR s a k enc v root nx a' f') ∧ a' ≤ s.size ∧ Rd r s a' f' w'' ∧ Mv r w' w'') := fun w' h' => rnodeR r s a w' h' ha hs
  have HCm : Hid (∀ w', Rd r s a false w' → Calls Try.prog 39 #[.pointer (some ⟨r, 0, none⟩), .iface 68 (.agg #[])] w' fun e w'' => ∃ (k v nx : Int) (enc root : ByteArray) (a' : Nat) (f' : Bool), e = .returned (recV k enc v root nx) ∧ Hid (CommitR s a k enc v root nx a' f') ∧ a' ≤ s.size ∧ Rd r s a' f' w'' ∧ Mv r w' w'') := fun w' h' => rcommitR r s a w' h' ha hs
  have hlt := h.lt
  obtain ⟨fb, hfb⟩ : ∃ fb, w.heap.size = fb := ⟨_, rfl⟩
  have hb0 : RB fb 0 ⟨#[]⟩ 0 ⟨#[]⟩ 0 (w.alloc (.cells #[.int .i64 0, .string ⟨#[]⟩, .int .i64 0, .string ⟨#[]⟩, .int .i64 0] 34)) := by
    unfold RB; rw [← hfb]; exact heap_alloc_new _ _
  by_cases h83 : mk = 83
  · subst h83
    go_enter Try.func29, Try.ntmps29
    go_wp2_with fail
    refine (HNd.out _ (h.alloc _)).mono ?_
    rintro e w1 ⟨k, v, nx, enc, root, a', f', rfl, HX, ha', hr1, hm1⟩
    have hb1 : RB fb 0 ⟨#[]⟩ 0 ⟨#[]⟩ 0 w1 := hm1.cells hb0 (by omega)
    obtain ⟨c0, c1, c2, c3, c4, g0, g1, g2, g3, g4⟩ := RB.at hb1
    go_wp2_with fail
    have hF := fin5 hr1 (((Mv.refl r w).alloc _).trans hm1) hfb (Nat.le_refl fb) (by omega)
    exact retRec rfl (RecAt.set5 (RB.at hb1) k enc v root nx) rfl rfl ⟨k, v, nx, enc, root, a', f', rfl, .inl ⟨rfl, HX.out⟩, ha', (hF _ _ _ _ _).1, (hF _ _ _ _ _).2⟩
  have z1 : ((mk : Int) == 83) = false := by rw [beq_eq_false_iff_ne]; omega
  by_cases h67 : mk = 67
  · subst h67
    go_enter Try.func29, Try.ntmps29
    go_wp2_with fail
    refine (HCm.out _ (h.alloc _)).mono ?_
    rintro e w1 ⟨k, v, nx, enc, root, a', f', rfl, HX, ha', hr1, hm1⟩
    have hb1 : RB fb 0 ⟨#[]⟩ 0 ⟨#[]⟩ 0 w1 := hm1.cells hb0 (by omega)
    obtain ⟨c0, c1, c2, c3, c4, g0, g1, g2, g3, g4⟩ := RB.at hb1
    go_wp2_with fail
    have hF := fin5 hr1 (((Mv.refl r w).alloc _).trans hm1) hfb (Nat.le_refl fb) (by omega)
    exact retRec rfl (RecAt.set5 (RB.at hb1) k enc v root nx) rfl rfl ⟨k, v, nx, enc, root, a', f', rfl, .inr (.inl ⟨rfl, HX.out⟩), ha', (hF _ _ _ _ _).1, (hF _ _ _ _ _).2⟩
  have z2 : ((mk : Int) == 67) = false := by rw [beq_eq_false_iff_ne]; omega
  go_enter Try.func29, Try.ntmps29
  go_wp2_with fail
  refine (fail_any r s a false _ (h.alloc _)).mono ?_
  rintro e w1 ⟨rfl, hr1, hm1⟩
  have hb1 : RB fb 0 ⟨#[]⟩ 0 ⟨#[]⟩ 0 w1 := hm1.cells hb0 (by omega)
  obtain ⟨c0, c1, c2, c3, c4, g0, g1, g2, g3, g4⟩ := RB.at hb1
  go_wp2_with fail
  have hF := fin5 hr1 (((Mv.refl r w).alloc _).trans hm1) hfb (Nat.le_refl fb) (by omega)
  exact retRec rfl (RecAt.set5 (RB.at hb1) 0 ⟨#[]⟩ 0 ⟨#[]⟩ 0) rfl rfl ⟨0, 0, 0, ⟨#[]⟩, ⟨#[]⟩, a, true, rfl, .inr (.inr ⟨h83, h67, rfl⟩), ha, (hF _ _ _ _ _).1, (hF _ _ _ _ _).2⟩
end Go.Proofs.Ytglpjoandgbngab
