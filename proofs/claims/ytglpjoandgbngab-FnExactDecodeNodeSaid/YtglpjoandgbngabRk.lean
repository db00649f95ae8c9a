import Derived.Test.YtglpjoandgbngabRj
import Derived.Test.YtglpjoandgbngabEf
namespace Go.Proofs.Ytglpjoandgbngab
open Go.RowKit Go.Proofs.Sha

theorem ret11 {w : World} {g : Nat} {k v l r : ByteArray} (h : NB g k v l r w) {a : Act} {R : Ending → World → Prop} (b : Bool) (h4 : a.tmps.getD 4 undef = .pointer (some ⟨g, 0, none⟩)) (h5 : a.tmps.getD 5 undef = .bool b) (hd : a.defers = [])
    (hR : R (.returned (.tuple #[nodeV k v l r, .bool b])) w) : bodyPost Try.prog Try.f11 R .ret a w := by
  have c0 : w.cell? ⟨g, 0, none⟩ = some (.string k) := Lib.cell_of_heap h 0
  have c1 : w.cell? ⟨g, 1, none⟩ = some (.string v) := Lib.cell_of_heap h 1
  have c2 : w.cell? ⟨g, 2, none⟩ = some (.string l) := Lib.cell_of_heap h 2
  have c3 : w.cell? ⟨g, 3, none⟩ = some (.string r) := Lib.cell_of_heap h 3
  have h4' : a.tmps[4]?.getD undef = .pointer (some ⟨g, 0, none⟩) := by simpa using h4
  have h5' : a.tmps[5]?.getD undef = .bool b := by simpa using h5
  exact bodyPost_ret (v := .tuple #[nodeV k v l r, .bool b]) (by simp [results, Try.results11, go_sem, h4', h5', asAddr, c0, c1, c2, c3]) hd hR

set_option maxRecDepth 100000 in
set_option maxHeartbeats 1000000 in
theorem dec_impl (s : ByteArray) (n : Int) (w : World) (hs : s.size ≤ 1048576) :
    Calls Try.prog 11 #[.string s, .int .i64 n] w fun e w' => decPost s n e ∧ Below w.heap.size w w' := by
  by_cases hw : 1 ≤ n ∧ n ≤ 32
  · obtain ⟨m, rfl⟩ := Int.eq_ofNat_of_zero_le (show 0 ≤ n by omega)
    have z1 : decide ((1 : Int) ≤ (m : Int)) = true := by simp; omega
    have z2 : decide ((m : Int) ≤ 32) = true := by simp; omega
    have HC : Hid (∀ w', Calls Try.prog 24 #[.string s, .iface 42 (.agg #[.int .i64 (m : Int)])] w' fun e w'' => ∃ (k v l x : ByteArray) (b : Bool), e = .returned (.tuple #[nodeV k v l x, .bool b]) ∧ Hid (decPost s (m : Int) (.returned (.tuple #[nodeV k v l x, .bool b]))) ∧ Below w'.heap.size w' w'') := by
      intro w'
      refine (whole_node m s w' hs (by omega)).mono ?_
      rintro e w'' ⟨k, v, l, x, a', f', rfl, HNR, ha', hb⟩
      by_cases hc : f' = false ∧ a' = s.size
      · refine ⟨k, v, l, x, true, by unfold wholeV; rw [if_pos hc], .inl ⟨k, v, l, x, ?_, rfl⟩, hb⟩
        have := HNR.out
        rw [hc.1, hc.2] at this
        exact this.enc
      · exact ⟨⟨#[]⟩, ⟨#[]⟩, ⟨#[]⟩, ⟨#[]⟩, false, by unfold wholeV; rw [if_neg hc], .inr ⟨fun k' v' l' x' => HNR.out.no hc k' v' l' x', rfl⟩, hb⟩
    obtain ⟨fb, hfb⟩ : ∃ fb, w.heap.size = fb := ⟨_, rfl⟩
    go_enter Try.func11, Try.ntmps11
    go_wp2_with (first | (go_at_call 24; refine (HC.out _).mono ?_; rintro e w1 ⟨k, v, l, x, b, rfl, HD, hb1⟩; have hn1 : NB fb ⟨#[]⟩ ⟨#[]⟩ ⟨#[]⟩ ⟨#[]⟩ w1 := below_cells hb1 (by rw [← hfb]; exact heap_alloc_new _ _); have c0 : w1.cell? ⟨fb, 0, none⟩ = some (.string ⟨#[]⟩) := Lib.cell_of_heap hn1 0; have c1 : w1.cell? ⟨fb, 1, none⟩ = some (.string ⟨#[]⟩) := Lib.cell_of_heap hn1 1; have c2 : w1.cell? ⟨fb, 2, none⟩ = some (.string ⟨#[]⟩) := Lib.cell_of_heap hn1 2; have c3 : w1.cell? ⟨fb, 3, none⟩ = some (.string ⟨#[]⟩) := Lib.cell_of_heap hn1 3; have f0 : w1.frozen? ⟨fb, 0, none⟩ = false := frozen_of_heap hn1; have f1 : w1.frozen? ⟨fb, 1, none⟩ = false := frozen_of_heap hn1; have f2 : w1.frozen? ⟨fb, 2, none⟩ = false := frozen_of_heap hn1; have f3 : w1.frozen? ⟨fb, 3, none⟩ = false := frozen_of_heap hn1) | go_in)
    refine ret11 ((((hn1.s0 _).s1 _).s2 _).s3 _) b rfl rfl rfl ⟨HD.out, ?_⟩
    have hb2 : Below fb w w1 := ((Below.refl _ w).alloc (by omega) _).trans (hb1.mono (by simp [hfb]))
    rw [hfb]
    exact (((hb2.setCell (Nat.le_refl _) _).setCell (Nat.le_refl _) _).setCell (Nat.le_refl _) _).setCell (Nat.le_refl _) _
  · have HN : Hid (∀ k v l r, ¬ IsEnc s n k v l r) := fun k v l r hE => by have := nodeOk_out hE.1; omega
    by_cases h1 : 1 ≤ n
    · have z1 : decide (1 ≤ n) = true := by simp; omega
      have z2 : decide (n ≤ 32) = false := by simp; omega
      go_enter Try.func11, Try.ntmps11
      go_wp2_with go_in
      exact ret11 (heap_alloc_new _ _) false rfl rfl rfl ⟨.inr ⟨HN.out, rfl⟩, (Below.refl _ _).alloc (Nat.le_refl _) _⟩
    · have z1 : decide (1 ≤ n) = false := by simp; omega
      go_enter Try.func11, Try.ntmps11
      go_wp2_with go_in
      exact ret11 (heap_alloc_new _ _) false rfl rfl rfl ⟨.inr ⟨HN.out, rfl⟩, (Below.refl _ _).alloc (Nat.le_refl _) _⟩

theorem IsEnc.one {s : ByteArray} {n : Int} {k v l r k' v' l' r' : ByteArray} (h : IsEnc s n k v l r) (h' : IsEnc s n k' v' l' r') : k = k' ∧ v = v' ∧ l = l' ∧ r = r' := by
  obtain ⟨_, p2, p3⟩ := h.parts
  obtain ⟨_, p2', p3'⟩ := h'.parts
  obtain ⟨_, q2, q3⟩ := p3 _ rfl
  obtain ⟨_, q2', q3'⟩ := p3' _ rfl
  obtain ⟨r1, r2⟩ := q3 _ rfl
  obtain ⟨r1', r2'⟩ := q3' _ rfl
  refine ⟨p2.trans p2'.symm, q2.trans q2'.symm, ?_⟩
  have s1 := h.sides r1 r2
  have s2 := h'.sides r1' r2'
  by_cases hf : (s.data.toList.getD (0 + 2 + szAt s 0 + 2 + szAt s (0 + 2 + szAt s 0)) 0).toNat % 2 = 1
  · have t1 := s1.1 hf
    have t2 := s2.1 hf
    exact ⟨t1.2.1.trans t2.2.1.symm, t1.2.2.trans t2.2.2.symm⟩
  · have t1 := s1.2 hf
    have t2 := s2.2 hf
    exact ⟨t1.1.trans t2.1.symm, t1.2.trans t2.2.symm⟩
/-- One answer at most. -/
theorem decPost.one {s : ByteArray} {n : Int} {e e' : Ending} (h : decPost s n e) (h' : decPost s n e') : e = e' := by
  rcases h with ⟨k, v, l, r, hE, rfl⟩ | ⟨hN, rfl⟩ <;> rcases h' with ⟨k', v', l', r', hE', rfl⟩ | ⟨hN', rfl⟩
  · obtain ⟨rfl, rfl, rfl, rfl⟩ := hE.one hE'
    rfl
  · exact absurd hE (hN' _ _ _ _)
  · exact absurd hE' (hN _ _ _ _)
  · rfl
end Go.Proofs.Ytglpjoandgbngab
