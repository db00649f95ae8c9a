import Derived.Test.YthopecgcpfhceacDoorZn
import Derived.Laws.StructEq
import Derived.Test.YthopecgcpfhceacDoorZl
namespace Go.Proofs.YthopecgcpfhceacDoor
open Go.RowKit Go.Proofs.Sha

abbrev nodeV (k v l r : ByteArray) : Value := .agg #[.string k, .string v, .string l, .string r]
/-- What DecodeNode answers. -/
def decPost (s : ByteArray) (n : Int) (e : Ending) : Prop :=
  (∃ k v l r, IsEnc s n k v l r ∧ e = .returned (.tuple #[nodeV k v l r, .bool true])) ∨
  ((∀ k v l r, ¬ IsEnc s n k v l r) ∧ e = .returned (.tuple #[nodeV ⟨#[]⟩ ⟨#[]⟩ ⟨#[]⟩ ⟨#[]⟩, .bool false]))

structure NodeAt (w : World) (g : Nat) (k v l r : ByteArray) : Prop where
  c0 : w.cell? ⟨g, 0, none⟩ = some (.string k)
  c1 : w.cell? ⟨g, 1, none⟩ = some (.string v)
  c2 : w.cell? ⟨g, 2, none⟩ = some (.string l)
  c3 : w.cell? ⟨g, 3, none⟩ = some (.string r)
  f0 : w.frozen? ⟨g, 0, none⟩ = false
  f1 : w.frozen? ⟨g, 1, none⟩ = false
  f2 : w.frozen? ⟨g, 2, none⟩ = false
  f3 : w.frozen? ⟨g, 3, none⟩ = false
theorem NodeAt.lt {w : World} {g : Nat} {k v l r : ByteArray} (h : NodeAt w g k v l r) : g < w.heap.size := World.block_lt_of_cell? w _ h.c0
theorem NodeAt.below {w w' : World} {g B : Nat} {k v l r : ByteArray} (h : NodeAt w g k v l r) (hb : Below B w w') (hg : g < B) : NodeAt w' g k v l r :=
  ⟨(hb.cell hg).trans h.c0, (hb.cell hg).trans h.c1, (hb.cell hg).trans h.c2, (hb.cell hg).trans h.c3, (hb.frozen hg).trans h.f0, (hb.frozen hg).trans h.f1, (hb.frozen hg).trans h.f2, (hb.frozen hg).trans h.f3⟩
theorem NodeAt.drew {w : World} {g : Nat} {k v l r : ByteArray} (h : NodeAt w g k v l r) : NodeAt w.drew g k v l r := ⟨h.c0, h.c1, h.c2, h.c3, h.f0, h.f1, h.f2, h.f3⟩
theorem NodeAt.mk4 (w : World) (k v l r : ByteArray) : NodeAt (w.alloc (.cells #[.string k, .string v, .string l, .string r] 26)) w.heap.size k v l r := by
  constructor <;> simp
theorem NodeAt.s0 {w : World} {g : Nat} {k v l r : ByteArray} (h : NodeAt w g k v l r) (x : ByteArray) : NodeAt (w.setCell ⟨g, 0, none⟩ (.string x)) g x v l r := by
  refine ⟨World.cell?_setCell_same _ _ _ h.c0, ?_, ?_, ?_, ?_, ?_, ?_, ?_⟩
  · rw [cell_set_ne _ _ _ _ _ (by omega)]; exact h.c1
  · rw [cell_set_ne _ _ _ _ _ (by omega)]; exact h.c2
  · rw [cell_set_ne _ _ _ _ _ (by omega)]; exact h.c3
  all_goals rw [World.frozen?_setCell]
  · exact h.f0
  · exact h.f1
  · exact h.f2
  · exact h.f3
theorem NodeAt.s1 {w : World} {g : Nat} {k v l r : ByteArray} (h : NodeAt w g k v l r) (x : ByteArray) : NodeAt (w.setCell ⟨g, 1, none⟩ (.string x)) g k x l r := by
  refine ⟨?_, World.cell?_setCell_same _ _ _ h.c1, ?_, ?_, ?_, ?_, ?_, ?_⟩
  · rw [cell_set_ne _ _ _ _ _ (by omega)]; exact h.c0
  · rw [cell_set_ne _ _ _ _ _ (by omega)]; exact h.c2
  · rw [cell_set_ne _ _ _ _ _ (by omega)]; exact h.c3
  all_goals rw [World.frozen?_setCell]
  · exact h.f0
  · exact h.f1
  · exact h.f2
  · exact h.f3
theorem NodeAt.s2 {w : World} {g : Nat} {k v l r : ByteArray} (h : NodeAt w g k v l r) (x : ByteArray) : NodeAt (w.setCell ⟨g, 2, none⟩ (.string x)) g k v x r := by
  refine ⟨?_, ?_, World.cell?_setCell_same _ _ _ h.c2, ?_, ?_, ?_, ?_, ?_⟩
  · rw [cell_set_ne _ _ _ _ _ (by omega)]; exact h.c0
  · rw [cell_set_ne _ _ _ _ _ (by omega)]; exact h.c1
  · rw [cell_set_ne _ _ _ _ _ (by omega)]; exact h.c3
  all_goals rw [World.frozen?_setCell]
  · exact h.f0
  · exact h.f1
  · exact h.f2
  · exact h.f3
theorem NodeAt.s3 {w : World} {g : Nat} {k v l r : ByteArray} (h : NodeAt w g k v l r) (x : ByteArray) : NodeAt (w.setCell ⟨g, 3, none⟩ (.string x)) g k v l x := by
  refine ⟨?_, ?_, ?_, World.cell?_setCell_same _ _ _ h.c3, ?_, ?_, ?_, ?_⟩
  · rw [cell_set_ne _ _ _ _ _ (by omega)]; exact h.c0
  · rw [cell_set_ne _ _ _ _ _ (by omega)]; exact h.c1
  · rw [cell_set_ne _ _ _ _ _ (by omega)]; exact h.c2
  all_goals rw [World.frozen?_setCell]
  · exact h.f0
  · exact h.f1
  · exact h.f2
  · exact h.f3
theorem NodeAt.set4 {w : World} {g : Nat} {k v l r : ByteArray} (h : NodeAt w g k v l r) (k' v' l' r' : ByteArray) :
    NodeAt ((((w.setCell ⟨g, 0, none⟩ (.string k')).setCell ⟨g, 1, none⟩ (.string v')).setCell ⟨g, 2, none⟩ (.string l')).setCell ⟨g, 3, none⟩ (.string r')) g k' v' l' r' :=
  (((h.s0 k').s1 v').s2 l').s3 r'
theorem NodeAt.ret {w : World} {g : Nat} {k v l r : ByteArray} (h : NodeAt w g k v l r) {a : Act} {R : Ending → World → Prop} (b : Bool) (h4 : a.tmps.getD 4 undef = .pointer (some ⟨g, 0, none⟩)) (h5 : a.tmps.getD 5 undef = .bool b) (hd : a.defers = [])
    (hR : R (.returned (.tuple #[nodeV k v l r, .bool b])) w) : bodyPost Tryd.prog Tryd.f40 R .ret a w := by
  obtain ⟨c0, c1, c2, c3, f0, f1, f2, f3⟩ := h
  have h4' : a.tmps[4]?.getD undef = .pointer (some ⟨g, 0, none⟩) := by simpa using h4
  have h5' : a.tmps[5]?.getD undef = .bool b := by simpa using h5
  exact bodyPost_ret (v := .tuple #[nodeV k v l r, .bool b]) (by simp [results, Tryd.results40, go_sem, h4', h5', asAddr, c0, c1, c2, c3]) hd hR

set_option maxRecDepth 100000 in
set_option maxHeartbeats 400000 in
theorem dec1 (s : ByteArray) (n : Int) (w : World)
    (H : Hid (∀ w', Calls Tryd.prog 57 #[.string s, .int .i64 0] w' fun e w'' => e = .returned (.tuple #[.string ⟨#[]⟩, .int .i64 0, .bool false]) ∧ Below w'.heap.size w' w''))
    (HN : Hid (∀ k v l r, ¬ IsEnc s n k v l r)) :
    Calls Tryd.prog 40 #[.string s, .int .i64 n] w fun e w' => decPost s n e ∧ Below w.heap.size w w' := by
  go_enter Tryd.func40, Tryd.ntmps40
  go_wp2_with fail
  refine (H.out _).mono ?_
  rintro e w1 ⟨rfl, hb1⟩
  have hN := (NodeAt.mk4 w ⟨#[]⟩ ⟨#[]⟩ ⟨#[]⟩ ⟨#[]⟩).below hb1 (by simp)
  have hbw : Below w.heap.size w w1 := ((Below.refl _ _).alloc (Nat.le_refl _) _).trans (hb1.mono (by simp))
  obtain ⟨c0, c1, c2, c3, f0, f1, f2, f3⟩ := id hN
  go_wp2_with fail
  refine (hN.set4 ⟨#[]⟩ ⟨#[]⟩ ⟨#[]⟩ ⟨#[]⟩).ret false rfl rfl rfl ⟨.inr ⟨HN.out, rfl⟩, (((hbw.setCell ?_ _).setCell ?_ _).setCell ?_ _).setCell ?_ _⟩ <;> exact Nat.le_refl _
end Go.Proofs.YthopecgcpfhceacDoor
namespace Go.Proofs.YthopecgcpfhceacDoor
open Go.RowKit Go.Proofs.Sha

/-- What EncodeNode answers. -/
def encS (k v l r : ByteArray) (n : Int) : ByteArray := if nodeOk k.size v.size l.size r.size n = true then T (encL k.data.toList v.data.toList l.data.toList r.data.toList) else ⟨#[]⟩
theorem enc_any (k v l r : ByteArray) (n : Int) (w : World) (hk : k.size ≤ 1048576) (hv : v.size ≤ 1048576) (hl : l.size ≤ 1048576) (hr : r.size ≤ 1048576) :
    Calls Tryd.prog 15 #[nodeV k v l r, .int .i64 n] w fun e w' => ∃ t, e = .returned (.string t) ∧ Hid (t = encS k v l r n) ∧ Below w.heap.size w w' := by
  by_cases h : nodeOk k.size v.size l.size r.size n = true
  · exact (enc_yes k v l r n w hk hv hl hr h).mono fun e w' ⟨he, hb⟩ => ⟨_, he, by show _ = encS k v l r n; rw [encS, if_pos h], hb⟩
  · exact (enc_no k v l r n w hk hv hl hr (by simpa using h)).mono fun e w' ⟨he, hb⟩ => ⟨_, he, by show _ = encS k v l r n; rw [encS, if_neg h], hb⟩
theorem encS_is {s k v l r : ByteArray} {n : Int} (hs : 0 < s.size) : encS k v l r n = s ↔ IsEnc s n k v l r := by
  unfold encS IsEnc
  constructor
  · intro h
    split at h
    · exact ⟨by assumption, h.symm⟩
    · subst h; cases hs
  · intro h; rw [if_pos h.1, ← h.2]

theorem str_ne {t s : ByteArray} (h : ¬ t = s) : (t.toList == s.toList) = false := by
  rw [ByteArray.toList_eq, ByteArray.toList_eq, beq_eq_false_iff_ne]
  intro e
  exact h ((T_of t).symm.trans ((congrArg T e).trans (T_of s)))
theorem extract_size_le (s : ByteArray) (a b : Nat) : (s.extract a b).size ≤ s.size := by
  rw [← T_of s, T_extract, T_size, T_size, List.length_take, List.length_drop]; omega

set_option maxRecDepth 100000 in
set_option maxHeartbeats 800000 in
theorem dec2 (s : ByteArray) (n : Int) (w : World) (hs : s.size ≤ 1048576) (h1 : 0 + 2 + szAt s 0 ≤ s.size) 
    (h2 : s.size ≤ 0 + 2 + szAt s 0 + 2 + szAt s (0 + 2 + szAt s 0)) :
    Calls Tryd.prog 40 #[.string s, .int .i64 n] w fun e w' => decPost s n e ∧ Below w.heap.size w w' := by
  have HN : Hid (∀ k v l r, ¬ IsEnc s n k v l r) := fun k v l r h => by
    have := (h.parts.2.2 _ rfl).1
    omega
  go_enter Tryd.func40, Tryd.ntmps40
  go_wp2_with fail
  refine (piece_ok s 0 _ hs h1).mono ?_
  rintro e w1 ⟨k0, rfl, Hk, hb1⟩
  have hN := (NodeAt.mk4 w ⟨#[]⟩ ⟨#[]⟩ ⟨#[]⟩ ⟨#[]⟩).below hb1 (by simp)
  have hbw : Below w.heap.size w w1 := ((Below.refl _ _).alloc (Nat.le_refl _) _).trans (hb1.mono (by simp))
  clear hb1
  obtain ⟨a, ha⟩ : ∃ a, 0 + 2 + szAt s 0 = a := ⟨_, rfl⟩
  rw [ha] at h1 h2 Hk ⊢
  go_wp2_with fail
  have HP : Hid (∀ w', Calls Tryd.prog 57 #[.string s, .int .i64 (a : Int)] w' fun e w'' => (∃ t b g, e = .returned (.tuple #[.string t, .int .i64 b, .bool g]) ∧ (g = false ∨ (s.size : Int) ≤ b)) ∧ Below w'.heap.size w' w'') := fun w' => by
    by_cases q1 : s.size < a + 2
    · exact (piece_short s a w' hs (by omega) q1).mono fun e w'' ⟨he, hb⟩ => ⟨⟨_, _, _, he, .inl rfl⟩, hb⟩
    by_cases q2 : s.size < a + 2 + szAt s a
    · exact (piece_over s a w' hs (by omega) q2).mono fun e w'' ⟨he, hb⟩ => ⟨⟨_, _, _, he, .inl rfl⟩, hb⟩
    exact (piece_ok s a w' hs (by omega)).mono fun e w'' ⟨t, he, _, hb⟩ => ⟨⟨t, _, _, he, .inr (by omega)⟩, hb⟩
  refine (HP.out _).mono ?_
  rintro e w2 ⟨⟨v0, b, g, rfl, hg⟩, hb2⟩
  have hN2 := hN.below hb2 hN.lt
  have hbw2 : Below w.heap.size w w2 := hbw.trans (hb2.mono (Nat.le_of_lt hN.lt))
  obtain ⟨c0, c1, c2, c3, f0, f1, f2, f3⟩ := id hN2
  rcases hg with rfl | hg
  · go_wp2_with fail
    refine (hN2.set4 ⟨#[]⟩ ⟨#[]⟩ ⟨#[]⟩ ⟨#[]⟩).ret false rfl rfl rfl ⟨.inr ⟨HN.out, rfl⟩, (((hbw2.setCell ?_ _).setCell ?_ _).setCell ?_ _).setCell ?_ _⟩ <;> exact Nat.le_refl _
  · cases g
    · go_wp2_with fail
      refine (hN2.set4 ⟨#[]⟩ ⟨#[]⟩ ⟨#[]⟩ ⟨#[]⟩).ret false rfl rfl rfl ⟨.inr ⟨HN.out, rfl⟩, (((hbw2.setCell ?_ _).setCell ?_ _).setCell ?_ _).setCell ?_ _⟩ <;> exact Nat.le_refl _
    · have z0 : decide ((s.size : Int) ≤ b) = true := by simpa using hg
      go_wp2_with fail
      refine (hN2.set4 ⟨#[]⟩ ⟨#[]⟩ ⟨#[]⟩ ⟨#[]⟩).ret false rfl rfl rfl ⟨.inr ⟨HN.out, rfl⟩, (((hbw2.setCell ?_ _).setCell ?_ _).setCell ?_ _).setCell ?_ _⟩ <;> exact Nat.le_refl _

set_option maxRecDepth 100000 in
set_option maxHeartbeats 800000 in
theorem dec3 (s : ByteArray) (n : Int) (w : World) (hs : s.size ≤ 1048576) (h1 : 0 + 2 + szAt s 0 ≤ s.size) 
    (h2 : 0 + 2 + szAt s 0 + 2 + szAt s (0 + 2 + szAt s 0) < s.size) :
    Calls Tryd.prog 40 #[.string s, .int .i64 n] w fun e w' => decPost s n e ∧ Below w.heap.size w w' := by
  have HP : Hid (∀ k v l r, IsEnc s n k v l r → k = s.extract (0 + 2) (0 + 2 + szAt s 0) ∧ ∀ a, a = 0 + 2 + szAt s 0 → v = s.extract (a + 2) (a + 2 + szAt s a) ∧ ∀ b, b = a + 2 + szAt s a → ∀ q, q = s.extract (b + 1) s.size →
      ((s.data.toList.getD b 0).toNat % 2 = 1 → n ≤ q.size ∧ l = q.extract 0 n.toNat ∧ r = q.extract n.toNat q.size) ∧ (¬ (s.data.toList.getD b 0).toNat % 2 = 1 → l = ⟨#[]⟩ ∧ r = q)) := fun k v l r h => by
    obtain ⟨_, p1, p2⟩ := h.parts
    refine ⟨p1, fun a ha => ?_⟩
    obtain ⟨_, p3, p4⟩ := p2 a ha
    refine ⟨p3, fun b hb q hq => ?_⟩
    obtain ⟨p5, p6⟩ := p4 b hb
    exact h.sides p5 (hq.trans p6)
  go_enter Tryd.func40, Tryd.ntmps40
  go_wp2_with fail
  refine (piece_ok s 0 _ hs h1).mono ?_
  rintro e w1 ⟨k0, rfl, Hk, hb1⟩
  have hN := (NodeAt.mk4 w ⟨#[]⟩ ⟨#[]⟩ ⟨#[]⟩ ⟨#[]⟩).below hb1 (by simp)
  have hbw : Below w.heap.size w w1 := ((Below.refl _ _).alloc (Nat.le_refl _) _).trans (hb1.mono (by simp))
  clear hb1
  obtain ⟨a, ha⟩ : ∃ a, 0 + 2 + szAt s 0 = a := ⟨_, rfl⟩
  rw [ha] at h1 h2 Hk HP ⊢
  clear ha
  go_wp2_with fail
  refine (piece_ok s a _ hs (by omega)).mono ?_
  rintro e w2 ⟨v0, rfl, Hv, hb2⟩
  have hN2 := hN.below hb2 hN.lt
  have hbw2 : Below w.heap.size w w2 := hbw.trans (hb2.mono (Nat.le_of_lt hN.lt))
  clear hb2 hN hbw
  obtain ⟨b, hb⟩ : ∃ b, a + 2 + szAt s a = b := ⟨_, rfl⟩
  have HB : Hid (b = a + 2 + szAt s a) := hb.symm
  rw [hb] at h2 Hv ⊢
  clear hb
  obtain ⟨c0, c1, c2, c3, f0, f1, f2, f3⟩ := id hN2
  have z0 : decide ((s.size : Int) ≤ (b : Int)) = false := by simp; omega
  by_cases hn : 1 ≤ n ∧ n ≤ 32
  · have z1 : decide (1 ≤ n) = true := by simpa using hn.1
    have z2 : decide (n ≤ 32) = true := by simpa using hn.2
    have z3 : IntKind.i64.wrap ((b : Int) + 1) = (b : Int) + 1 := wrap_i64_in _ (by omega) (by omega)
    have z4 : (0 : Int) ≤ (b : Int) + 1 := by omega
    have z5 : (b : Int) + 1 ≤ (s.size : Int) := by omega
    have z6 : (0 : Int) ≤ (b : Int) := by omega
    have z7 : (b : Int) < (s.size : Int) := by omega
    have hN3 : NodeAt (w2.alloc (.cells #[.string k0, .string v0, .string ⟨#[]⟩, .string ⟨#[]⟩] 26)) w.heap.size ⟨#[]⟩ ⟨#[]⟩ ⟨#[]⟩ ⟨#[]⟩ := hN2.below ((Below.refl _ _).alloc (Nat.le_refl _) _) hN2.lt
    have hb3 : Below w.heap.size w (w2.alloc (.cells #[.string k0, .string v0, .string ⟨#[]⟩, .string ⟨#[]⟩] 26)) := hbw2.alloc (Nat.le_of_lt hN2.lt) _
    by_cases hp : (s[b]'h2).toNat % 2 = 1
    · have p0 : (((s[b]'h2).toNat : Int) % 2 == 1) = true := by rw [beq_iff_eq]; omega
      by_cases hq : ((s.size - (b + 1) : Nat) : Int) < n
      · have p1 : decide (((s.size - (b + 1) : Nat) : Int) < n) = true := by simpa using hq
        obtain ⟨d0, d1, d2, d3, g0, g1, g2, g3⟩ := id hN3
        have HNo : Hid (∀ k v l r, ¬ IsEnc s n k v l r) := fun k v l r h => by
          have h5 := (((HP.out k v l r h).2 a rfl).2 b HB.out _ rfl).1 (by rw [← bget s b h2]; exact hp)
          have h6 := h5.1
          rw [ByteArray.size_extract] at h6
          omega
        go_wp2_with (first | (go_at_call 33; go_in) | fail)
        refine (hN3.set4 ⟨#[]⟩ ⟨#[]⟩ ⟨#[]⟩ ⟨#[]⟩).ret false rfl rfl rfl ⟨.inr ⟨HNo.out, rfl⟩, (((hb3.setCell ?_ _).setCell ?_ _).setCell ?_ _).setCell ?_ _⟩ <;> exact Nat.le_refl _
      · have p1 : decide (((s.size - (b + 1) : Nat) : Int) < n) = false := by simpa using hq
        have p2 : (0 : Int) ≤ n := by omega
        have p3 : n ≤ ((s.size - (b + 1) : Nat) : Int) := by omega
        go_wp2_with (first | (go_at_call 33; go_in) | fail)
        have HU : Hid (∀ k v l r, IsEnc s n k v l r → k = k0 ∧ v = v0 ∧ l = (s.extract (b + 1) s.size).extract 0 n.toNat ∧ r = (s.extract (b + 1) s.size).extract n.toNat (s.size - (b + 1))) := fun k v l r h => by
          have h5 := (((HP.out k v l r h).2 a rfl).2 b HB.out _ rfl).1 (by rw [← bget s b h2]; exact hp)
          have e : (s.extract (b + 1) s.size).size = s.size - (b + 1) := by rw [ByteArray.size_extract]; omega
          rw [e] at h5
          refine ⟨(HP.out k v l r h).1.trans Hk.out.symm, ((HP.out k v l r h).2 a rfl).1.trans ?_, h5.2.1, h5.2.2⟩
          rw [← HB.out]; exact Hv.out.symm
        have hz3 : ((s.extract (b + 1) s.size).extract 0 n.toNat).size ≤ 1048576 := Nat.le_trans (extract_size_le _ _ _) (Nat.le_trans (extract_size_le _ _ _) hs)
        have hz4 : ((s.extract (b + 1) s.size).extract n.toNat (s.size - (b + 1))).size ≤ 1048576 := Nat.le_trans (extract_size_le _ _ _) (Nat.le_trans (extract_size_le _ _ _) hs)
        generalize (s.extract (b + 1) s.size).extract 0 n.toNat = l0 at HU hz3 ⊢
        generalize (s.extract (b + 1) s.size).extract n.toNat (s.size - (b + 1)) = r0 at HU hz4 ⊢
        have hz1 : k0.size ≤ 1048576 := by rw [Hk.out]; exact Nat.le_trans (extract_size_le _ _ _) hs
        have hz2 : v0.size ≤ 1048576 := by rw [Hv.out]; exact Nat.le_trans (extract_size_le _ _ _) hs
        refine (enc_any k0 v0 l0 r0 n _ hz1 hz2 hz3 hz4).mono ?_
        rintro e w3 ⟨t, rfl, Ht, hb4⟩
        have hA : NodeAt w3 w2.heap.size k0 v0 l0 r0 := (NodeAt.mk4 w2 k0 v0 l0 r0).below hb4 (by simp)
        have hB : NodeAt w3 w.heap.size ⟨#[]⟩ ⟨#[]⟩ ⟨#[]⟩ ⟨#[]⟩ := (hN2.below ((Below.refl _ _).alloc (Nat.le_refl _) _) hN2.lt).below hb4 (by have := hN2.lt; simp; omega)
        have hb5 : Below w.heap.size w w3 := (hbw2.alloc (Nat.le_of_lt hN2.lt) _).trans (hb4.mono (by have := hN2.lt; simp; omega))
        clear hN3 hb3 hN2 hbw2 hb4 c0 c1 c2 c3 f0 f1 f2 f3
        obtain ⟨c0, c1, c2, c3, f0, f1, f2, f3⟩ := id hB
        obtain ⟨d0, d1, d2, d3, g0, g1, g2, g3⟩ := id hA
        by_cases ht : t = s
        · have HI : Hid (IsEnc s n k0 v0 l0 r0) := (encS_is (by omega)).1 (Ht.out.symm.trans ht)
          have y0 : (t.toList == s.toList) = true := by rw [ht]; simp
          clear Ht ht
          go_wp2_with fail
          refine (hB.set4 k0 v0 l0 r0).ret true rfl rfl rfl ⟨.inl ⟨k0, v0, l0, r0, HI.out, rfl⟩, (((hb5.setCell ?_ _).setCell ?_ _).setCell ?_ _).setCell ?_ _⟩ <;> exact Nat.le_refl _
        · have HNo : Hid (∀ k v l r, ¬ IsEnc s n k v l r) := fun k v l r h => by
            obtain ⟨e1, e2, e3, e4⟩ := HU.out k v l r h
            subst e1 e2 e3 e4
            exact ht (Ht.out.trans ((encS_is (by omega)).2 h))
          have y0 : (t.toList == s.toList) = false := str_ne ht
          clear Ht ht
          go_wp2_with fail
          refine (hB.set4 ⟨#[]⟩ ⟨#[]⟩ ⟨#[]⟩ ⟨#[]⟩).ret false rfl rfl rfl ⟨.inr ⟨HNo.out, rfl⟩, (((hb5.setCell ?_ _).setCell ?_ _).setCell ?_ _).setCell ?_ _⟩ <;> exact Nat.le_refl _
    · have p0 : (((s[b]'h2).toNat : Int) % 2 == 1) = false := by rw [beq_eq_false_iff_ne]; omega
      go_wp2_with (first | (go_at_call 33; go_in) | fail)
      have HU : Hid (∀ k v l r, IsEnc s n k v l r → k = k0 ∧ v = v0 ∧ l = ⟨#[]⟩ ∧ r = s.extract (b + 1) s.size) := fun k v l r h => by
        have h5 := (((HP.out k v l r h).2 a rfl).2 b HB.out _ rfl).2 (by rw [← bget s b h2]; exact hp)
        refine ⟨(HP.out k v l r h).1.trans Hk.out.symm, ((HP.out k v l r h).2 a rfl).1.trans ?_, h5.1, h5.2⟩
        rw [← HB.out]; exact Hv.out.symm
      have hz3 : (ByteArray.mk #[]).size ≤ 1048576 := Nat.zero_le _
      have hz4 : (s.extract (b + 1) s.size).size ≤ 1048576 := Nat.le_trans (extract_size_le _ _ _) hs
      generalize s.extract (b + 1) s.size = r0 at HU hz4 ⊢
      have hz1 : k0.size ≤ 1048576 := by rw [Hk.out]; exact Nat.le_trans (extract_size_le _ _ _) hs
      have hz2 : v0.size ≤ 1048576 := by rw [Hv.out]; exact Nat.le_trans (extract_size_le _ _ _) hs
      refine (enc_any k0 v0 ⟨#[]⟩ r0 n _ hz1 hz2 hz3 hz4).mono ?_
      rintro e w3 ⟨t, rfl, Ht, hb4⟩
      have hA : NodeAt w3 w2.heap.size k0 v0 ⟨#[]⟩ r0 := (NodeAt.mk4 w2 k0 v0 ⟨#[]⟩ r0).below hb4 (by simp)
      have hB : NodeAt w3 w.heap.size ⟨#[]⟩ ⟨#[]⟩ ⟨#[]⟩ ⟨#[]⟩ := (hN2.below ((Below.refl _ _).alloc (Nat.le_refl _) _) hN2.lt).below hb4 (by have := hN2.lt; simp; omega)
      have hb5 : Below w.heap.size w w3 := (hbw2.alloc (Nat.le_of_lt hN2.lt) _).trans (hb4.mono (by have := hN2.lt; simp; omega))
      clear hN3 hb3 hN2 hbw2 hb4 c0 c1 c2 c3 f0 f1 f2 f3
      obtain ⟨c0, c1, c2, c3, f0, f1, f2, f3⟩ := id hB
      obtain ⟨d0, d1, d2, d3, g0, g1, g2, g3⟩ := id hA
      by_cases ht : t = s
      · have HI : Hid (IsEnc s n k0 v0 ⟨#[]⟩ r0) := (encS_is (by omega)).1 (Ht.out.symm.trans ht)
        have y0 : (t.toList == s.toList) = true := by rw [ht]; simp
        clear Ht ht
        go_wp2_with fail
        refine (hB.set4 k0 v0 ⟨#[]⟩ r0).ret true rfl rfl rfl ⟨.inl ⟨k0, v0, ⟨#[]⟩, r0, HI.out, rfl⟩, (((hb5.setCell ?_ _).setCell ?_ _).setCell ?_ _).setCell ?_ _⟩ <;> exact Nat.le_refl _
      · have HNo : Hid (∀ k v l r, ¬ IsEnc s n k v l r) := fun k v l r h => by
          obtain ⟨e1, e2, e3, e4⟩ := HU.out k v l r h
          subst e1 e2 e4; subst e3
          exact ht (Ht.out.trans ((encS_is (by omega)).2 h))
        have y0 : (t.toList == s.toList) = false := str_ne ht
        clear Ht ht
        go_wp2_with fail
        refine (hB.set4 ⟨#[]⟩ ⟨#[]⟩ ⟨#[]⟩ ⟨#[]⟩).ret false rfl rfl rfl ⟨.inr ⟨HNo.out, rfl⟩, (((hb5.setCell ?_ _).setCell ?_ _).setCell ?_ _).setCell ?_ _⟩ <;> exact Nat.le_refl _
  · have HNo : Hid (∀ k v l r, ¬ IsEnc s n k v l r) := fun k v l r h => by
      have := nodeOk_out h.1
      omega
    by_cases hn1 : 1 ≤ n
    · have z1 : decide (1 ≤ n) = true := by simpa using hn1
      have z2 : decide (n ≤ 32) = false := by simp; omega
      go_wp2_with go_in
      refine (hN2.set4 ⟨#[]⟩ ⟨#[]⟩ ⟨#[]⟩ ⟨#[]⟩).ret false rfl rfl rfl ⟨.inr ⟨HNo.out, rfl⟩, (((hbw2.setCell ?_ _).setCell ?_ _).setCell ?_ _).setCell ?_ _⟩ <;> exact Nat.le_refl _
    · have z1 : decide (1 ≤ n) = false := by simpa using hn1
      go_wp2_with go_in
      refine (hN2.set4 ⟨#[]⟩ ⟨#[]⟩ ⟨#[]⟩ ⟨#[]⟩).ret false rfl rfl rfl ⟨.inr ⟨HNo.out, rfl⟩, (((hbw2.setCell ?_ _).setCell ?_ _).setCell ?_ _).setCell ?_ _⟩ <;> exact Nat.le_refl _

/-- spec.DecodeNode: the node whose encoding the text is, if there is one. -/
theorem dec_any (s : ByteArray) (n : Int) (w : World) (hs : s.size ≤ 1048576) :
    Calls Tryd.prog 40 #[.string s, .int .i64 n] w fun e w' => decPost s n e ∧ Below w.heap.size w w' := by
  by_cases h0 : s.size < 0 + 2
  · exact dec1 s n w (fun w' => piece_short s 0 w' hs (by omega) h0) fun k v l r h => by have := h.parts.1; omega
  by_cases h1 : s.size < 0 + 2 + szAt s 0
  · exact dec1 s n w (fun w' => piece_over s 0 w' hs (by omega) h1) fun k v l r h => by have := h.parts.1; omega
  by_cases h2 : 0 + 2 + szAt s 0 + 2 + szAt s (0 + 2 + szAt s 0) < s.size
  · exact dec3 s n w hs (by omega) h2
  · exact dec2 s n w hs (by omega) (by omega)
end Go.Proofs.YthopecgcpfhceacDoor
namespace Go.Proofs.YthopecgcpfhceacDoor
open Go.RowKit Go.Proofs.Sha

theorem vlink_any (l : ByteArray) (n : Int) (w : World) (_hl : l.size ≤ 1048576) :
    Calls Tryd.prog 51 #[.string l, .int .i64 n] w fun e w' => e = .returned (.bool (hashOk l.size n)) ∧ w = w' := by
  have e1 := empty_iff l
  by_cases h1 : l.size = 0
  · have e2 : l.toList.isEmpty = true := by rw [e1, h1]; rfl
    have HR : Hid (hashOk l.size n = true) := by show _ = _; unfold hashOk; rw [h1]; rfl
    clear e1 h1
    go_enter Tryd.func51, Tryd.ntmps51
    go_wp2
    go_ret
    rw [HR.out]
    exact ⟨rfl, rfl⟩
  · have e2 : l.toList.isEmpty = false := by rw [e1]; simp [h1]
    by_cases h2 : (l.size : Int) = n
    · have HR : Hid (hashOk l.size n = true) := by show _ = _; unfold hashOk; simp [h2]
      have z : ((l.size : Int) == n) = true := by simp [h2]
      clear e1 h1 h2
      go_enter Tryd.func51, Tryd.ntmps51
      go_wp2
      go_ret
      rw [HR.out]
      exact ⟨rfl, rfl⟩
    · have HR : Hid (hashOk l.size n = false) := by show _ = _; unfold hashOk; simp [h1, h2]
      have z : ((l.size : Int) == n) = false := by simp [h2]
      clear e1 h1 h2
      go_enter Tryd.func51, Tryd.ntmps51
      go_wp2
      go_ret
      rw [HR.out]
      exact ⟨rfl, rfl⟩

set_option maxRecDepth 100000 in
theorem valid_any (k v l r : ByteArray) (n : Int) (w : World) (_hk : k.size ≤ 1048576) (_hv : v.size ≤ 1048576) (hl : l.size ≤ 1048576) (hr : r.size ≤ 1048576) :
    Calls Tryd.prog 35 #[.agg #[.string k, .string v, .string l, .string r], .int .i64 n] w fun e w' => e = .returned (.bool (nodeOk k.size v.size l.size r.size n)) ∧ Below w.heap.size w w' := by
  obtain ⟨x, hx⟩ : ∃ x, hashOk l.size n = x := ⟨_, rfl⟩
  obtain ⟨y, hy⟩ : ∃ y, hashOk r.size n = y := ⟨_, rfl⟩
  have HX : Hid (∀ w', Calls Tryd.prog 51 #[.string l, .int .i64 n] w' fun e w'' => e = .returned (.bool x) ∧ w' = w'') := fun w' => by rw [← hx]; exact vlink_any l n w' hl
  have HY : Hid (∀ w', Calls Tryd.prog 51 #[.string r, .int .i64 n] w' fun e w'' => e = .returned (.bool y) ∧ w' = w'') := fun w' => by rw [← hy]; exact vlink_any r n w' hr
  have HR : Hid (nodeOk k.size v.size l.size r.size n = (decide (1 ≤ n ∧ n ≤ 32 ∧ 1 ≤ k.size ∧ k.size ≤ 256 ∧ v.size ≤ 2000) && (x && y))) := by show _ = _; unfold nodeOk; rw [hx, hy]
  clear hx hy
  obtain ⟨z, hz⟩ : ∃ z, nodeOk k.size v.size l.size r.size n = z := ⟨_, rfl⟩
  rw [hz] at HR ⊢
  clear hz
  have hfin : Below w.heap.size w (w.alloc (.cells #[.string k, .string v, .string l, .string r] 26)) := (Below.refl _ _).alloc (Nat.le_refl _) _
  go_enter Tryd.func35, Tryd.ntmps35
  go_wp2_with (first | (go_at_call_of 51 (Value.string l); refine (HX.out _).mono ?_; rintro e w3 ⟨rfl, rfl⟩) | (go_at_call_of 51 (Value.string r); refine (HY.out _).mono ?_; rintro e w4 ⟨rfl, rfl⟩) | go_in)
  all_goals go_ret
  all_goals refine ⟨?_, hfin⟩
  all_goals rw [HR.out]
  all_goals clear HX HY HR
  all_goals first
    | (have e : ¬ (1 ≤ n ∧ n ≤ 32 ∧ 1 ≤ k.size ∧ k.size ≤ 256 ∧ v.size ≤ 2000) := (by omega); rw [decide_eq_false e]; rfl)
    | (have e : 1 ≤ n ∧ n ≤ 32 ∧ 1 ≤ k.size ∧ k.size ≤ 256 ∧ v.size ≤ 2000 := (by omega); rw [decide_eq_true e]; cases x <;> simp_all)

theorem wR42 (n : Int) (k v l r : ByteArray) (b : Nat) (q m : List UInt8) (w : World) (h : Bld b q w)
    (HC : Hid (∀ w', Bld b q w' → Calls Tryd.prog 80 #[.agg #[.int .i64 n], .pointer (some ⟨b, 0, none⟩), .agg #[.string k, .string v, .string l, .string r]] w' fun e w'' => e = .returned (.tuple #[]) ∧ Put b m w' w'')) :
    Calls Tryd.prog 52 #[.pointer (some ⟨b, 0, none⟩), .iface 65 (.agg #[.int .i64 n]), .agg #[.string k, .string v, .string l, .string r]] w fun e w' => e = .returned (.tuple #[]) ∧ Put b m w w' := by
  have hmt : ∀ w : World, (method 250 65 (.agg #[.int .i64 n]) "loop.example/s03048/impl.put").run Tryd.prog w = .ok (80, .agg #[.int .i64 n]) w := fun _ => by kernel_rfl
  go_enter Tryd.func52, Tryd.ntmps52
  go_wp2_with (first | (go_at_call 80; refine (HC.out _ (h.alloc _)).mono ?_; rintro e w2 ⟨rfl, hp2⟩))
  go_end0
  exact ⟨rfl, ((Put.refl h).alloc _).trans hp2⟩

set_option maxRecDepth 100000 in
theorem written_N (n : Int) (k v l r : ByteArray) (m : List UInt8) (w : World)
    (HC : Hid (∀ b w', Bld b [] w' → Calls Tryd.prog 52 #[.pointer (some ⟨b, 0, none⟩), .iface 65 (.agg #[.int .i64 n]), .agg #[.string k, .string v, .string l, .string r]] w' fun e w'' => e = .returned (.tuple #[]) ∧ Put b m w' w'')) :
    Calls Tryd.prog 36 #[.iface 65 (.agg #[.int .i64 n]), .agg #[.string k, .string v, .string l, .string r]] w fun e w' => ∃ t : ByteArray, e = .returned (.string t) ∧ Hid (t.data.toList = m) ∧ Below w.heap.size w w' := by
  go_enter Tryd.func36, Tryd.ntmps36
  go_wp2_with (first | (go_at_call 52; refine (HC.out (w.heap.size + 1) _ (fresh_bld1 w _)).mono ?_; rintro e w2 ⟨rfl, hp2⟩) | (go_at_call 53; refine (bstring _ _ _ hp2.1).mono ?_; rintro e w3 ⟨rfl, hb3⟩))
  go_ret
  exact ⟨_, rfl, rfl, ((((Below.refl _ _).alloc (Nat.le_refl _) _).alloc (by simp) _).trans (hp2.2.1.mono (by omega))).trans (hb3.mono (by omega))⟩

theorem of_list {t : ByteArray} {l : List UInt8} (h : t.data.toList = l) : t = T l := by rw [← h, T_of]

set_option maxRecDepth 100000 in
set_option maxHeartbeats 1000000 in
theorem enc_impl (k v l r : ByteArray) (n : Int) (w : World) (hk : k.size ≤ 1048576) (hv : v.size ≤ 1048576) (hl : l.size ≤ 1048576) (hr : r.size ≤ 1048576) :
    Calls Tryd.prog 18 #[.agg #[.string k, .string v, .string l, .string r], .int .i64 n] w fun e w' => ∃ t, e = .returned (.string t) ∧ Hid (t = encS k v l r n) ∧ Below w.heap.size w w' := by
  obtain ⟨z, hz⟩ : ∃ z, nodeOk k.size v.size l.size r.size n = z := ⟨_, rfl⟩
  have HV : Hid (∀ w', Calls Tryd.prog 35 #[.agg #[.string k, .string v, .string l, .string r], .int .i64 n] w' fun e w'' => e = .returned (.bool z) ∧ Below w'.heap.size w' w'') := fun w' => by rw [← hz]; exact valid_any k v l r n w' hk hv hl hr
  cases z
  · have HR : Hid (encS k v l r n = ⟨#[]⟩) := by show _ = _; unfold encS; rw [if_neg (by rw [hz]; decide)]
    clear hz
    go_enter Tryd.func18, Tryd.ntmps18
    go_wp2_with (first | (go_at_call 35; refine (HV.out _).mono ?_; rintro e w1 ⟨rfl, hb1⟩))
    go_ret
    exact ⟨_, rfl, HR.out.symm, ((Below.refl _ w).alloc (Nat.le_refl _) _).trans (hb1.mono (by simp))⟩
  · have HR : Hid (encS k v l r n = T (encL k.data.toList v.data.toList l.data.toList r.data.toList)) := by show _ = _; unfold encS; rw [if_pos hz]
    have hsz : k.size ≤ 256 ∧ v.size ≤ 2000 ∧ l.size ≤ 32 ∧ r.size ≤ 32 := by
      unfold nodeOk hashOk at hz
      simp only [Bool.and_eq_true, Bool.or_eq_true, decide_eq_true_eq] at hz
      omega
    obtain ⟨m, hm⟩ : ∃ m, encL k.data.toList v.data.toList l.data.toList r.data.toList = m := ⟨_, rfl⟩
    have HC : Hid (∀ w', Calls Tryd.prog 36 #[.iface 65 (.agg #[.int .i64 n]), .agg #[.string k, .string v, .string l, .string r]] w' fun e w'' => ∃ t : ByteArray, e = .returned (.string t) ∧ Hid (t.data.toList = m) ∧ Below w'.heap.size w' w'') := by
      intro w'
      refine written_N n k v l r m w' ?_
      intro b' w'' h''
      refine wR42 n k v l r b' [] m w'' h'' ?_
      intro w3 h3
      have hf : (flagOf l.size r.size : Int) = 0 ∨ (flagOf l.size r.size : Int) = 1 ∨ (flagOf l.size r.size : Int) = 2 ∨ (flagOf l.size r.size : Int) = 3 := by
        unfold flagOf; split <;> split <;> simp
      have := node_put_f (flagOf l.size r.size) _ rfl hf b' n k v l r [] w3 h3 (by simp) hsz.1 hsz.2.1 hsz.2.2.1 hsz.2.2.2 (fun w' => flags_any k v l r w')
      rw [List.nil_append] at this
      rw [← hm]
      exact this
    rw [hm] at HR
    clear hz hm hsz
    go_enter Tryd.func18, Tryd.ntmps18
    go_wp2_with (first | (go_at_call 35; refine (HV.out _).mono ?_; rintro e w1 ⟨rfl, hb1⟩; have hn1 := below_cells hb1 (heap_alloc_new w (.cells #[.string k, .string v, .string l, .string r] 26)); have c0 := Lib.cell_of_heap hn1 0; have c1 := Lib.cell_of_heap hn1 1; have c2 := Lib.cell_of_heap hn1 2; have c3 := Lib.cell_of_heap hn1 3) | (go_at_call 36; refine (HC.out _).mono ?_; rintro e w2 ⟨t, rfl, HT, hb2⟩))
    go_ret
    exact ⟨t, rfl, (of_list HT.out).trans HR.out.symm, (((Below.refl _ w).alloc (Nat.le_refl _) _).trans (hb1.mono (by simp))).trans (hb2.mono (by have := hb1.size; simp at this; omega))⟩
end Go.Proofs.YthopecgcpfhceacDoor
namespace Go.Proofs.YthopecgcpfhceacDoor
open Go.RowKit Go.Proofs.Sha

theorem rsized2 (r : Nat) (s : ByteArray) (a : Nat) (f : Bool) (w : World) (h : Rd r s a f w) (ha : a ≤ s.size) (hs : s.size ≤ 1048576) :
    Calls Tryd.prog 86 #[.pointer (some ⟨r, 0, none⟩), .iface 127 (.agg #[.int .i64 2, .bool false])] w fun e w' => ∃ (t : ByteArray) (a' : Nat) (f' : Bool), e = .returned (.string t) ∧ Hid (SX 2 false s a f t a' f') ∧ a' ≤ s.size ∧ t.size ≤ s.size ∧ Rd r s a' f' w' ∧ Mv r w w' :=
  rsized 2 false r s a f w h ha hs (by omega) (by omega)
theorem rint1 (r : Nat) (s : ByteArray) (a : Nat) (f : Bool) (w : World) (h : Rd r s a f w) (ha : a ≤ s.size) (hs : s.size ≤ 1048576) :
    Calls Tryd.prog 87 #[.pointer (some ⟨r, 0, none⟩), .iface 125 (.agg #[.int .i64 1, .bool false])] w fun e w' => ∃ (v : Nat) (t : ByteArray) (a' : Nat) (f' : Bool), e = .returned (.int .i64 (v : Int)) ∧ Hid (NX s a f 1 t a' f') ∧ Hid (v = valTo 1 false (byteAt t) t.size) ∧ a' ≤ s.size ∧ v < 4294967296 ∧ Rd r s a' f' w' ∧ Mv r w w' :=
  rint 1 false r s a f w h ha hs (by omega) (by omega)
theorem link_nat (n b : Nat) (hn : n ≤ 32) (w : World) : Calls Tryd.prog 79 #[.agg #[.int .i64 (n : Int)], .int .i64 (b : Int)] w fun e w' => ∃ m : Nat, e = .returned (.agg #[.int .i64 (m : Int)]) ∧ m ≤ 32 ∧ Hid (m = if b = 0 then 0 else n) ∧ Below w.heap.size w w' := by
  refine (link_any (n : Int) (b : Int) w).mono ?_
  rintro e w' ⟨rfl, hb⟩
  by_cases h : b = 0
  · refine ⟨0, ?_, by omega, ?_, hb⟩
    · rw [if_pos (by omega)]; rfl
    · show 0 = _; rw [if_pos h]
  · refine ⟨n, ?_, hn, ?_, hb⟩
    · rw [if_neg (by omega)]
    · show n = _; rw [if_neg h]

/-- A node's block. -/
def NB (g : Nat) (k v l r : ByteArray) (w : World) : Prop := w.heap[g]? = some (.cells #[.string k, .string v, .string l, .string r] 26)
theorem NB.s0 {g : Nat} {k v l r : ByteArray} {w : World} (h : NB g k v l r w) (x : ByteArray) : NB g x v l r (w.setCell ⟨g, 0, none⟩ (.string x)) := heap_setCell_same w g 0 _ 26 _ h
theorem NB.s1 {g : Nat} {k v l r : ByteArray} {w : World} (h : NB g k v l r w) (x : ByteArray) : NB g k x l r (w.setCell ⟨g, 1, none⟩ (.string x)) := heap_setCell_same w g 1 _ 26 _ h
theorem NB.s2 {g : Nat} {k v l r : ByteArray} {w : World} (h : NB g k v l r w) (x : ByteArray) : NB g k v x r (w.setCell ⟨g, 2, none⟩ (.string x)) := heap_setCell_same w g 2 _ 26 _ h
theorem NB.s3 {g : Nat} {k v l r : ByteArray} {w : World} (h : NB g k v l r w) (x : ByteArray) : NB g k v l x (w.setCell ⟨g, 3, none⟩ (.string x)) := heap_setCell_same w g 3 _ 26 _ h
theorem set_other {g i k : Nat} {x : Value} {w : World} {o : Obj} (h : w.heap[k]? = some o) (hne : k ≠ g) : (w.setCell ⟨g, i, none⟩ x).heap[k]? = some o := (heap_setCell_other w ⟨g, i, none⟩ k x hne).trans h
theorem Rd.other {r g i : Nat} {s : ByteArray} {a : Nat} {f : Bool} {x : Value} {w : World} (h : Rd r s a f w) (hne : r ≠ g) : Rd r s a f (w.setCell ⟨g, i, none⟩ x) := set_other h hne
theorem size_set (w : World) (a : Addr) (x : Value) : (w.setCell a x).heap.size = w.heap.size := by simp [World.setCell]
/-- A store into a block that was not there. -/
theorem Mv.other {r g i n : Nat} {a w : World} {x : Value} (h : Mv r a w) (hn : a.heap.size = n) (hg : n ≤ g) : Mv r a (w.setCell ⟨g, i, none⟩ x) :=
  ⟨h.os, h.tape, h.output, by rw [size_set]; exact h.size, fun k hk hr => (heap_setCell_other w ⟨g, i, none⟩ k x (by show k ≠ g; omega)).trans (h.block k hk hr)⟩

/-- What nodeForm.take answers and leaves. -/
def NR (n : Nat) (s : ByteArray) (a : Nat) (f : Bool) (k v l r : ByteArray) (a' : Nat) (f' : Bool) : Prop :=
  ∃ (a1 : Nat) (f1 : Bool) (a2 : Nat) (f2 : Bool) (fl : Nat) (t3 : ByteArray) (a3 : Nat) (f3 : Bool) (a4 : Nat) (f4 f5 : Bool),
    SX 2 false s a f k a1 f1 ∧ SX 2 false s a1 f1 v a2 f2 ∧ NX s a2 f2 1 t3 a3 f3 ∧ fl = valTo 1 false (byteAt t3) t3.size ∧
    NX s a3 f3 (if fl &&& 1 = 0 then 0 else n) l a4 f4 ∧ NX s a4 f4 (if fl &&& 2 = 0 then 0 else n) r a' f5 ∧
    f' = (f5 || (decide (3 < fl) || !nodeOk k.size v.size l.size r.size (n : Int)))

/-- What stands while a node is read. -/
structure ST (w : World) (fb r n : Nat) (s : ByteArray) (a : Nat) (f : Bool) (k v l x : ByteArray) (W : World) : Prop where
  sz : w.heap.size = fb
  lt : r < fb
  rd : Rd r s a f W
  mv : Mv r w W
  fc : W.heap[fb]? = some (.cells #[.int .i64 (n : Int)] 65)
  rb : NB (fb + 1) ⟨#[]⟩ ⟨#[]⟩ ⟨#[]⟩ ⟨#[]⟩ W
  nb : NB (fb + 1 + 1) k v l x W
section
variable {w : World} {fb r n : Nat} {s : ByteArray} {a : Nat} {f : Bool} {k v l x : ByteArray} {W W' : World}
theorem ST.below (h : ST w fb r n s a f k v l x W) (hb : Below W.heap.size W W') : ST w fb r n s a f k v l x W' :=
  ⟨h.sz, h.lt, h.rd.below hb, h.mv.trans (Mv.of_below r hb), below_cells hb h.fc, below_cells hb h.rb, below_cells hb h.nb⟩
theorem ST.move (h : ST w fb r n s a f k v l x W) {a' : Nat} {f' : Bool} (hr : Rd r s a' f' W') (hm : Mv r W W') : ST w fb r n s a' f' k v l x W' :=
  have hl := h.lt
  ⟨h.sz, h.lt, hr, h.mv.trans hm, hm.cells h.fc (by omega), hm.cells h.rb (by omega), hm.cells h.nb (by omega)⟩
theorem ST.s0 (h : ST w fb r n s a f k v l x W) (y : ByteArray) : ST w fb r n s a f y v l x (W.setCell ⟨fb + 1 + 1, 0, none⟩ (.string y)) :=
  have hl := h.lt
  ⟨h.sz, h.lt, h.rd.other (by omega), h.mv.other h.sz (by omega), set_other h.fc (by omega), set_other h.rb (by omega), h.nb.s0 y⟩
theorem ST.s1 (h : ST w fb r n s a f k v l x W) (y : ByteArray) : ST w fb r n s a f k y l x (W.setCell ⟨fb + 1 + 1, 1, none⟩ (.string y)) :=
  have hl := h.lt
  ⟨h.sz, h.lt, h.rd.other (by omega), h.mv.other h.sz (by omega), set_other h.fc (by omega), set_other h.rb (by omega), h.nb.s1 y⟩
theorem ST.s2 (h : ST w fb r n s a f k v l x W) (y : ByteArray) : ST w fb r n s a f k v y x (W.setCell ⟨fb + 1 + 1, 2, none⟩ (.string y)) :=
  have hl := h.lt
  ⟨h.sz, h.lt, h.rd.other (by omega), h.mv.other h.sz (by omega), set_other h.fc (by omega), set_other h.rb (by omega), h.nb.s2 y⟩
theorem ST.s3 (h : ST w fb r n s a f k v l x W) (y : ByteArray) : ST w fb r n s a f k v l y (W.setCell ⟨fb + 1 + 1, 3, none⟩ (.string y)) :=
  have hl := h.lt
  ⟨h.sz, h.lt, h.rd.other (by omega), h.mv.other h.sz (by omega), set_other h.fc (by omega), set_other h.rb (by omega), h.nb.s3 y⟩
/-- The answer's four cells are laid. -/
theorem ST.fin (h : ST w fb r n s a f k v l x W) : NB (fb + 1) k v l x ((((W.setCell ⟨fb + 1, 0, none⟩ (.string k)).setCell ⟨fb + 1, 1, none⟩ (.string v)).setCell ⟨fb + 1, 2, none⟩ (.string l)).setCell ⟨fb + 1, 3, none⟩ (.string x)) ∧
    Rd r s a f ((((W.setCell ⟨fb + 1, 0, none⟩ (.string k)).setCell ⟨fb + 1, 1, none⟩ (.string v)).setCell ⟨fb + 1, 2, none⟩ (.string l)).setCell ⟨fb + 1, 3, none⟩ (.string x)) ∧
    Mv r w ((((W.setCell ⟨fb + 1, 0, none⟩ (.string k)).setCell ⟨fb + 1, 1, none⟩ (.string v)).setCell ⟨fb + 1, 2, none⟩ (.string l)).setCell ⟨fb + 1, 3, none⟩ (.string x)) :=
  have hl := h.lt
  ⟨(((h.rb.s0 k).s1 v).s2 l).s3 x, (((h.rd.other (by omega)).other (by omega)).other (by omega)).other (by omega), (((h.mv.other h.sz (by omega)).other h.sz (by omega)).other h.sz (by omega)).other h.sz (by omega)⟩
end

theorem ret59 {w : World} {g : Nat} {k v l r : ByteArray} (h : NB g k v l r w) {a : Act} {R : Ending → World → Prop} (h4 : a.tmps.getD 4 undef = .pointer (some ⟨g, 0, none⟩)) (hd : a.defers = [])
    (hR : R (.returned (nodeV k v l r)) w) : bodyPost Tryd.prog Tryd.f81 R .ret a w := by
  have c0 : w.cell? ⟨g, 0, none⟩ = some (.string k) := Lib.cell_of_heap h 0
  have c1 : w.cell? ⟨g, 1, none⟩ = some (.string v) := Lib.cell_of_heap h 1
  have c2 : w.cell? ⟨g, 2, none⟩ = some (.string l) := Lib.cell_of_heap h 2
  have c3 : w.cell? ⟨g, 3, none⟩ = some (.string r) := Lib.cell_of_heap h 3
  have h4' : a.tmps[4]?.getD undef = .pointer (some ⟨g, 0, none⟩) := by simpa using h4
  exact bodyPost_ret (v := nodeV k v l r) (by simp [results, Tryd.results81, go_sem, h4', asAddr, c0, c1, c2, c3]) hd hR

set_option maxRecDepth 100000 in
set_option maxHeartbeats 2000000 in
theorem node_take (n : Nat) (r : Nat) (s : ByteArray) (a : Nat) (f : Bool) (w : World) (h : Rd r s a f w) (ha : a ≤ s.size) (hs : s.size ≤ 1048576) (hn : n ≤ 32) :
    Calls Tryd.prog 81 #[.agg #[.int .i64 (n : Int)], .pointer (some ⟨r, 0, none⟩)] w fun e w' => ∃ (k v l x : ByteArray) (a' : Nat) (f' : Bool), e = .returned (nodeV k v l x) ∧ Hid (NR n s a f k v l x a' f') ∧ a' ≤ s.size ∧ k.size ≤ s.size ∧ v.size ≤ s.size ∧ l.size ≤ s.size ∧ x.size ≤ s.size ∧ Rd r s a' f' w' ∧ Mv r w w' := by
  have hlt := h.lt
  obtain ⟨w0, hw0⟩ : ∃ w0, w0 = ((w.alloc (.cells #[.int .i64 (n : Int)] 65)).alloc (.cells #[.string ⟨#[]⟩, .string ⟨#[]⟩, .string ⟨#[]⟩, .string ⟨#[]⟩] 26)).alloc (.cells #[.string ⟨#[]⟩, .string ⟨#[]⟩, .string ⟨#[]⟩, .string ⟨#[]⟩] 26) := ⟨_, rfl⟩
  obtain ⟨fb, hfb⟩ : ∃ fb, w.heap.size = fb := ⟨_, rfl⟩
  have hS0 : ST w fb r n s a f ⟨#[]⟩ ⟨#[]⟩ ⟨#[]⟩ ⟨#[]⟩ w0 := by
    refine ⟨hfb, by omega, ?_, ?_, ?_, ?_, ?_⟩
    · rw [hw0]; exact ((h.alloc _).alloc _).alloc _
    · rw [hw0]; exact (((Mv.refl r w).alloc _).alloc _).alloc _
    · rw [hw0]; exact below_cells ((Below.refl _ _).alloc (Nat.le_refl _) _) (below_cells ((Below.refl _ _).alloc (Nat.le_refl _) _) (by rw [← hfb]; exact heap_alloc_new _ _))
    · rw [hw0]; refine below_cells ((Below.refl _ _).alloc (Nat.le_refl _) _) ?_
      rw [show fb + 1 = (w.alloc (.cells #[.int .i64 (n : Int)] 65)).heap.size by simp [hfb]]; exact heap_alloc_new _ _
    · rw [hw0]; unfold NB; rw [show fb + 1 + 1 = ((w.alloc (.cells #[.int .i64 (n : Int)] 65)).alloc (.cells #[.string ⟨#[]⟩, .string ⟨#[]⟩, .string ⟨#[]⟩, .string ⟨#[]⟩] 26)).heap.size by simp [hfb]]; exact heap_alloc_new _ _
  go_enter Tryd.func81, Tryd.ntmps81
  go_wp2_with fail
  rw [← hw0]
  clear hw0 h
  refine (kept_any _).mono ?_
  rintro e w1 ⟨rfl, hb1⟩
  go_wp2_with fail
  refine (rsized2 r s a f _ (hS0.below hb1).rd ha hs).mono ?_
  rintro e w2 ⟨k, a1, f1, rfl, H1, ha1, hk, hr2, hm2⟩
  have hS2 := (hS0.below hb1).move hr2 hm2
  clear hr2 hm2 hb1 hS0
  have c20 : w2.cell? ⟨fb + 1 + 1, 0, none⟩ = some (.string ⟨#[]⟩) := Lib.cell_of_heap hS2.nb 0
  have f20 : w2.frozen? ⟨fb + 1 + 1, 0, none⟩ = false := frozen_of_heap hS2.nb
  go_wp2_with fail
  obtain ⟨w3, hw3⟩ : ∃ w3, w3 = w2.setCell ⟨fb + 1 + 1, 0, none⟩ (.string k) := ⟨_, rfl⟩
  have hS3 : ST w fb r n s a1 f1 k ⟨#[]⟩ ⟨#[]⟩ ⟨#[]⟩ w3 := by rw [hw3]; exact hS2.s0 k
  rw [← hw3]
  clear hw3 hS2 c20 f20
  refine (kept_any _).mono ?_
  rintro e w4 ⟨rfl, hb4⟩
  go_wp2_with fail
  refine (rsized2 r s a1 f1 _ (hS3.below hb4).rd ha1 hs).mono ?_
  rintro e w5 ⟨v, a2, f2, rfl, H2, ha2, hv, hr5, hm5⟩
  have hS5 := (hS3.below hb4).move hr5 hm5
  clear hr5 hm5 hb4 hS3
  have c51 : w5.cell? ⟨fb + 1 + 1, 1, none⟩ = some (.string ⟨#[]⟩) := Lib.cell_of_heap hS5.nb 1
  have f51 : w5.frozen? ⟨fb + 1 + 1, 1, none⟩ = false := frozen_of_heap hS5.nb
  go_wp2_with fail
  obtain ⟨w6, hw6⟩ : ∃ w6, w6 = w5.setCell ⟨fb + 1 + 1, 1, none⟩ (.string v) := ⟨_, rfl⟩
  have hS6 : ST w fb r n s a2 f2 k v ⟨#[]⟩ ⟨#[]⟩ w6 := by rw [hw6]; exact hS5.s1 v
  rw [← hw6]
  clear hw6 hS5 c51 f51
  refine (rint1 r s a2 f2 _ hS6.rd ha2 hs).mono ?_
  rintro e w7 ⟨fl, t3, a3, f3, rfl, H3, HV, ha3, hfl, hr7, hm7⟩
  have hS7 := hS6.move hr7 hm7
  clear hr7 hm7 hS6
  obtain ⟨b1, hb1⟩ : ∃ b, fl &&& 1 = b := ⟨_, rfl⟩
  obtain ⟨b2, hb2⟩ : ∃ b, fl &&& 2 = b := ⟨_, rfl⟩
  have g1 : bits .and .i64 (fl : Int) 1 = (b1 : Int) := by rw [← hb1]; exact i64_and_nat fl 1 hfl (by omega)
  have g2 : bits .and .i64 (fl : Int) 2 = (b2 : Int) := by rw [← hb2]; exact i64_and_nat fl 2 hfl (by omega)
  have d7 : w7.cell? ⟨fb, 0, none⟩ = some (.int .i64 (n : Int)) := Lib.cell_of_heap hS7.fc 0
  have HB : Hid (fl &&& 1 = b1 ∧ fl &&& 2 = b2) := ⟨hb1, hb2⟩
  clear hb1 hb2
  go_wp2_with fail
  refine (link_nat n b1 hn _).mono ?_
  rintro e w8 ⟨m1, rfl, hm1, HM1, hb8⟩
  have hS8 := hS7.below hb8
  clear hS7 hb8 d7
  go_wp2_with fail
  refine (rplain m1 r s a3 f3 _ hS8.rd ha3 hs (by omega)).mono ?_
  rintro e w9 ⟨l, a4, f4, rfl, H4, ha4, hl, hr9, hm9⟩
  have hS9 := hS8.move hr9 hm9
  clear hr9 hm9 hS8
  have c92 : w9.cell? ⟨fb + 1 + 1, 2, none⟩ = some (.string ⟨#[]⟩) := Lib.cell_of_heap hS9.nb 2
  have f92 : w9.frozen? ⟨fb + 1 + 1, 2, none⟩ = false := frozen_of_heap hS9.nb
  have d9 : ∀ y, (w9.setCell ⟨fb + 1 + 1, 2, none⟩ y).cell? ⟨fb, 0, none⟩ = some (.int .i64 (n : Int)) := fun y => Lib.cell_of_heap (set_other hS9.fc (by omega)) 0
  go_wp2_with fail
  obtain ⟨w10, hw10⟩ : ∃ w10, w10 = w9.setCell ⟨fb + 1 + 1, 2, none⟩ (.string l) := ⟨_, rfl⟩
  have hS10 : ST w fb r n s a4 f4 k v l ⟨#[]⟩ w10 := by rw [hw10]; exact hS9.s2 l
  rw [← hw10]
  clear hw10 hS9 c92 f92 d9
  refine (link_nat n b2 hn _).mono ?_
  rintro e w11 ⟨m2, rfl, hm2, HM2, hb11⟩
  have hS11 := hS10.below hb11
  clear hS10 hb11
  go_wp2_with fail
  refine (rplain m2 r s a4 f4 _ hS11.rd ha4 hs (by omega)).mono ?_
  rintro e w12 ⟨x, a5, f5, rfl, H5, ha5, hx, hr12, hm12⟩
  have hS12 := hS11.move hr12 hm12
  clear hr12 hm12 hS11
  have c123 : w12.cell? ⟨fb + 1 + 1, 3, none⟩ = some (.string ⟨#[]⟩) := Lib.cell_of_heap hS12.nb 3
  have f123 : w12.frozen? ⟨fb + 1 + 1, 3, none⟩ = false := frozen_of_heap hS12.nb
  obtain ⟨w13, hw13⟩ : ∃ w13, w13 = w12.setCell ⟨fb + 1 + 1, 3, none⟩ (.string x) := ⟨_, rfl⟩
  have hS13 : ST w fb r n s a5 f5 k v l x w13 := by rw [hw13]; exact hS12.s3 x
  have HNR : Hid (∀ f', f' = (f5 || (decide (3 < fl) || !nodeOk k.size v.size l.size x.size (n : Int))) → NR n s a f k v l x a5 f') := by
    intro f' hf'
    refine ⟨a1, f1, a2, f2, fl, t3, a3, f3, a4, f4, f5, H1.out, H2.out, H3.out, HV.out, ?_, ?_, hf'⟩
    · rw [HB.out.1, ← HM1.out]; exact H4.out
    · rw [HB.out.2, ← HM2.out]; exact H5.out
  have p0 : w12.cell? ⟨fb + 1 + 1, 0, none⟩ = some (.string k) := Lib.cell_of_heap hS12.nb 0
  have p1 : w12.cell? ⟨fb + 1 + 1, 1, none⟩ = some (.string v) := Lib.cell_of_heap hS12.nb 1
  have p2 : w12.cell? ⟨fb + 1 + 1, 2, none⟩ = some (.string l) := Lib.cell_of_heap hS12.nb 2
  have q0 : w12.cell? ⟨fb, 0, none⟩ = some (.int .i64 (n : Int)) := Lib.cell_of_heap hS12.fc 0
  clear hS12 H1 H2 H3 H4 H5 HM1 HM2 HB HV g1 g2
  obtain ⟨z, hz⟩ : ∃ z, nodeOk k.size v.size l.size x.size (n : Int) = z := ⟨_, rfl⟩
  have HVn : Hid (∀ w', Calls Tryd.prog 35 #[nodeV k v l x, .int .i64 (n : Int)] w' fun e w'' => e = .returned (.bool z) ∧ Below w'.heap.size w' w'') := fun w' => by rw [← hz]; exact valid_any k v l x n w' (by omega) (by omega) (by omega) (by omega)
  rw [hz] at HNR
  clear hz
  have c0 : w13.cell? ⟨fb + 1 + 1, 0, none⟩ = some (.string k) := Lib.cell_of_heap hS13.nb 0
  have c1 : w13.cell? ⟨fb + 1 + 1, 1, none⟩ = some (.string v) := Lib.cell_of_heap hS13.nb 1
  have c2 : w13.cell? ⟨fb + 1 + 1, 2, none⟩ = some (.string l) := Lib.cell_of_heap hS13.nb 2
  have c3 : w13.cell? ⟨fb + 1 + 1, 3, none⟩ = some (.string x) := Lib.cell_of_heap hS13.nb 3
  have d0 : w13.cell? ⟨fb, 0, none⟩ = some (.int .i64 (n : Int)) := Lib.cell_of_heap hS13.fc 0
  have HEnd : Hid (∀ (W : World) (f' : Bool), f' = (f5 || (decide (3 < fl) || !z)) → ST w fb r n s a5 f' k v l x W → ∀ (A : Act), A.tmps.getD 4 undef = .pointer (some ⟨fb + 1, 0, none⟩) → A.defers = [] →
      bodyPost Tryd.prog Tryd.f81 (fun e w' => ∃ (k v l x : ByteArray) (a' : Nat) (f' : Bool), e = .returned (nodeV k v l x) ∧ Hid (NR n s a f k v l x a' f') ∧ a' ≤ s.size ∧ k.size ≤ s.size ∧ v.size ≤ s.size ∧ l.size ≤ s.size ∧ x.size ≤ s.size ∧ Rd r s a' f' w' ∧ Mv r w w') .ret A
        ((((W.setCell ⟨fb + 1, 0, none⟩ (.string k)).setCell ⟨fb + 1, 1, none⟩ (.string v)).setCell ⟨fb + 1, 2, none⟩ (.string l)).setCell ⟨fb + 1, 3, none⟩ (.string x))) := by
    intro W f' hf' hS A h4 hd
    have hF := hS.fin
    exact ret59 hF.1 h4 hd ⟨k, v, l, x, a5, f', rfl, HNR.out f' hf', ha5, hk, hv, hl, hx, hF.2.1, hF.2.2⟩
  by_cases h3 : 3 < fl
  · have z3 : decide ((3 : Int) < (fl : Int)) = true := by simp; omega
    go_wp2_with fail
    rw [← hw13]
    refine (fail_any r s a5 f5 _ hS13.rd).mono ?_
    rintro e w14 ⟨rfl, hr14, hm14⟩
    have hS14 := hS13.move hr14 hm14
    have HFin := HEnd.out w14 true (by rw [decide_eq_true h3]; simp) hS14
    have r0 : w14.cell? ⟨fb + 1 + 1, 0, none⟩ = some (.string k) := Lib.cell_of_heap hS14.nb 0
    have r1 : w14.cell? ⟨fb + 1 + 1, 1, none⟩ = some (.string v) := Lib.cell_of_heap hS14.nb 1
    have r2 : w14.cell? ⟨fb + 1 + 1, 2, none⟩ = some (.string l) := Lib.cell_of_heap hS14.nb 2
    have r3 : w14.cell? ⟨fb + 1 + 1, 3, none⟩ = some (.string x) := Lib.cell_of_heap hS14.nb 3
    have s0 : w14.cell? ⟨fb + 1, 0, none⟩ = some (.string ⟨#[]⟩) := Lib.cell_of_heap hS14.rb 0
    have s1 : w14.cell? ⟨fb + 1, 1, none⟩ = some (.string ⟨#[]⟩) := Lib.cell_of_heap hS14.rb 1
    have s2 : w14.cell? ⟨fb + 1, 2, none⟩ = some (.string ⟨#[]⟩) := Lib.cell_of_heap hS14.rb 2
    have s3 : w14.cell? ⟨fb + 1, 3, none⟩ = some (.string ⟨#[]⟩) := Lib.cell_of_heap hS14.rb 3
    have u0 : w14.frozen? ⟨fb + 1, 0, none⟩ = false := frozen_of_heap hS14.rb
    have u1 : w14.frozen? ⟨fb + 1, 1, none⟩ = false := frozen_of_heap hS14.rb
    have u2 : w14.frozen? ⟨fb + 1, 2, none⟩ = false := frozen_of_heap hS14.rb
    have u3 : w14.frozen? ⟨fb + 1, 3, none⟩ = false := frozen_of_heap hS14.rb
    have HFinH : Hid (∀ (A : Act), A.tmps.getD 4 undef = .pointer (some ⟨fb + 1, 0, none⟩) → A.defers = [] → _) := HFin
    clear HFin HEnd HNR HVn hS13 hS14 hr14 hm14 c0 c1 c2 c3 d0 p0 p1 p2 q0 hw13 c123 f123
    go_wp2_with fail
    exact HFinH.out _ rfl rfl
  · have z3 : decide ((3 : Int) < (fl : Int)) = false := by simp; omega
    go_wp2_with fail
    rw [← hw13]
    refine (HVn.out _).mono ?_
    rintro e w14 ⟨rfl, hb14⟩
    have hS14 := hS13.below hb14
    clear hb14 hS13 HVn HNR c0 c1 c2 c3 d0 p0 p1 p2 q0 hw13 c123 f123
    cases z
    · go_wp2_with fail
      refine (fail_any r s a5 f5 _ hS14.rd).mono ?_
      rintro e w15 ⟨rfl, hr15, hm15⟩
      have hS15 := hS14.move hr15 hm15
      have HFinH : Hid (∀ (A : Act), A.tmps.getD 4 undef = .pointer (some ⟨fb + 1, 0, none⟩) → A.defers = [] → _) := HEnd.out w15 true (by simp) hS15
      clear HEnd hr15 hm15 hS14
      have r0 : w15.cell? ⟨fb + 1 + 1, 0, none⟩ = some (.string k) := Lib.cell_of_heap hS15.nb 0
      have r1 : w15.cell? ⟨fb + 1 + 1, 1, none⟩ = some (.string v) := Lib.cell_of_heap hS15.nb 1
      have r2 : w15.cell? ⟨fb + 1 + 1, 2, none⟩ = some (.string l) := Lib.cell_of_heap hS15.nb 2
      have r3 : w15.cell? ⟨fb + 1 + 1, 3, none⟩ = some (.string x) := Lib.cell_of_heap hS15.nb 3
      have s0 : w15.cell? ⟨fb + 1, 0, none⟩ = some (.string ⟨#[]⟩) := Lib.cell_of_heap hS15.rb 0
      have s1 : w15.cell? ⟨fb + 1, 1, none⟩ = some (.string ⟨#[]⟩) := Lib.cell_of_heap hS15.rb 1
      have s2 : w15.cell? ⟨fb + 1, 2, none⟩ = some (.string ⟨#[]⟩) := Lib.cell_of_heap hS15.rb 2
      have s3 : w15.cell? ⟨fb + 1, 3, none⟩ = some (.string ⟨#[]⟩) := Lib.cell_of_heap hS15.rb 3
      have u0 : w15.frozen? ⟨fb + 1, 0, none⟩ = false := frozen_of_heap hS15.rb
      have u1 : w15.frozen? ⟨fb + 1, 1, none⟩ = false := frozen_of_heap hS15.rb
      have u2 : w15.frozen? ⟨fb + 1, 2, none⟩ = false := frozen_of_heap hS15.rb
      have u3 : w15.frozen? ⟨fb + 1, 3, none⟩ = false := frozen_of_heap hS15.rb
      clear hS15
      go_wp2_with fail
      exact HFinH.out _ rfl rfl
    · have HFinH : Hid (∀ (A : Act), A.tmps.getD 4 undef = .pointer (some ⟨fb + 1, 0, none⟩) → A.defers = [] → _) := HEnd.out w14 f5 (by rw [decide_eq_false h3]; simp) hS14
      clear HEnd
      have r0 : w14.cell? ⟨fb + 1 + 1, 0, none⟩ = some (.string k) := Lib.cell_of_heap hS14.nb 0
      have r1 : w14.cell? ⟨fb + 1 + 1, 1, none⟩ = some (.string v) := Lib.cell_of_heap hS14.nb 1
      have r2 : w14.cell? ⟨fb + 1 + 1, 2, none⟩ = some (.string l) := Lib.cell_of_heap hS14.nb 2
      have r3 : w14.cell? ⟨fb + 1 + 1, 3, none⟩ = some (.string x) := Lib.cell_of_heap hS14.nb 3
      have s0 : w14.cell? ⟨fb + 1, 0, none⟩ = some (.string ⟨#[]⟩) := Lib.cell_of_heap hS14.rb 0
      have s1 : w14.cell? ⟨fb + 1, 1, none⟩ = some (.string ⟨#[]⟩) := Lib.cell_of_heap hS14.rb 1
      have s2 : w14.cell? ⟨fb + 1, 2, none⟩ = some (.string ⟨#[]⟩) := Lib.cell_of_heap hS14.rb 2
      have s3 : w14.cell? ⟨fb + 1, 3, none⟩ = some (.string ⟨#[]⟩) := Lib.cell_of_heap hS14.rb 3
      have u0 : w14.frozen? ⟨fb + 1, 0, none⟩ = false := frozen_of_heap hS14.rb
      have u1 : w14.frozen? ⟨fb + 1, 1, none⟩ = false := frozen_of_heap hS14.rb
      have u2 : w14.frozen? ⟨fb + 1, 2, none⟩ = false := frozen_of_heap hS14.rb
      have u3 : w14.frozen? ⟨fb + 1, 3, none⟩ = false := frozen_of_heap hS14.rb
      clear hS14
      go_wp2_with fail
      exact HFinH.out _ rfl rfl
end Go.Proofs.YthopecgcpfhceacDoor
namespace Go.Proofs.YthopecgcpfhceacDoor
open Go.RowKit Go.Proofs.Sha

theorem fin4 {w W : World} {fb r : Nat} {s : ByteArray} {a : Nat} {f : Bool} {y0 y1 y2 y3 k v l x : ByteArray} (hb : NB fb y0 y1 y2 y3 W) (hr : Rd r s a f W) (hm : Mv r w W) (hsz : w.heap.size = fb) (hl : r < fb) :
    NB fb k v l x ((((W.setCell ⟨fb, 0, none⟩ (.string k)).setCell ⟨fb, 1, none⟩ (.string v)).setCell ⟨fb, 2, none⟩ (.string l)).setCell ⟨fb, 3, none⟩ (.string x)) ∧
    Rd r s a f ((((W.setCell ⟨fb, 0, none⟩ (.string k)).setCell ⟨fb, 1, none⟩ (.string v)).setCell ⟨fb, 2, none⟩ (.string l)).setCell ⟨fb, 3, none⟩ (.string x)) ∧
    Mv r w ((((W.setCell ⟨fb, 0, none⟩ (.string k)).setCell ⟨fb, 1, none⟩ (.string v)).setCell ⟨fb, 2, none⟩ (.string l)).setCell ⟨fb, 3, none⟩ (.string x)) :=
  ⟨(((hb.s0 k).s1 v).s2 l).s3 x, (((hr.other (by omega)).other (by omega)).other (by omega)).other (by omega), (((hm.other hsz (by omega)).other hsz (by omega)).other hsz (by omega)).other hsz (by omega)⟩
theorem ret36 {w : World} {g : Nat} {k v l r : ByteArray} (h : NB g k v l r w) {a : Act} {R : Ending → World → Prop} (h4 : a.tmps.getD 4 undef = .pointer (some ⟨g, 0, none⟩)) (hd : a.defers = [])
    (hR : R (.returned (nodeV k v l r)) w) : bodyPost Tryd.prog Tryd.f58 R .ret a w := by
  have c0 : w.cell? ⟨g, 0, none⟩ = some (.string k) := Lib.cell_of_heap h 0
  have c1 : w.cell? ⟨g, 1, none⟩ = some (.string v) := Lib.cell_of_heap h 1
  have c2 : w.cell? ⟨g, 2, none⟩ = some (.string l) := Lib.cell_of_heap h 2
  have c3 : w.cell? ⟨g, 3, none⟩ = some (.string r) := Lib.cell_of_heap h 3
  have h4' : a.tmps[4]?.getD undef = .pointer (some ⟨g, 0, none⟩) := by simpa using h4
  exact bodyPost_ret (v := nodeV k v l r) (by simp [results, Tryd.results58, go_sem, h4', asAddr, c0, c1, c2, c3]) hd hR

set_option maxRecDepth 100000 in
theorem rnode (n : Nat) (r : Nat) (s : ByteArray) (a : Nat) (f : Bool) (w : World) (h : Rd r s a f w) (ha : a ≤ s.size) (hs : s.size ≤ 1048576) (hn : n ≤ 32) :
    Calls Tryd.prog 58 #[.pointer (some ⟨r, 0, none⟩), .iface 65 (.agg #[.int .i64 (n : Int)])] w fun e w' => ∃ (k v l x : ByteArray) (a' : Nat) (f' : Bool), e = .returned (if f' = true then nodeV ⟨#[]⟩ ⟨#[]⟩ ⟨#[]⟩ ⟨#[]⟩ else nodeV k v l x) ∧ Hid (NR n s a f k v l x a' f') ∧ a' ≤ s.size ∧ Rd r s a' f' w' ∧ Mv r w w' := by
  have hmt : ∀ w : World, (method 250 65 (.agg #[.int .i64 (n : Int)]) "loop.example/s03048/impl.take").run Tryd.prog w = .ok (81, .agg #[.int .i64 (n : Int)]) w := fun _ => by kernel_rfl
  have HC : Hid (∀ w', Rd r s a f w' → Calls Tryd.prog 81 #[.agg #[.int .i64 (n : Int)], .pointer (some ⟨r, 0, none⟩)] w' fun e w'' => ∃ (k v l x : ByteArray) (a' : Nat) (f' : Bool), e = .returned (nodeV k v l x) ∧ Hid (NR n s a f k v l x a' f') ∧ a' ≤ s.size ∧ k.size ≤ s.size ∧ v.size ≤ s.size ∧ l.size ≤ s.size ∧ x.size ≤ s.size ∧ Rd r s a' f' w'' ∧ Mv r w' w'') := fun w' h' => node_take n r s a f w' h' ha hs hn
  have hlt := h.lt
  obtain ⟨fb, hfb⟩ : ∃ fb, w.heap.size = fb := ⟨_, rfl⟩
  go_enter Tryd.func58, Tryd.ntmps58
  go_wp2_with fail
  refine (HC.out _ (h.alloc _)).mono ?_
  rintro e w1 ⟨k, v, l, x, a', f', rfl, HNR, ha', hk, hv, hl, hx, hr1, hm1⟩
  have hn1 : NB fb ⟨#[]⟩ ⟨#[]⟩ ⟨#[]⟩ ⟨#[]⟩ w1 := by rw [← hfb]; exact hm1.cells (heap_alloc_new _ _) (by omega)
  have hmw : Mv r w w1 := ((Mv.refl r w).alloc _).trans hm1
  have A1 : ∀ o, (w1.alloc o).heap[r]? = some (.cells #[.string s, .int .i64 (a' : Int), .bool f'] 98) := fun o => hr1.alloc o
  have B1 : ∀ o, NB fb ⟨#[]⟩ ⟨#[]⟩ ⟨#[]⟩ ⟨#[]⟩ (w1.alloc o) := fun o => below_cells ((Below.refl _ _).alloc (Nat.le_refl _) _) hn1
  have B2 : ∀ o o', NB fb ⟨#[]⟩ ⟨#[]⟩ ⟨#[]⟩ ⟨#[]⟩ ((w1.alloc o).alloc o') := fun o o' => below_cells ((Below.refl _ _).alloc (Nat.le_refl _) _) (B1 o)
  have e1 : ∀ o, (w1.alloc o).cell? ⟨r, 2, none⟩ = some (.bool f') := fun o => Lib.cell_of_heap (A1 o) 2
  have b0 : ∀ o, (w1.alloc o).cell? ⟨fb, 0, none⟩ = some (.string ⟨#[]⟩) := fun o => Lib.cell_of_heap (B1 o) 0
  have d0 : ∀ o, (w1.alloc o).frozen? ⟨fb, 0, none⟩ = false := fun o => frozen_of_heap (B1 o)
  have p0 : ∀ o o', ((w1.alloc o).alloc o').cell? ⟨fb, 0, none⟩ = some (.string ⟨#[]⟩) := fun o o' => Lib.cell_of_heap (B2 o o') 0
  have q0 : ∀ o o', ((w1.alloc o).alloc o').frozen? ⟨fb, 0, none⟩ = false := fun o o' => frozen_of_heap (B2 o o')
  have b1 : ∀ o, (w1.alloc o).cell? ⟨fb, 1, none⟩ = some (.string ⟨#[]⟩) := fun o => Lib.cell_of_heap (B1 o) 1
  have d1 : ∀ o, (w1.alloc o).frozen? ⟨fb, 1, none⟩ = false := fun o => frozen_of_heap (B1 o)
  have p1 : ∀ o o', ((w1.alloc o).alloc o').cell? ⟨fb, 1, none⟩ = some (.string ⟨#[]⟩) := fun o o' => Lib.cell_of_heap (B2 o o') 1
  have q1 : ∀ o o', ((w1.alloc o).alloc o').frozen? ⟨fb, 1, none⟩ = false := fun o o' => frozen_of_heap (B2 o o')
  have b2 : ∀ o, (w1.alloc o).cell? ⟨fb, 2, none⟩ = some (.string ⟨#[]⟩) := fun o => Lib.cell_of_heap (B1 o) 2
  have d2 : ∀ o, (w1.alloc o).frozen? ⟨fb, 2, none⟩ = false := fun o => frozen_of_heap (B1 o)
  have p2 : ∀ o o', ((w1.alloc o).alloc o').cell? ⟨fb, 2, none⟩ = some (.string ⟨#[]⟩) := fun o o' => Lib.cell_of_heap (B2 o o') 2
  have q2 : ∀ o o', ((w1.alloc o).alloc o').frozen? ⟨fb, 2, none⟩ = false := fun o o' => frozen_of_heap (B2 o o')
  have b3 : ∀ o, (w1.alloc o).cell? ⟨fb, 3, none⟩ = some (.string ⟨#[]⟩) := fun o => Lib.cell_of_heap (B1 o) 3
  have d3 : ∀ o, (w1.alloc o).frozen? ⟨fb, 3, none⟩ = false := fun o => frozen_of_heap (B1 o)
  have p3 : ∀ o o', ((w1.alloc o).alloc o').cell? ⟨fb, 3, none⟩ = some (.string ⟨#[]⟩) := fun o o' => Lib.cell_of_heap (B2 o o') 3
  have q3 : ∀ o o', ((w1.alloc o).alloc o').frozen? ⟨fb, 3, none⟩ = false := fun o o' => frozen_of_heap (B2 o o')
  have HA : Hid (∀ o, (w1.alloc o).heap[r]? = some (.cells #[.string s, .int .i64 (a' : Int), .bool f'] 98)) := A1
  have HB1 : Hid (∀ o, NB fb ⟨#[]⟩ ⟨#[]⟩ ⟨#[]⟩ ⟨#[]⟩ (w1.alloc o)) := B1
  have HB2 : Hid (∀ o o', NB fb ⟨#[]⟩ ⟨#[]⟩ ⟨#[]⟩ ⟨#[]⟩ ((w1.alloc o).alloc o')) := B2
  clear A1 B1 B2 hn1 hm1 HC hr1
  cases f'
  · go_wp2_with fail
    have hF := fun o => fin4 (k := k) (v := v) (l := l) (x := x) (HB1.out o) (HA.out o) (hmw.alloc o) hfb (by omega)
    exact ret36 (hF _).1 rfl rfl ⟨k, v, l, x, a', false, rfl, HNR, ha', (hF _).2.1, (hF _).2.2⟩
  · go_wp2_with fail
    have hF := fun o o' => fin4 (k := ⟨#[]⟩) (v := ⟨#[]⟩) (l := ⟨#[]⟩) (x := ⟨#[]⟩) (HB2.out o o') (Rd.alloc (HA.out o) o') ((hmw.alloc o).alloc o') hfb (by omega)
    exact ret36 (hF _ _).1 rfl rfl ⟨k, v, l, x, a', true, rfl, HNR, ha', (hF _ _).2.1, (hF _ _).2.2⟩

end Go.Proofs.YthopecgcpfhceacDoor
