import Derived.Test.YtfmpjlpakldheaaGreatDoorZrac
import Derived.Laws.StructEq
set_option maxRecDepth 100000
set_option maxHeartbeats 1000000
namespace Go.Proofs.YtfmpjlpakldheaaGreatDoor
open Go.RowKit Go.Proofs.Sha Tryz
def encS (k v l r : ByteArray) (n : Int) : ByteArray := if nodeOk k.size v.size l.size r.size n = true then T (encL k.data.toList v.data.toList l.data.toList r.data.toList) else ⟨#[]⟩
theorem enc_any (k v l r : ByteArray) (n : Int) (w : World) (hk : k.size <= 1048576) (hv : v.size <= 1048576) (hl : l.size <= 1048576) (hr : r.size <= 1048576) :
 Calls prog 98 #[nodeV k v l r, .int .i64 n] w fun e w' => ∃ t, e = .returned (.string t) /\ Hid (t = encS k v l r n) /\ Below w.heap.size w w' := by
 by_cases h : nodeOk k.size v.size l.size r.size n = true
 · exact (enc_yes k v l r n w hk hv hl hr h).mono fun e w' ⟨he, hb⟩ => ⟨_, he, by show _ = encS k v l r n; rw [encS, if_pos h], hb⟩
 · exact (enc_no k v l r n w hk hv hl hr (by simpa using h)).mono fun e w' ⟨he, hb⟩ => ⟨_, he, by show _ = encS k v l r n; rw [encS, if_neg h], hb⟩
theorem encS_is {s k v l r : ByteArray} {n : Int} (hs : 0 < s.size) : encS k v l r n = s ↔ IsEnc s n k v l r := by
 unfold encS IsEnc
 constructor
 · intro h
   split at h
   · exact ⟨by assumption, h.symm⟩
   · subst h; cases hs
 · intro h; rw [if_pos h.1, <- h.2]
theorem str_ne {t s : ByteArray} (h : ¬ t = s) : (t.toList == s.toList) = false := by
 rw [ByteArray.toList_eq, ByteArray.toList_eq, beq_eq_false_iff_ne]
 intro e
 exact h ((T_of t).symm.trans ((congrArg T e).trans (T_of s)))
theorem extract_size_le (s : ByteArray) (a b : Nat) : (s.extract a b).size <= s.size := by
 rw [<- T_of s, T_extract, T_size, T_size, List.length_take, List.length_drop]; omega
theorem dec2 (s : ByteArray) (n : Int) (w : World) (hs : s.size <= 1048576) (h1 : 0 + 2 + szAt s 0 <= s.size)
 (h2 : s.size <= 0 + 2 + szAt s 0 + 2 + szAt s (0 + 2 + szAt s 0)) :
 Calls prog 148 #[.string s, .int .i64 n] w fun e w' => decPost s n e /\ Below w.heap.size w w' := by
 have HN : Hid (∀ k v l r, ¬ IsEnc s n k v l r) := fun k v l r h => by
  have := (h.parts.2.2 _ rfl).1
  omega
 go_enter func148, ntmps148
 go_wp2_with fail
 refine (piece_ok s 0 _ hs h1).mono ?_
 rintro e w1 ⟨k0, rfl, Hk, hb1⟩
 have hN := (NodeAt.mk4 w ⟨#[]⟩ ⟨#[]⟩ ⟨#[]⟩ ⟨#[]⟩).below hb1 (by simp)
 have hbw : Below w.heap.size w w1 := ((Below.refl _ _).alloc (Nat.le_refl _) _).trans (hb1.mono (by simp))
 clear hb1
 obtain ⟨a, ha⟩ : ∃ a, 0 + 2 + szAt s 0 = a := ⟨_, rfl⟩
 rw [ha] at h1 h2 Hk ⊢
 go_wp2_with fail
 have HP : Hid (∀ w', Calls prog 168 #[.string s, .int .i64 (a : Int)] w' fun e w'' => (∃ t b g, e = .returned (.tuple #[.string t, .int .i64 b, .bool g]) /\ (g = false \/ (s.size : Int) <= b)) /\ Below w'.heap.size w' w'') := fun w' => by
  by_cases q1 : s.size < a + 2
  · exact (piece_short s a w' hs (by omega) q1).mono fun e w'' ⟨he, hb⟩ => ⟨⟨_, _, _, he, .inl rfl⟩, hb⟩
  by_cases q2 : s.size < a + 2 + szAt s a
  · exact (piece_over s a w' hs (by omega) q2).mono fun e w'' ⟨he, hb⟩ => ⟨⟨_, _, _, he, .inl rfl⟩, hb⟩
  exact (piece_ok s a w' hs (by omega)).mono fun e w'' ⟨t, he, _, hb⟩ => ⟨⟨t, _, _, he, .inr (by omega)⟩, hb⟩
 refine (HP.out _).mono ?_
 rintro e w2 ⟨⟨v0, b, g, rfl, hg⟩, hb2⟩
 have hN2 := hN.below hb2 hN.lt
 have hbw2 : Below w.heap.size w w2 := hbw.trans (hb2.mono (Nat.le_of_lt hN.lt))
 obtain ⟨c0, c1, c2, c3, f0, f1, f2, f3⟩ := id hN2
 rcases hg with rfl | hg
 · go_wp2_with fail
   refine (hN2.set4 ⟨#[]⟩ ⟨#[]⟩ ⟨#[]⟩ ⟨#[]⟩).ret false rfl rfl rfl ⟨.inr ⟨HN.out, rfl⟩, (((hbw2.setCell ?_ _).setCell ?_ _).setCell ?_ _).setCell ?_ _⟩ <;> exact Nat.le_refl _
 · cases g
   · go_wp2_with fail
     refine (hN2.set4 ⟨#[]⟩ ⟨#[]⟩ ⟨#[]⟩ ⟨#[]⟩).ret false rfl rfl rfl ⟨.inr ⟨HN.out, rfl⟩, (((hbw2.setCell ?_ _).setCell ?_ _).setCell ?_ _).setCell ?_ _⟩ <;> exact Nat.le_refl _
   · have z0 : decide ((s.size : Int) <= b) = true := by simpa using hg
     go_wp2_with fail
     refine (hN2.set4 ⟨#[]⟩ ⟨#[]⟩ ⟨#[]⟩ ⟨#[]⟩).ret false rfl rfl rfl ⟨.inr ⟨HN.out, rfl⟩, (((hbw2.setCell ?_ _).setCell ?_ _).setCell ?_ _).setCell ?_ _⟩ <;> exact Nat.le_refl _
theorem dec3 (s : ByteArray) (n : Int) (w : World) (hs : s.size <= 1048576) (h1 : 0 + 2 + szAt s 0 <= s.size)
 (h2 : 0 + 2 + szAt s 0 + 2 + szAt s (0 + 2 + szAt s 0) < s.size) :
 Calls prog 148 #[.string s, .int .i64 n] w fun e w' => decPost s n e /\ Below w.heap.size w w' := by
 have HP : Hid (∀ k v l r, IsEnc s n k v l r -> k = s.extract (0 + 2) (0 + 2 + szAt s 0) /\ ∀ a, a = 0 + 2 + szAt s 0 -> v = s.extract (a + 2) (a + 2 + szAt s a) /\ ∀ b, b = a + 2 + szAt s a -> ∀ q, q = s.extract (b + 1) s.size →
  ((s.data.toList.getD b 0).toNat % 2 = 1 -> n <= q.size /\ l = q.extract 0 n.toNat /\ r = q.extract n.toNat q.size) /\ (¬ (s.data.toList.getD b 0).toNat % 2 = 1 -> l = ⟨#[]⟩ /\ r = q)) := fun k v l r h => by
  obtain ⟨_, p1, p2⟩ := h.parts
  refine ⟨p1, fun a ha => ?_⟩
  obtain ⟨_, p3, p4⟩ := p2 a ha
  refine ⟨p3, fun b hb q hq => ?_⟩
  obtain ⟨p5, p6⟩ := p4 b hb
  exact h.sides p5 (hq.trans p6)
 go_enter func148, ntmps148
 go_wp2_with fail
 refine (piece_ok s 0 _ hs h1).mono ?_
 rintro e w1 ⟨k0, rfl, Hk, hb1⟩
 have hN := (NodeAt.mk4 w ⟨#[]⟩ ⟨#[]⟩ ⟨#[]⟩ ⟨#[]⟩).below hb1 (by simp)
 have hbw : Below w.heap.size w w1 := ((Below.refl _ _).alloc (Nat.le_refl _) _).trans (hb1.mono (by simp))
 clear hb1
 obtain ⟨a, ha⟩ : ∃ a, 0 + 2 + szAt s 0 = a := ⟨_, rfl⟩
 rw [ha] at h1 h2 Hk HP ⊢
 clear ha
 go_wp2_with fail
 refine (piece_ok s a _ hs (by omega)).mono ?_
 rintro e w2 ⟨v0, rfl, Hv, hb2⟩
 have hN2 := hN.below hb2 hN.lt
 have hbw2 : Below w.heap.size w w2 := hbw.trans (hb2.mono (Nat.le_of_lt hN.lt))
 clear hb2 hN hbw
 obtain ⟨b, hb⟩ : ∃ b, a + 2 + szAt s a = b := ⟨_, rfl⟩
 have HB : Hid (b = a + 2 + szAt s a) := hb.symm
 rw [hb] at h2 Hv ⊢
 clear hb
 obtain ⟨c0, c1, c2, c3, f0, f1, f2, f3⟩ := id hN2
 have z0 : decide ((s.size : Int) <= (b : Int)) = false := by simp; omega
 by_cases hn : 1 <= n /\ n <= 32
 · have z1 : decide (1 <= n) = true := by simpa using hn.1
   have z2 : decide (n <= 32) = true := by simpa using hn.2
   have z3 : IntKind.i64.wrap ((b : Int) + 1) = (b : Int) + 1 := wrap_i64_in _ (by omega) (by omega)
   have z4 : (0 : Int) <= (b : Int) + 1 := by omega
   have z5 : (b : Int) + 1 <= (s.size : Int) := by omega
   have z6 : (0 : Int) <= (b : Int) := by omega
   have z7 : (b : Int) < (s.size : Int) := by omega
   have hN3 : NodeAt (w2.alloc (.cells #[.string k0, .string v0, .string ⟨#[]⟩, .string ⟨#[]⟩] 128)) w.heap.size ⟨#[]⟩ ⟨#[]⟩ ⟨#[]⟩ ⟨#[]⟩ := hN2.below ((Below.refl _ _).alloc (Nat.le_refl _) _) hN2.lt
   have hb3 : Below w.heap.size w (w2.alloc (.cells #[.string k0, .string v0, .string ⟨#[]⟩, .string ⟨#[]⟩] 128)) := hbw2.alloc (Nat.le_of_lt hN2.lt) _
   by_cases hp : (s[b]'h2).toNat % 2 = 1
   · have p0 : (((s[b]'h2).toNat : Int) % 2 == 1) = true := by rw [beq_iff_eq]; omega
     by_cases hq : ((s.size - (b + 1) : Nat) : Int) < n
     · have p1 : decide (((s.size - (b + 1) : Nat) : Int) < n) = true := by simpa using hq
       obtain ⟨d0, d1, d2, d3, g0, g1, g2, g3⟩ := id hN3
       have HNo : Hid (∀ k v l r, ¬ IsEnc s n k v l r) := fun k v l r h => by
        have h5 := (((HP.out k v l r h).2 a rfl).2 b HB.out _ rfl).1 (by rw [<- bget s b h2]; exact hp)
        have h6 := h5.1
        rw [ByteArray.size_extract] at h6
        omega
       go_wp2_with (first | (go_at_call 47; go_in) | fail)
       refine (hN3.set4 ⟨#[]⟩ ⟨#[]⟩ ⟨#[]⟩ ⟨#[]⟩).ret false rfl rfl rfl ⟨.inr ⟨HNo.out, rfl⟩, (((hb3.setCell ?_ _).setCell ?_ _).setCell ?_ _).setCell ?_ _⟩ <;> exact Nat.le_refl _
     · have p1 : decide (((s.size - (b + 1) : Nat) : Int) < n) = false := by simpa using hq
       have p2 : (0 : Int) <= n := by omega
       have p3 : n <= ((s.size - (b + 1) : Nat) : Int) := by omega
       go_wp2_with (first | (go_at_call 47; go_in) | fail)
       have HU : Hid (∀ k v l r, IsEnc s n k v l r -> k = k0 /\ v = v0 /\ l = (s.extract (b + 1) s.size).extract 0 n.toNat /\ r = (s.extract (b + 1) s.size).extract n.toNat (s.size - (b + 1))) := fun k v l r h => by
        have h5 := (((HP.out k v l r h).2 a rfl).2 b HB.out _ rfl).1 (by rw [<- bget s b h2]; exact hp)
        have e : (s.extract (b + 1) s.size).size = s.size - (b + 1) := by rw [ByteArray.size_extract]; omega
        rw [e] at h5
        refine ⟨(HP.out k v l r h).1.trans Hk.out.symm, ((HP.out k v l r h).2 a rfl).1.trans ?_, h5.2.1, h5.2.2⟩
        rw [<- HB.out]; exact Hv.out.symm
       have hz3 : ((s.extract (b + 1) s.size).extract 0 n.toNat).size <= 1048576 := Nat.le_trans (extract_size_le _ _ _) (Nat.le_trans (extract_size_le _ _ _) hs)
       have hz4 : ((s.extract (b + 1) s.size).extract n.toNat (s.size - (b + 1))).size <= 1048576 := Nat.le_trans (extract_size_le _ _ _) (Nat.le_trans (extract_size_le _ _ _) hs)
       generalize (s.extract (b + 1) s.size).extract 0 n.toNat = l0 at HU hz3 ⊢
       generalize (s.extract (b + 1) s.size).extract n.toNat (s.size - (b + 1)) = r0 at HU hz4 ⊢
       have hz1 : k0.size <= 1048576 := by rw [Hk.out]; exact Nat.le_trans (extract_size_le _ _ _) hs
       have hz2 : v0.size <= 1048576 := by rw [Hv.out]; exact Nat.le_trans (extract_size_le _ _ _) hs
       refine (enc_any k0 v0 l0 r0 n _ hz1 hz2 hz3 hz4).mono ?_
       rintro e w3 ⟨t, rfl, Ht, hb4⟩
       have hA : NodeAt w3 w2.heap.size k0 v0 l0 r0 := (NodeAt.mk4 w2 k0 v0 l0 r0).below hb4 (by simp)
       have hB : NodeAt w3 w.heap.size ⟨#[]⟩ ⟨#[]⟩ ⟨#[]⟩ ⟨#[]⟩ := (hN2.below ((Below.refl _ _).alloc (Nat.le_refl _) _) hN2.lt).below hb4 (by have := hN2.lt; simp; omega)
       have hb5 : Below w.heap.size w w3 := (hbw2.alloc (Nat.le_of_lt hN2.lt) _).trans (hb4.mono (by have := hN2.lt; simp; omega))
       clear hN3 hb3 hN2 hbw2 hb4 c0 c1 c2 c3 f0 f1 f2 f3
       obtain ⟨c0, c1, c2, c3, f0, f1, f2, f3⟩ := id hB
       obtain ⟨d0, d1, d2, d3, g0, g1, g2, g3⟩ := id hA
       by_cases ht : t = s
       · have HI : Hid (IsEnc s n k0 v0 l0 r0) := (encS_is (by omega)).1 (Ht.out.symm.trans ht)
         have y0 : (t.toList == s.toList) = true := by rw [ht]; simp
         clear Ht ht
         go_wp2_with fail
         refine (hB.set4 k0 v0 l0 r0).ret true rfl rfl rfl ⟨.inl ⟨k0, v0, l0, r0, HI.out, rfl⟩, (((hb5.setCell ?_ _).setCell ?_ _).setCell ?_ _).setCell ?_ _⟩ <;> exact Nat.le_refl _
       · have HNo : Hid (∀ k v l r, ¬ IsEnc s n k v l r) := fun k v l r h => by
          obtain ⟨e1, e2, e3, e4⟩ := HU.out k v l r h
          subst e1 e2 e3 e4
          exact ht (Ht.out.trans ((encS_is (by omega)).2 h))
         have y0 : (t.toList == s.toList) = false := str_ne ht
         clear Ht ht
         go_wp2_with fail
         refine (hB.set4 ⟨#[]⟩ ⟨#[]⟩ ⟨#[]⟩ ⟨#[]⟩).ret false rfl rfl rfl ⟨.inr ⟨HNo.out, rfl⟩, (((hb5.setCell ?_ _).setCell ?_ _).setCell ?_ _).setCell ?_ _⟩ <;> exact Nat.le_refl _
   · have p0 : (((s[b]'h2).toNat : Int) % 2 == 1) = false := by rw [beq_eq_false_iff_ne]; omega
     go_wp2_with (first | (go_at_call 47; go_in) | fail)
     have HU : Hid (∀ k v l r, IsEnc s n k v l r -> k = k0 /\ v = v0 /\ l = ⟨#[]⟩ /\ r = s.extract (b + 1) s.size) := fun k v l r h => by
      have h5 := (((HP.out k v l r h).2 a rfl).2 b HB.out _ rfl).2 (by rw [<- bget s b h2]; exact hp)
      refine ⟨(HP.out k v l r h).1.trans Hk.out.symm, ((HP.out k v l r h).2 a rfl).1.trans ?_, h5.1, h5.2⟩
      rw [<- HB.out]; exact Hv.out.symm
     have hz3 : (ByteArray.mk #[]).size <= 1048576 := Nat.zero_le _
     have hz4 : (s.extract (b + 1) s.size).size <= 1048576 := Nat.le_trans (extract_size_le _ _ _) hs
     generalize s.extract (b + 1) s.size = r0 at HU hz4 ⊢
     have hz1 : k0.size <= 1048576 := by rw [Hk.out]; exact Nat.le_trans (extract_size_le _ _ _) hs
     have hz2 : v0.size <= 1048576 := by rw [Hv.out]; exact Nat.le_trans (extract_size_le _ _ _) hs
     refine (enc_any k0 v0 ⟨#[]⟩ r0 n _ hz1 hz2 hz3 hz4).mono ?_
     rintro e w3 ⟨t, rfl, Ht, hb4⟩
     have hA : NodeAt w3 w2.heap.size k0 v0 ⟨#[]⟩ r0 := (NodeAt.mk4 w2 k0 v0 ⟨#[]⟩ r0).below hb4 (by simp)
     have hB : NodeAt w3 w.heap.size ⟨#[]⟩ ⟨#[]⟩ ⟨#[]⟩ ⟨#[]⟩ := (hN2.below ((Below.refl _ _).alloc (Nat.le_refl _) _) hN2.lt).below hb4 (by have := hN2.lt; simp; omega)
     have hb5 : Below w.heap.size w w3 := (hbw2.alloc (Nat.le_of_lt hN2.lt) _).trans (hb4.mono (by have := hN2.lt; simp; omega))
     clear hN3 hb3 hN2 hbw2 hb4 c0 c1 c2 c3 f0 f1 f2 f3
     obtain ⟨c0, c1, c2, c3, f0, f1, f2, f3⟩ := id hB
     obtain ⟨d0, d1, d2, d3, g0, g1, g2, g3⟩ := id hA
     by_cases ht : t = s
     · have HI : Hid (IsEnc s n k0 v0 ⟨#[]⟩ r0) := (encS_is (by omega)).1 (Ht.out.symm.trans ht)
       have y0 : (t.toList == s.toList) = true := by rw [ht]; simp
       clear Ht ht
       go_wp2_with fail
       refine (hB.set4 k0 v0 ⟨#[]⟩ r0).ret true rfl rfl rfl ⟨.inl ⟨k0, v0, ⟨#[]⟩, r0, HI.out, rfl⟩, (((hb5.setCell ?_ _).setCell ?_ _).setCell ?_ _).setCell ?_ _⟩ <;> exact Nat.le_refl _
     · have HNo : Hid (∀ k v l r, ¬ IsEnc s n k v l r) := fun k v l r h => by
        obtain ⟨e1, e2, e3, e4⟩ := HU.out k v l r h
        subst e1 e2 e4; subst e3
        exact ht (Ht.out.trans ((encS_is (by omega)).2 h))
       have y0 : (t.toList == s.toList) = false := str_ne ht
       clear Ht ht
       go_wp2_with fail
       refine (hB.set4 ⟨#[]⟩ ⟨#[]⟩ ⟨#[]⟩ ⟨#[]⟩).ret false rfl rfl rfl ⟨.inr ⟨HNo.out, rfl⟩, (((hb5.setCell ?_ _).setCell ?_ _).setCell ?_ _).setCell ?_ _⟩ <;> exact Nat.le_refl _
 · have HNo : Hid (∀ k v l r, ¬ IsEnc s n k v l r) := fun k v l r h => by
    have := nodeOk_out h.1
    omega
   by_cases hn1 : 1 <= n
   · have z1 : decide (1 <= n) = true := by simpa using hn1
     have z2 : decide (n <= 32) = false := by simp; omega
     go_wp2_with go_in
     refine (hN2.set4 ⟨#[]⟩ ⟨#[]⟩ ⟨#[]⟩ ⟨#[]⟩).ret false rfl rfl rfl ⟨.inr ⟨HNo.out, rfl⟩, (((hbw2.setCell ?_ _).setCell ?_ _).setCell ?_ _).setCell ?_ _⟩ <;> exact Nat.le_refl _
   · have z1 : decide (1 <= n) = false := by simpa using hn1
     go_wp2_with go_in
     refine (hN2.set4 ⟨#[]⟩ ⟨#[]⟩ ⟨#[]⟩ ⟨#[]⟩).ret false rfl rfl rfl ⟨.inr ⟨HNo.out, rfl⟩, (((hbw2.setCell ?_ _).setCell ?_ _).setCell ?_ _).setCell ?_ _⟩ <;> exact Nat.le_refl _
theorem dec_any (s : ByteArray) (n : Int) (w : World) (hs : s.size <= 1048576) :
 Calls prog 148 #[.string s, .int .i64 n] w fun e w' => decPost s n e /\ Below w.heap.size w w' := by
 by_cases h0 : s.size < 0 + 2
 · exact dec1 s n w (fun w' => piece_short s 0 w' hs (by omega) h0) fun k v l r h => by have := h.parts.1; omega
 by_cases h1 : s.size < 0 + 2 + szAt s 0
 · exact dec1 s n w (fun w' => piece_over s 0 w' hs (by omega) h1) fun k v l r h => by have := h.parts.1; omega
 by_cases h2 : 0 + 2 + szAt s 0 + 2 + szAt s (0 + 2 + szAt s 0) < s.size
 · exact dec3 s n w hs (by omega) h2
 · exact dec2 s n w hs (by omega) (by omega)
def four (n : Nat) : List UInt8 := [UInt8.ofNat (n % 256), UInt8.ofNat (n / 256 % 256), UInt8.ofNat (n / 65536 % 256), UInt8.ofNat (n / 16777216 % 256)]
theorem four_any (n : Nat) (hn : n <= 1048576) (w : World) :
 Calls prog 163 #[.int .i64 (n : Int)] w fun e w' => ∃ t : ByteArray, e = .returned (.string t) /\ t.size <= 4 /\ Hid (t = T (four n)) /\ Below w.heap.size w w' := by
 go_enter func163, ntmps163
 go_wp2_with fail
 refine (byte_i _ (by omega) (by omega) _).mono ?_
 rintro e w1 ⟨t1, rfl, hz1, HT1, hb1⟩
 go_wp2_with fail
 refine (byte_i _ (by omega) (by omega) _).mono ?_
 rintro e w2 ⟨t2, rfl, hz2, HT2, hb2⟩
 go_wp2_with fail
 refine (byte_i _ (by omega) (by omega) _).mono ?_
 rintro e w3 ⟨t3, rfl, hz3, HT3, hb3⟩
 go_wp2_with fail
 refine (byte_i _ (by omega) (by omega) _).mono ?_
 rintro e w4 ⟨t4, rfl, hz4, HT4, hb4⟩
 have hf : ¬ (9223372036854775807 < t1.size + t2.size + t3.size + t4.size) := by omega
 go_wp2
 go_ret
 refine ⟨t1 ++ t2 ++ t3 ++ t4, rfl, by simp only [ByteArray.size_append]; omega, ?_, ((hb1.trans (hb2.mono hb1.size)).trans (hb3.mono (Nat.le_trans hb1.size hb2.size))).trans (hb4.mono (Nat.le_trans (Nat.le_trans hb1.size hb2.size) hb3.size))⟩
 show t1 ++ t2 ++ t3 ++ t4 = T (four n)
 rw [HT1.out, HT2.out, HT3.out, HT4.out, byteS_T, byteS_T, byteS_T, byteS_T, T_append, T_append, T_append]
 have e1 : ((n : Int) % 256).toNat = n % 256 := by omega
 have e2 : ((n : Int) / 256 % 256).toNat = n / 256 % 256 := by omega
 have e3 : ((n : Int) / 65536 % 256).toNat = n / 65536 % 256 := by omega
 have e4 : ((n : Int) / 16777216 % 256).toNat = n / 16777216 % 256 := by omega
 rw [e1, e2, e3, e4]; rfl
def reps (n : Nat) (c : UInt8) : ByteArray := T (List.replicate n c)
theorem reps_size (n : Nat) (c : UInt8) : (reps n c).size = n := by unfold reps; rw [T_size, List.length_replicate]
theorem reps_add (n m : Nat) (c : UInt8) : reps n c ++ reps m c = reps (n + m) c := by unfold reps; rw [T_append, List.replicate_append_replicate]
theorem long_any (c : UInt8) (n : Nat) : ∀ (_hn : n <= 1048576) (w : World),
 Calls prog 89 #[.int .i64 (n : Int), .string ⟨#[c]⟩] w fun e w' => ∃ t : ByteArray, e = .returned (.string t) /\ t.size = n /\ Hid (t = reps n c) /\ Below w.heap.size w w' := by
 induction n using Nat.strongRecOn with
 | ind n ih =>
 intro hn w
 have hU : Hid ((⟨#[c]⟩ : ByteArray) = reps 1 c /\ (⟨#[c]⟩ : ByteArray).size = 1) := ⟨rfl, rfl⟩
 by_cases h0 : 0 < n
 · have z0 : decide ((0 : Int) < (n : Int)) = true := by simp; omega
   have hu : (⟨#[c]⟩ : ByteArray).size = 1 := rfl
   obtain ⟨u, hu'⟩ : ∃ u : ByteArray, ⟨#[c]⟩ = u := ⟨_, rfl⟩
   rw [hu'] at hU hu ih ⊢
   clear hu'
   go_enter func89, ntmps89
   go_wp2_with fail
   go_loopw [5] (fun t wr => ∃ (m : Nat) (x : ByteArray), 1 <= m /\ m <= n /\ t = .string x /\ x.size = m /\ Hid (x = reps m c) /\ wr = w) (fun t _ => n - (match t with | .string x => x.size | _ => 0))
   case atStart => exact ⟨1, u, by omega, by omega, rfl, hu, hU.out.1, rfl⟩
   case round =>
    obtain ⟨m, x, hm1, hm2, rfl, hx, HX, rfl⟩ := hrel
    by_cases h1 : 2 * m <= n
    · have z1 : decide ((x.size : Int) * 2 <= (n : Int)) = true := by simp; omega
      go_wp2_with fail
      refine ⟨⟨m + m, x ++ x, by omega, by omega, rfl, by rw [ByteArray.size_append, hx], ?_, trivial⟩, ?_⟩
      · show x ++ x = _
        rw [HX.out, reps_add]
      · show n - (x ++ x).size < n - x.size
        rw [ByteArray.size_append, hx]; omega
    · have z1 : decide ((x.size : Int) * 2 <= (n : Int)) = false := by simp; omega
      by_cases h2 : m < n
      · have z2 : decide ((x.size : Int) < (n : Int)) = true := by simp; omega
        have z3 : IntKind.i64.wrap ((n : Int) - (m : Int)) = ((n - m : Nat) : Int) := by rw [wrap_i64_in _ (by omega) (by omega)]; omega
        go_wp2_with fail
        refine (ih (n - m) (by omega) (by omega) _).mono ?_
        rintro e w1 ⟨t, rfl, ht, HT, hb⟩
        have z4 : ¬ (9223372036854775807 < x.size + t.size) := by omega
        go_wp2
        go_ret
        refine ⟨x ++ t, rfl, by rw [ByteArray.size_append]; omega, ?_, hb⟩
        show x ++ t = _
        rw [HX.out, HT.out, reps_add]
        congr 1
        omega
      · have z2 : decide ((x.size : Int) < (n : Int)) = false := by simp; omega
        go_wp2
        go_ret
        exact ⟨x, rfl, by omega, by show x = _; rw [HX.out]; congr 1; omega, Below.refl _ _⟩
 · have hn0 : n = 0 := by omega
   subst hn0
   clear ih
   go_enter func89, ntmps89
   go_wp2_with fail
   go_loopw [5] (fun t wr => t = .string ⟨#[]⟩ /\ wr = w) (fun _ _ => 0)
   case atStart => exact ⟨rfl, rfl⟩
   case round =>
    obtain ⟨rfl, rfl⟩ := hrel
    go_wp2
    go_ret
    exact ⟨⟨#[]⟩, rfl, rfl, rfl, Below.refl _ _⟩
def part63 (s : List UInt8) (a : Nat) : List UInt8 := (s.drop a).take 63 ++ List.replicate (63 - (s.length - a)) 0
theorem part63_length (s : List UInt8) (a : Nat) : (part63 s a).length = 63 := by
 unfold part63; rw [List.length_append, List.length_take, List.length_drop, List.length_replicate]; omega
def markedTo (s f m : List UInt8) : Nat -> List UInt8
 | 0 => []
 | q + 1 => markedTo s f m q ++ part63 s (63 * q) ++ (if q = 0 then f else m)
theorem markedTo_length (s f m : List UInt8) (hf : f.length <= 1) (hm : m.length <= 1) (q : Nat) : (markedTo s f m q).length <= 64 * q := by
 induction q with
 | zero => exact Nat.le_refl _
 | succ q ih =>
  rw [markedTo, List.length_append, List.length_append, part63_length]
  split <;> omega
def marked (s f m : List UInt8) : List UInt8 := markedTo s f m ((s.length + 62) / 63)
theorem full_part (s : ByteArray) (a : Nat) (h : a + 63 <= s.size) : s.extract a (a + 63) = T (part63 s.data.toList a) := by
 conv => lhs; rw [<- T_of s, T_extract]
 have e : 63 - (s.data.toList.length - a) = 0 := by show 63 - (s.size - a) = 0; omega
 unfold part63
 rw [e, List.replicate_zero, List.append_nil, Nat.add_sub_cancel_left]
theorem last_part (s : ByteArray) (a n : Nat) (h : s.size < a + 63) (ha : a <= s.size) (hn : n = a + 63 - s.size) : s.extract a s.size ++ reps n 0 = T (part63 s.data.toList a) := by
 conv => lhs; rw [<- T_of s, T_extract]
 unfold part63 reps
 rw [T_append]
 have e : 63 - (s.data.toList.length - a) = n := by show 63 - (s.size - a) = n; omega
 rw [e, List.take_of_length_le (by rw [List.length_drop, T_size]; exact Nat.le_refl _), List.take_of_length_le (by rw [List.length_drop]; show s.size - a <= 63; omega)]
theorem next_sector {s f m x p y : ByteArray} {q a : Nat} (ha : 63 * q = a) (hx : x = T (markedTo s.data.toList f.data.toList m.data.toList q)) (hp : p = T (part63 s.data.toList a)) (hy : y = if q = 0 then f else m) :
 x ++ p ++ y = T (markedTo s.data.toList f.data.toList m.data.toList (q + 1)) := by
 rw [hx, hp, markedTo, <- T_append, <- T_append, ha, hy]
 congr 1
 split
 · exact (T_of f).symm
 · exact (T_of m).symm
theorem marked_any (s f m : ByteArray) (w : World) (hs : s.size <= 1000000) (hf : f.size <= 1) (hm : m.size <= 1) :
 Calls prog 162 #[.string s, .string f, .string m] w fun e w' => ∃ t : ByteArray, e = .returned (.string t) /\ Hid (t = T (marked s.data.toList f.data.toList m.data.toList)) /\ Below w.heap.size w w' := by
 have HL := markedTo_length s.data.toList f.data.toList m.data.toList hf hm
 go_enter func162, ntmps162
 go_wp2_with fail
 go_loopw [7, 8] (fun t7 t8 wr => ∃ (q : Nat) (x : ByteArray), q <= (s.size + 62) / 63 /\ t7 = .string x /\ t8 = .int .i64 ((63 * q : Nat) : Int) /\ x.size <= 64 * q /\ Hid (x = T (markedTo s.data.toList f.data.toList m.data.toList q)) /\ Below w.heap.size w wr) (fun _ t8 _ => s.size + 63 - (intOf t8).toNat)
 case atStart => exact ⟨0, ⟨#[]⟩, by omega, rfl, rfl, Nat.le_refl _, rfl, Below.refl _ _⟩
 case round =>
  obtain ⟨q, x, hq, rfl, rfl, hx, HX, hb⟩ := hrel
  obtain ⟨a, ha⟩ : ∃ a, 63 * q = a := ⟨_, rfl⟩
  rw [ha]
  by_cases h1 : a < s.size
  · have z1 : decide ((a : Int) < (s.size : Int)) = true := by simp; omega
    have z2 : IntKind.i64.wrap ((a : Int) + 63) = (a : Int) + 63 := wrap_i64_in _ (by omega) (by omega)
    have z3 : (0 : Int) <= (a : Int) := by omega
    have z4 : (a : Int) <= (s.size : Int) := by omega
    by_cases h2 : a + 63 <= s.size
    · have y1 : decide ((a : Int) + 63 <= (s.size : Int)) = true := by simp; omega
      have y2 : (a : Int) <= (a : Int) + 63 := by omega
      have y3 : (a : Int) + 63 <= (s.size : Int) := by omega
      by_cases h3 : q = 0
      · have x1 : ((a : Int) == 0) = true := by rw [beq_iff_eq]; omega
        go_wp2_with fail
        have HE := next_sector (y := f) ha HX.out (full_part s a h2) (by rw [if_pos h3])
        refine ⟨⟨q + 1, _, by omega, rfl, congrArg (Value.int .i64) (by omega), ?_, HE, hb⟩, ?_⟩
        · rw [HE]; exact HL (q + 1)
        · show s.size + 63 - ((a : Int) + 63).toNat < s.size + 63 - ((a : Int)).toNat
          omega
      · have x1 : ((a : Int) == 0) = false := by rw [beq_eq_false_iff_ne]; omega
        go_wp2_with fail
        have HE := next_sector (y := m) ha HX.out (full_part s a h2) (by rw [if_neg h3])
        refine ⟨⟨q + 1, _, by omega, rfl, congrArg (Value.int .i64) (by omega), ?_, HE, hb⟩, ?_⟩
        · rw [HE]; exact HL (q + 1)
        · show s.size + 63 - ((a : Int) + 63).toNat < s.size + 63 - ((a : Int)).toNat
          omega
    · have y1 : decide ((a : Int) + 63 <= (s.size : Int)) = false := by simp; omega
      have y2 : IntKind.i64.wrap ((a : Int) + 63 - (s.size : Int)) = ((a + 63 - s.size : Nat) : Int) := by rw [wrap_i64_in _ (by omega) (by omega)]; omega
      go_wp2_with fail
      go_region_held3 (fun _ => True) (exact trivial)
       (first | (go_at_call 89; refine (long_any 0 (a + 63 - s.size) (by omega) _).mono ?_; rintro e wA ⟨t, rfl, zt, HT, hbA⟩; have fB : ¬ (9223372036854775807 < s.size - a + t.size) := (by omega); clear zt))
      have hP : s.extract a s.size ++ t = T (part63 s.data.toList a) := by rw [HT.out]; exact last_part s a _ (by omega) (by omega) rfl
      have hz : (s.extract a s.size ++ t).size = 63 := by rw [hP, T_size, part63_length]
      generalize s.extract a s.size ++ t = p at hP hz ⊢
      have HP : Hid (p = T (part63 s.data.toList a)) := hP
      have hz' : p.size <= 63 := by omega
      have hbB : Below w.heap.size w wA := hb.drew.trans (hbA.mono hb.size)
      clear hP hz hbA HT
      have v1 : ¬ (9223372036854775807 < x.size + p.size) := by omega
      have v2 : ¬ (9223372036854775807 < x.size + p.size + f.size) := by omega
      have v3 : ¬ (9223372036854775807 < x.size + p.size + m.size) := by omega
      by_cases h3 : q = 0
      · have x1 : ((a : Int) == 0) = true := by rw [beq_iff_eq]; omega
        go_wp2_with fail
        have HE := next_sector (y := f) ha HX.out HP.out (by rw [if_pos h3])
        refine ⟨⟨q + 1, _, by omega, rfl, congrArg (Value.int .i64) (by omega), ?_, HE, hbB⟩, ?_⟩
        · rw [HE]; exact HL (q + 1)
        · show s.size + 63 - ((a : Int) + 63).toNat < s.size + 63 - ((a : Int)).toNat
          omega
      · have x1 : ((a : Int) == 0) = false := by rw [beq_eq_false_iff_ne]; omega
        go_wp2_with fail
        have HE := next_sector (y := m) ha HX.out HP.out (by rw [if_neg h3])
        refine ⟨⟨q + 1, _, by omega, rfl, congrArg (Value.int .i64) (by omega), ?_, HE, hbB⟩, ?_⟩
        · rw [HE]; exact HL (q + 1)
        · show s.size + 63 - ((a : Int) + 63).toNat < s.size + 63 - ((a : Int)).toNat
          omega
  · have z1 : decide ((a : Int) < (s.size : Int)) = false := by simp; omega
    go_wp2
    go_ret
    refine ⟨x, rfl, ?_, hb⟩
    show x = _
    rw [HX.out, marked]
    congr 2
    show q = (s.size + 62) / 63
    omega
def commitRec (v : Int) (root : ByteArray) : ByteArray := if 1 <= v /\ v <= 1000000 /\ root.size <= 32 then T (marked (four v.toNat ++ [UInt8.ofNat root.size] ++ root.data.toList) [67] []) else ⟨#[]⟩
theorem commitRec_any (v : Int) (root : ByteArray) (w : World) (hs : root.size <= 1048576) :
 Calls prog 131 #[.int .i64 v, .string root] w fun e w' => ∃ t, e = .returned (.string t) /\ Hid (t = commitRec v root) /\ Below w.heap.size w w' := by
 by_cases h : 1 <= v /\ v <= 1000000 /\ root.size <= 32
 · obtain ⟨n, rfl⟩ := Int.eq_ofNat_of_zero_le (show 0 <= v by omega)
   have z1 : decide ((n : Int) < 1) = false := by simp; omega
   have z2 : decide ((1000000 : Int) < (n : Int)) = false := by simp; omega
   have z3 : decide ((32 : Int) < (root.size : Int)) = false := by simp; omega
   go_enter func131, ntmps131
   go_wp2_with fail
   refine (four_any n (by omega) _).mono ?_
   rintro e w1 ⟨t, rfl, ht, HT, hb⟩
   go_wp2_with fail
   refine (byte_i _ (by omega) (by omega) _).mono ?_
   rintro e w2 ⟨t2, rfl, ht2, HT2, hb2⟩
   have z4 : ¬ (9223372036854775807 < t.size + t2.size) := by omega
   have z5 : ¬ (9223372036854775807 < t.size + t2.size + root.size) := by omega
   go_wp2_with fail
   refine (marked_any _ ⟨#[67]⟩ ⟨#[]⟩ _ (by rw [ByteArray.size_append, ByteArray.size_append]; omega) (Nat.le_refl _) (Nat.zero_le _)).mono ?_
   rintro e w3 ⟨x, rfl, HX, hb3⟩
   go_wp2
   go_ret
   refine ⟨x, rfl, ?_, (hb.trans (hb2.mono hb.size)).trans (hb3.mono (Nat.le_trans hb.size hb2.size))⟩
   show x = _
   rw [HX.out, HT.out, HT2.out, byteS_T, commitRec, if_pos h]
   conv => lhs; rw [<- T_of root, T_append, T_append]
   rw [T_of, Int.toNat_natCast, Int.toNat_natCast]; rfl
 · have HR : Hid (commitRec v root = ⟨#[]⟩) := by show commitRec v root = _; rw [commitRec, if_neg h]
   by_cases h1 : v < 1
   · have z1 : decide (v < 1) = true := by simpa using h1
     go_enter func131, ntmps131
     go_wp2
     go_ret
     exact ⟨_, rfl, HR.out.symm, Below.refl _ _⟩
   by_cases h2 : 1000000 < v
   · have z1 : decide (v < 1) = false := by simpa using h1
     have z2 : decide (1000000 < v) = true := by simpa using h2
     go_enter func131, ntmps131
     go_wp2
     go_ret
     exact ⟨_, rfl, HR.out.symm, Below.refl _ _⟩
   · have z1 : decide (v < 1) = false := by simpa using h1
     have z2 : decide (1000000 < v) = false := by simpa using h2
     have z3 : decide ((32 : Int) < (root.size : Int)) = true := by simp; omega
     go_enter func131, ntmps131
     go_wp2
     go_ret
     exact ⟨_, rfl, HR.out.symm, Below.refl _ _⟩
end Go.Proofs.YtfmpjlpakldheaaGreatDoor
