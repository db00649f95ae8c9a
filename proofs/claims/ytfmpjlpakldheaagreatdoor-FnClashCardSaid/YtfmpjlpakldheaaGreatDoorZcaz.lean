import Derived.Test.YtfmpjlpakldheaaGreatDoorZcau
namespace Go.Proofs.YtfmpjlpakldheaaGreatDoor
open Go.RowKit Go.Proofs.Sha

set_option maxRecDepth 100000 in
set_option maxHeartbeats 1000000 in
theorem shash_any (k v l r : ByteArray) (n : Int) (w : World) (hk : k.size ≤ 1048576) (hv : v.size ≤ 1048576) (hl : l.size ≤ 1048576) (hr : r.size ≤ 1048576) :
    Calls Tryz.prog 97 #[.agg #[.string k, .string v, .string l, .string r], .int .i64 n] w fun e w' => ∃ t, e = .returned (.string t) ∧ Hid (t = hashS k v l r n) ∧ Below w.heap.size w w' := by
  have hsz := encS_size k v l r n
  obtain ⟨q, hq⟩ : ∃ q, encS k v l r n = q := ⟨_, rfl⟩
  have HA : Hid (∀ w', Calls Tryz.prog 98 #[.agg #[.string k, .string v, .string l, .string r], .int .i64 n] w' fun e w'' => e = .returned (.string q) ∧ Below w'.heap.size w' w'') := fun w' => (enc_any k v l r n w' hk hv hl hr).mono (by rintro e w'' ⟨t, rfl, HX, hb⟩; exact ⟨by rw [HX.out, hq], hb⟩)
  have HR : Hid (hashS k v l r n = if q.size = 0 then ⟨#[]⟩ else ⟨((sha (78 :: q.data.toList)).take n.toNat).toArray⟩) := by show _ = _; unfold hashS; rw [hq]
  rw [hq] at hsz
  clear hq hk hv hl hr
  by_cases h0 : q.size = 0
  · have z : ((q.size : Int) == 0) = true := by rw [h0]; rfl
    go_enter Tryz.func97, Tryz.ntmps97
    go_wp2_with (first | (go_at_call 98; refine (HA.out _).mono ?_; rintro e w1 ⟨rfl, hb1⟩))
    go_ret
    refine ⟨_, rfl, ?_, ((Below.refl _ w).alloc (Nat.le_refl _) _).trans (hb1.mono (by simp))⟩
    show _ = _
    rw [HR.out, if_pos h0]
  · have z : ((q.size : Int) == 0) = false := by rw [beq_eq_false_iff_ne]; omega
    obtain ⟨m, rfl⟩ := Int.eq_ofNat_of_zero_le (show 0 ≤ n by have := hsz.2 h0; omega)
    have hm := hsz.2 h0
    have HD : Hid (∀ (t : ByteArray) w', t.size ≤ 10001 → Calls Tryz.prog 14 #[.string t, .int .i64 (m : Int)] w' fun e w'' => e = .returned (.string ⟨((sha t.data.toList).take m).toArray⟩) ∧ Below w'.heap.size w' w'') := fun t w' ht => sdig_yes t m w' (by omega) (by omega) (by omega)
    go_enter Tryz.func97, Tryz.ntmps97
    go_wp2_with (first | (go_at_call 98; refine (HA.out _).mono ?_; rintro e w1 ⟨rfl, hb1⟩) | (go_at_call 50; refine (text_any q _ hsz.1).mono ?_; rintro e w2 ⟨t, rfl, ht, HT, rfl⟩) | (go_at_call 14; refine (HD.out t _ ht).mono ?_; rintro e w3 ⟨rfl, hb3⟩))
    go_ret
    have hw1 : Below w.heap.size w w1 := ((Below.refl _ w).alloc (Nat.le_refl _) _).trans (hb1.mono (by simp))
    refine ⟨_, rfl, ?_, hw1.trans (hb3.mono hw1.size)⟩
    show _ = _
    rw [HR.out, if_neg h0, HT.out, Int.toNat_natCast]
end Go.Proofs.YtfmpjlpakldheaaGreatDoor
