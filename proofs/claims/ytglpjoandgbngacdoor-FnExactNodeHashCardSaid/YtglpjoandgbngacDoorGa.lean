import Derived.Test.YtglpjoandgbngacDoorDa
import Derived.Test.YtglpjoandgbngacDoorNd
namespace Go.Proofs.YtglpjoandgbngacDoor
open Go.RowKit Go.Proofs.Sha

/-- What NodeHash answers. -/
def hashS (k v l r : ByteArray) (n : Int) : ByteArray := if (encS k v l r n).size = 0 then ⟨#[]⟩ else ⟨((sha (78 :: (encS k v l r n).data.toList)).take n.toNat).toArray⟩

theorem encS_size (k v l r : ByteArray) (n : Int) : (encS k v l r n).size ≤ 10000 ∧ (¬ (encS k v l r n).size = 0 → 1 ≤ n ∧ n ≤ 32) := by
  unfold encS
  split
  · rename_i h
    have ho := nodeOk_out h
    rw [T_size]
    unfold encL
    simp only [List.length_append, sized_length, List.length_cons, List.length_nil]
    have e1 : k.data.toList.length = k.size := rfl
    have e2 : v.data.toList.length = v.size := rfl
    have e3 : l.data.toList.length = l.size := rfl
    have e4 : r.data.toList.length = r.size := rfl
    omega
  · exact ⟨Nat.zero_le _, fun h => absurd rfl h⟩

theorem text_any (e : ByteArray) (w : World) (he : e.size ≤ 10000) :
    Calls Tryd.prog 10 #[.string e] w fun x w' => ∃ t : ByteArray, x = .returned (.string t) ∧ t.size ≤ 10001 ∧ Hid (t.data.toList = 78 :: e.data.toList) ∧ w = w' := by
  have z : ¬ (9223372036854775807 < (⟨#[78]⟩ : ByteArray).size + e.size) := by show ¬ _ < 1 + e.size; omega
  have z' : ¬ (9223372036854775807 < 1 + e.size) := by omega
  go_enter Tryd.func10, Tryd.ntmps10
  go_wp2
  go_ret
  refine ⟨_, rfl, ?_, ?_, rfl⟩
  · rw [ByteArray.size_append]; show 1 + e.size ≤ _; omega
  · show (_ : List UInt8) = _
    rw [ByteArray.data_append]
    simp

set_option maxRecDepth 100000 in
set_option maxHeartbeats 1000000 in
theorem shash_any (k v l r : ByteArray) (n : Int) (w : World) (hk : k.size ≤ 1048576) (hv : v.size ≤ 1048576) (hl : l.size ≤ 1048576) (hr : r.size ≤ 1048576) :
    Calls Tryd.prog 5 #[.agg #[.string k, .string v, .string l, .string r], .int .i64 n] w fun e w' => ∃ t, e = .returned (.string t) ∧ Hid (t = hashS k v l r n) ∧ Below w.heap.size w w' := by
  have hsz := encS_size k v l r n
  obtain ⟨q, hq⟩ : ∃ q, encS k v l r n = q := ⟨_, rfl⟩
  have HA : Hid (∀ w', Calls Tryd.prog 8 #[.agg #[.string k, .string v, .string l, .string r], .int .i64 n] w' fun e w'' => e = .returned (.string q) ∧ Below w'.heap.size w' w'') := fun w' => (enc_any k v l r n w' hk hv hl hr).mono (by rintro e w'' ⟨t, rfl, HX, hb⟩; exact ⟨by rw [HX.out, hq], hb⟩)
  have HR : Hid (hashS k v l r n = if q.size = 0 then ⟨#[]⟩ else ⟨((sha (78 :: q.data.toList)).take n.toNat).toArray⟩) := by show _ = _; unfold hashS; rw [hq]
  rw [hq] at hsz
  clear hq hk hv hl hr
  by_cases h0 : q.size = 0
  · have z : ((q.size : Int) == 0) = true := by rw [h0]; rfl
    go_enter Tryd.func5, Tryd.ntmps5
    go_wp2_with (first | (go_at_call 8; refine (HA.out _).mono ?_; rintro e w1 ⟨rfl, hb1⟩))
    go_ret
    refine ⟨_, rfl, ?_, ((Below.refl _ w).alloc (Nat.le_refl _) _).trans (hb1.mono (by simp))⟩
    show _ = _
    rw [HR.out, if_pos h0]
  · have z : ((q.size : Int) == 0) = false := by rw [beq_eq_false_iff_ne]; omega
    obtain ⟨m, rfl⟩ := Int.eq_ofNat_of_zero_le (show 0 ≤ n by have := hsz.2 h0; omega)
    have hm := hsz.2 h0
    have HD : Hid (∀ (t : ByteArray) w', t.size ≤ 10001 → Calls Tryd.prog 9 #[.string t, .int .i64 (m : Int)] w' fun e w'' => e = .returned (.string ⟨((sha t.data.toList).take m).toArray⟩) ∧ Below w'.heap.size w' w'') := fun t w' ht => sdig_yes t m w' (by omega) (by omega) (by omega)
    go_enter Tryd.func5, Tryd.ntmps5
    go_wp2_with (first | (go_at_call 8; refine (HA.out _).mono ?_; rintro e w1 ⟨rfl, hb1⟩) | (go_at_call 10; refine (text_any q _ hsz.1).mono ?_; rintro e w2 ⟨t, rfl, ht, HT, rfl⟩) | (go_at_call 9; refine (HD.out t _ ht).mono ?_; rintro e w3 ⟨rfl, hb3⟩))
    go_ret
    have hw1 : Below w.heap.size w w1 := ((Below.refl _ w).alloc (Nat.le_refl _) _).trans (hb1.mono (by simp))
    refine ⟨_, rfl, ?_, hw1.trans (hb3.mono hw1.size)⟩
    show _ = _
    rw [HR.out, if_neg h0, HT.out, Int.toNat_natCast]
end Go.Proofs.YtglpjoandgbngacDoor
