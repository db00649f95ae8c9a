import Derived.Test.YthopecgcpfhceadEh
namespace Go.Proofs.Ythopecgcpfhcead
open Go.RowKit Go.Proofs.Sha

/-- What NodeRecord answers. -/
def nodeRec (enc : ByteArray) : ByteArray := if 1 ≤ enc.size ∧ enc.size ≤ 4000 then T (marked (four enc.size ++ enc.data.toList) [83] [77]) else ⟨#[]⟩
/-- What CommitRecord answers. -/
def commitRec (v : Int) (root : ByteArray) : ByteArray := if 1 ≤ v ∧ v ≤ 1000000 ∧ root.size ≤ 32 then T (marked (four v.toNat ++ [UInt8.ofNat root.size] ++ root.data.toList) [67] []) else ⟨#[]⟩

set_option maxRecDepth 100000 in
set_option maxHeartbeats 400000 in
theorem nodeRec_any (enc : ByteArray) (w : World) (hs : enc.size ≤ 1048576) :
    Calls Try.prog 65 #[.string enc] w fun e w' => ∃ t, e = .returned (.string t) ∧ Hid (t = nodeRec enc) ∧ Below w.heap.size w w' := by
  by_cases h : 1 ≤ enc.size ∧ enc.size ≤ 4000
  · have z1 : decide ((enc.size : Int) < 1) = false := by simp; omega
    have z2 : decide ((4000 : Int) < (enc.size : Int)) = false := by simp; omega
    go_enter Try.func65, Try.ntmps65
    go_wp2_with fail
    refine (four_any enc.size hs _).mono ?_
    rintro e w1 ⟨t, rfl, ht, HT, hb⟩
    have z3 : ¬ (9223372036854775807 < t.size + enc.size) := by omega
    go_wp2_with fail
    refine (marked_any _ ⟨#[83]⟩ ⟨#[77]⟩ _ (by rw [ByteArray.size_append]; omega) (Nat.le_refl _) (Nat.le_refl _)).mono ?_
    rintro e w2 ⟨x, rfl, HX, hb2⟩
    go_wp2
    go_ret
    refine ⟨x, rfl, ?_, hb.trans (hb2.mono hb.size)⟩
    show x = _
    rw [HX.out, HT.out, nodeRec, if_pos h]
    conv => lhs; rw [← T_of enc, T_append]
    rw [T_of]; rfl
  · have HR : Hid (nodeRec enc = ⟨#[]⟩) := by show nodeRec enc = _; rw [nodeRec, if_neg h]
    by_cases h1 : enc.size < 1
    · have z1 : decide ((enc.size : Int) < 1) = true := by simp; omega
      go_enter Try.func65, Try.ntmps65
      go_wp2
      go_ret
      exact ⟨_, rfl, HR.out.symm, Below.refl _ _⟩
    · have z1 : decide ((enc.size : Int) < 1) = false := by simp; omega
      have z2 : decide ((4000 : Int) < (enc.size : Int)) = true := by simp; omega
      go_enter Try.func65, Try.ntmps65
      go_wp2
      go_ret
      exact ⟨_, rfl, HR.out.symm, Below.refl _ _⟩

set_option maxRecDepth 100000 in
set_option maxHeartbeats 400000 in
theorem commitRec_any (v : Int) (root : ByteArray) (w : World) (hs : root.size ≤ 1048576) :
    Calls Try.prog 63 #[.int .i64 v, .string root] w fun e w' => ∃ t, e = .returned (.string t) ∧ Hid (t = commitRec v root) ∧ Below w.heap.size w w' := by
  by_cases h : 1 ≤ v ∧ v ≤ 1000000 ∧ root.size ≤ 32
  · obtain ⟨n, rfl⟩ := Int.eq_ofNat_of_zero_le (show 0 ≤ v by omega)
    have z1 : decide ((n : Int) < 1) = false := by simp; omega
    have z2 : decide ((1000000 : Int) < (n : Int)) = false := by simp; omega
    have z3 : decide ((32 : Int) < (root.size : Int)) = false := by simp; omega
    go_enter Try.func63, Try.ntmps63
    go_wp2_with fail
    refine (four_any n (by omega) _).mono ?_
    rintro e w1 ⟨t, rfl, ht, HT, hb⟩
    go_wp2_with fail
    refine (byte_i _ (by omega) (by omega) _).mono ?_
    rintro e w2 ⟨t2, rfl, ht2, HT2, hb2⟩
    have z4 : ¬ (9223372036854775807 < t.size + t2.size) := by omega
    have z5 : ¬ (9223372036854775807 < t.size + t2.size + root.size) := by omega
    go_wp2_with fail
    refine (marked_any _ ⟨#[67]⟩ ⟨#[]⟩ _ (by rw [ByteArray.size_append, ByteArray.size_append]; omega) (Nat.le_refl _) (Nat.zero_le _)).mono ?_
    rintro e w3 ⟨x, rfl, HX, hb3⟩
    go_wp2
    go_ret
    refine ⟨x, rfl, ?_, (hb.trans (hb2.mono hb.size)).trans (hb3.mono (Nat.le_trans hb.size hb2.size))⟩
    show x = _
    rw [HX.out, HT.out, HT2.out, byteS_T, commitRec, if_pos h]
    conv => lhs; rw [← T_of root, T_append, T_append]
    rw [T_of, Int.toNat_natCast, Int.toNat_natCast]; rfl
  · have HR : Hid (commitRec v root = ⟨#[]⟩) := by show commitRec v root = _; rw [commitRec, if_neg h]
    by_cases h1 : v < 1
    · have z1 : decide (v < 1) = true := by simpa using h1
      go_enter Try.func63, Try.ntmps63
      go_wp2
      go_ret
      exact ⟨_, rfl, HR.out.symm, Below.refl _ _⟩
    by_cases h2 : 1000000 < v
    · have z1 : decide (v < 1) = false := by simpa using h1
      have z2 : decide (1000000 < v) = true := by simpa using h2
      go_enter Try.func63, Try.ntmps63
      go_wp2
      go_ret
      exact ⟨_, rfl, HR.out.symm, Below.refl _ _⟩
    · have z1 : decide (v < 1) = false := by simpa using h1
      have z2 : decide (1000000 < v) = false := by simpa using h2
      have z3 : decide ((32 : Int) < (root.size : Int)) = true := by simp; omega
      go_enter Try.func63, Try.ntmps63
      go_wp2
      go_ret
      exact ⟨_, rfl, HR.out.symm, Below.refl _ _⟩
end Go.Proofs.Ythopecgcpfhcead
