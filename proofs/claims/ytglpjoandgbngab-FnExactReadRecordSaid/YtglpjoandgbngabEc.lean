import Derived.Test.YtglpjoandgbngabEb
import Derived.Deep.QuietTactic
import Derived.BigQuiet
import Derived.OwnWalk
namespace Go.Proofs.Ytglpjoandgbngab
open Go.RowKit Go.Proofs.Sha

theorem bget (p : ByteArray) (k : Nat) (h : k < p.size) : p[k] = p.data.toList.getD k 0 := by
  rw [List.getD_eq_getElem?_getD, List.getElem?_eq_getElem (by exact h)]; rfl
theorem get_nat (s : ByteArray) (k : Nat) (i : Int) (hi : i = (k : Int)) (h : i.toNat < s.size) : ((s[i.toNat]'h).toNat : Int) = ((s.data.toList.getD k 0).toNat : Int) := by
  subst hi; rw [bget s _ h, Int.toNat_natCast]

/-- The size that stands at a place of a text, in two bytes. -/
def szAt (s : ByteArray) (a : Nat) : Nat := (s.data.toList.getD a 0).toNat * 256 + (s.data.toList.getD (a + 1) 0).toNat
theorem szAt_le (s : ByteArray) (a : Nat) : szAt s a ≤ 65535 := by
  unfold szAt
  have h1 := (s.data.toList.getD a 0).toNat_lt
  have h2 := (s.data.toList.getD (a + 1) 0).toNat_lt
  omega
theorem szAt_w (s : ByteArray) (a : Nat) (h1 : a < s.size) (h2 : a + 1 < s.size) : wrap64 (wrap64 (wrap64 (s[a].toNat : Int) * 256) + wrap64 (s[a + 1].toNat : Int)) = (szAt s a : Int) := by
  rw [bget s _ h1, bget s _ h2]
  unfold szAt
  have h3 := (s.data.toList.getD a 0).toNat_lt
  have h4 := (s.data.toList.getD (a + 1) 0).toNat_lt
  unfold wrap64
  omega
def pieceOk (s : ByteArray) (a : Nat) : Prop := a + 2 ≤ s.size ∧ a + 2 + szAt s a ≤ s.size

set_option maxRecDepth 100000 in
set_option maxHeartbeats 400000 in
theorem piece_short (s : ByteArray) (a : Nat) (w : World) (_hs : s.size ≤ 1048576) (ha : a ≤ 2097152) (h1 : s.size < a + 2) :
    Calls Try.prog 21 #[.string s, .int .i64 (a : Int)] w fun e w' => e = .returned (.tuple #[.string ⟨#[]⟩, .int .i64 0, .bool false]) ∧ Below w.heap.size w w' := by
  have z0 : ¬ ((a : Int) < 0) := by omega
  have z1 : IntKind.i64.wrap ((a : Int) + 2) = (a : Int) + 2 := wrap_i64_in _ (by omega) (by omega)
  have z2 : decide ((s.size : Int) < (a : Int) + 2) = true := by simp; omega
  go_enter Try.func21, Try.ntmps21
  go_wp2_with fail
  go_ret3
  exact ⟨rfl, Below.refl _ _⟩

set_option maxRecDepth 100000 in
set_option maxHeartbeats 400000 in
theorem piece_over (s : ByteArray) (a : Nat) (w : World) (hs : s.size ≤ 1048576) (h1 : a + 2 ≤ s.size) (h2 : s.size < a + 2 + szAt s a) :
    Calls Try.prog 21 #[.string s, .int .i64 (a : Int)] w fun e w' => e = .returned (.tuple #[.string ⟨#[]⟩, .int .i64 0, .bool false]) ∧ Below w.heap.size w w' := by
  have z0 : ¬ ((a : Int) < 0) := by omega
  have z1 : IntKind.i64.wrap ((a : Int) + 2) = (a : Int) + 2 := wrap_i64_in _ (by omega) (by omega)
  have z2 : decide ((s.size : Int) < (a : Int) + 2) = false := by simp; omega
  have z3 : (0 : Int) ≤ (a : Int) := by omega
  have z4 : (a : Int) < (s.size : Int) := by omega
  have z5 : IntKind.i64.wrap ((a : Int) + 1) = (a : Int) + 1 := wrap_i64_in _ (by omega) (by omega)
  have z6 : (0 : Int) ≤ (a : Int) + 1 := by omega
  have z7 : (a : Int) + 1 < (s.size : Int) := by omega
  go_enter Try.func21, Try.ntmps21
  go_wp2_with fail
  go_region
  rw [szAt_w s a (by omega) (by omega)]
  obtain ⟨m, hm⟩ : ∃ m, szAt s a = m := ⟨_, rfl⟩
  have hm' := szAt_le s a
  rw [hm] at h2 hm' ⊢
  have y1 : IntKind.i64.wrap ((a : Int) + 2 + (m : Int)) = (a : Int) + 2 + (m : Int) := wrap_i64_in _ (by omega) (by omega)
  have y2 : decide ((s.size : Int) < (a : Int) + 2 + (m : Int)) = true := by simp; omega
  go_wp2_with fail
  go_ret3
  exact ⟨rfl, (Below.refl _ _).drew⟩

set_option maxRecDepth 100000 in
set_option maxHeartbeats 400000 in
theorem piece_ok (s : ByteArray) (a : Nat) (w : World) (hs : s.size ≤ 1048576) (h2 : a + 2 + szAt s a ≤ s.size) :
    Calls Try.prog 21 #[.string s, .int .i64 (a : Int)] w fun e w' => ∃ t, e = .returned (.tuple #[.string t, .int .i64 ((a + 2 + szAt s a : Nat) : Int), .bool true]) ∧ Hid (t = s.extract (a + 2) (a + 2 + szAt s a)) ∧ Below w.heap.size w w' := by
  have z0 : ¬ ((a : Int) < 0) := by omega
  have z1 : IntKind.i64.wrap ((a : Int) + 2) = (a : Int) + 2 := wrap_i64_in _ (by omega) (by omega)
  have z2 : decide ((s.size : Int) < (a : Int) + 2) = false := by simp; omega
  have z3 : (0 : Int) ≤ (a : Int) := by omega
  have z4 : (a : Int) < (s.size : Int) := by omega
  have z5 : IntKind.i64.wrap ((a : Int) + 1) = (a : Int) + 1 := wrap_i64_in _ (by omega) (by omega)
  have z6 : (0 : Int) ≤ (a : Int) + 1 := by omega
  have z7 : (a : Int) + 1 < (s.size : Int) := by omega
  go_enter Try.func21, Try.ntmps21
  go_wp2_with fail
  go_region
  rw [szAt_w s a (by omega) (by omega)]
  obtain ⟨m, hm⟩ : ∃ m, szAt s a = m := ⟨_, rfl⟩
  rw [hm] at h2 ⊢
  have HM : Hid (szAt s a = m) := hm
  clear hm
  have y1 : IntKind.i64.wrap ((a : Int) + 2 + (m : Int)) = (a : Int) + 2 + (m : Int) := wrap_i64_in _ (by omega) (by omega)
  have y2 : decide ((s.size : Int) < (a : Int) + 2 + (m : Int)) = false := by simp; omega
  have y3 : (0 : Int) ≤ (a : Int) + 2 := by omega
  have y4 : (a : Int) + 2 ≤ (a : Int) + 2 + (m : Int) := by omega
  have y5 : (a : Int) + 2 + (m : Int) ≤ (s.size : Int) := by omega
  go_wp2_with fail
  go_ret3
  exact ⟨s.extract (a + 2) (a + 2 + m), by rw [HM.out]; rfl, by show s.extract (a + 2) (a + 2 + m) = _; rw [HM.out], (Below.refl _ _).drew⟩
end Go.Proofs.Ytglpjoandgbngab
