import Derived.Test.YtglpjoandgbngabEi
namespace Go.Proofs.Ytglpjoandgbngab
open Go.RowKit Go.Proofs.Sha

/-- The number that stands at a place of a text, in four bytes. -/
def numAt (s : ByteArray) (a : Nat) : Nat := (s.data.toList.getD a 0).toNat + (s.data.toList.getD (a + 1) 0).toNat * 256 + (s.data.toList.getD (a + 2) 0).toNat * 65536 + (s.data.toList.getD (a + 3) 0).toNat * 16777216
theorem numAt_lt (s : ByteArray) (a : Nat) : numAt s a < 4294967296 := by
  unfold numAt
  have h1 := (s.data.toList.getD a 0).toNat_lt
  have h2 := (s.data.toList.getD (a + 1) 0).toNat_lt
  have h3 := (s.data.toList.getD (a + 2) 0).toNat_lt
  have h4 := (s.data.toList.getD (a + 3) 0).toNat_lt
  omega

theorem wr64 (n : Int) (h0 : 0 ≤ n) (h1 : n ≤ 9223372036854775807) : wrap64 n = n := by unfold wrap64; omega
theorem num_w (x y z u : Nat) (hx : x < 256) (hy : y < 256) (hz : z < 256) (hu : u < 256) :
    wrap64 (wrap64 (wrap64 (wrap64 (x : Int) + wrap64 (wrap64 (y : Int) * 256)) + wrap64 (wrap64 (z : Int) * 65536)) + wrap64 (wrap64 (u : Int) * 16777216)) = ((x + y * 256 + z * 65536 + u * 16777216 : Nat) : Int) := by
  rw [wr64 (x : Int) (by omega) (by omega), wr64 (y : Int) (by omega) (by omega), wr64 (z : Int) (by omega) (by omega), wr64 (u : Int) (by omega) (by omega),
    wr64 ((y : Int) * 256) (by omega) (by omega), wr64 ((z : Int) * 65536) (by omega) (by omega), wr64 ((u : Int) * 16777216) (by omega) (by omega)]
  rw [wr64 ((x : Int) + (y : Int) * 256) (by omega) (by omega)]
  rw [wr64 ((x : Int) + (y : Int) * 256 + (z : Int) * 65536) (by omega) (by omega)]
  rw [wr64 _ (by omega) (by omega)]
  omega

set_option maxRecDepth 100000 in
set_option maxHeartbeats 400000 in
theorem number_any (s : ByteArray) (a : Nat) (w : World) (hs : s.size ≤ 1048576) (ha : a + 4 ≤ s.size) :
    Calls Try.prog 25 #[.string s, .int .i64 (a : Int)] w fun e w' => e = .returned (.int .i64 (numAt s a : Int)) ∧ Below w.heap.size w w' := by
  have z0 : (0 : Int) ≤ (a : Int) := by omega
  have z1 : (a : Int) < (s.size : Int) := by omega
  have z2 : IntKind.i64.wrap ((a : Int) + 1) = (a : Int) + 1 := wrap_i64_in _ (by omega) (by omega)
  have z3 : (0 : Int) ≤ (a : Int) + 1 := by omega
  have z4 : (a : Int) + 1 < (s.size : Int) := by omega
  have z5 : IntKind.i64.wrap ((a : Int) + 2) = (a : Int) + 2 := wrap_i64_in _ (by omega) (by omega)
  have z6 : (0 : Int) ≤ (a : Int) + 2 := by omega
  have z7 : (a : Int) + 2 < (s.size : Int) := by omega
  have z8 : IntKind.i64.wrap ((a : Int) + 3) = (a : Int) + 3 := wrap_i64_in _ (by omega) (by omega)
  have z9 : (0 : Int) ≤ (a : Int) + 3 := by omega
  have z10 : (a : Int) + 3 < (s.size : Int) := by omega
  go_enter Try.func25, Try.ntmps25
  go_wp2_with fail
  go_region
  go_wp2
  go_ret
  refine ⟨?_, (Below.refl _ _).drew⟩
  refine (congrArg (fun z => Ending.returned (Value.int .i64 z)) (show wrap64 (wrap64 (wrap64 (wrap64 (s[a].toNat : Int) + wrap64 (wrap64 (s[a + 1].toNat : Int) * 256)) + wrap64 (wrap64 (s[a + 2].toNat : Int) * 65536)) + wrap64 (wrap64 (s[a + 3].toNat : Int) * 16777216)) = _ from ?_))
  rw [bget s a (by omega), bget s (a + 1) (by omega), bget s (a + 2) (by omega), bget s (a + 3) (by omega)]
  exact num_w _ _ _ _ (s.data.toList.getD a 0).toNat_lt (s.data.toList.getD (a + 1) 0).toNat_lt (s.data.toList.getD (a + 2) 0).toNat_lt (s.data.toList.getD (a + 3) 0).toNat_lt

/-- Some sectors without their last bytes. -/
def unTo (s : ByteArray) (a : Nat) : Nat → List UInt8
  | 0 => []
  | i + 1 => unTo s a i ++ (s.extract (a + 64 * i) (a + 64 * i + 63)).data.toList
theorem unTo_length (s : ByteArray) (a q : Nat) : (unTo s a q).length ≤ 63 * q := by
  induction q with
  | zero => exact Nat.le_refl _
  | succ q ih =>
    rw [unTo, List.length_append]
    have : (s.extract (a + 64 * q) (a + 64 * q + 63)).data.toList.length ≤ 63 := by
      show (s.extract (a + 64 * q) (a + 64 * q + 63)).size ≤ 63
      rw [ByteArray.size_extract]; omega
    omega

set_option maxRecDepth 100000 in
set_option maxHeartbeats 400000 in
theorem un_any (s : ByteArray) (a q : Nat) (w : World) (hs : s.size ≤ 1048576) (ha : a + 64 * q ≤ s.size) :
    Calls Try.prog 27 #[.string s, .int .i64 (a : Int), .int .i64 (q : Int)] w fun e w' => ∃ t, e = .returned (.string t) ∧ Hid (t = T (unTo s a q)) ∧ Below w.heap.size w w' := by
  have HL := unTo_length s a
  go_enter Try.func27, Try.ntmps27
  go_wp2_with fail
  go_loopw [7, 8] (fun t7 t8 wr => ∃ (i : Nat) (x : ByteArray), i ≤ q ∧ t7 = .string x ∧ t8 = .int .i64 (i : Int) ∧ x.size ≤ 63 * i ∧ Hid (x = T (unTo s a i)) ∧ wr = w) (fun _ t8 _ => q - (intOf t8).toNat)
  case atStart => exact ⟨0, ⟨#[]⟩, by omega, rfl, rfl, Nat.le_refl _, rfl, rfl⟩
  case round =>
    obtain ⟨i, x, hi, rfl, rfl, hx, HX, rfl⟩ := hrel
    by_cases h1 : i < q
    · have z1 : decide ((i : Int) < (q : Int)) = true := by simp; omega
      have z2 : IntKind.i64.wrap ((i : Int) * 64) = (i : Int) * 64 := wrap_i64_in _ (by omega) (by omega)
      obtain ⟨b, hb⟩ : ∃ b, a + 64 * i = b := ⟨_, rfl⟩
      have z3 : IntKind.i64.wrap ((a : Int) + (i : Int) * 64) = (b : Int) := by rw [wrap_i64_in _ (by omega) (by omega)]; omega
      have z4 : IntKind.i64.wrap ((b : Int) + 63) = (b : Int) + 63 := wrap_i64_in _ (by omega) (by omega)
      have z5 : (0 : Int) ≤ (b : Int) := by omega
      have z6 : (b : Int) ≤ (b : Int) + 63 := by omega
      have z7 : (b : Int) + 63 ≤ (s.size : Int) := by omega
      go_wp2_with fail
      have HE : x ++ s.extract b (b + 63) = T (unTo s a (i + 1)) := by
        rw [unTo, hb, ← T_append, T_of, HX.out]
      refine ⟨⟨i + 1, _, by omega, rfl, rfl, ?_, HE, trivial⟩, ?_⟩
      · rw [HE]; exact HL (i + 1)
      · show q - ((i : Int) + 1).toNat < q - ((i : Int)).toNat
        omega
    · have z1 : decide ((i : Int) < (q : Int)) = false := by simp; omega
      have e : i = q := by omega
      go_wp2
      go_ret
      exact ⟨x, rfl, by show x = _; rw [HX.out, e], Below.refl _ _⟩
end Go.Proofs.Ytglpjoandgbngab
