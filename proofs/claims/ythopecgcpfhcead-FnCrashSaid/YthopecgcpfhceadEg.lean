import Derived.Test.YthopecgcpfhceadEf
namespace Go.Proofs.Ythopecgcpfhcead
open Go.RowKit Go.Proofs.Sha

/-- A number in four bytes, the lowest first. -/
def four (n : Nat) : List UInt8 := [UInt8.ofNat (n % 256), UInt8.ofNat (n / 256 % 256), UInt8.ofNat (n / 65536 % 256), UInt8.ofNat (n / 16777216 % 256)]

set_option maxRecDepth 100000 in
set_option maxHeartbeats 400000 in
theorem four_any (n : Nat) (hn : n ≤ 1048576) (w : World) :
    Calls Try.prog 71 #[.int .i64 (n : Int)] w fun e w' => ∃ t : ByteArray, e = .returned (.string t) ∧ t.size ≤ 4 ∧ Hid (t = T (four n)) ∧ Below w.heap.size w w' := by
  go_enter Try.func71, Try.ntmps71
  go_wp2_with fail
  refine (byte_i _ (by omega) (by omega) _).mono ?_
  rintro e w1 ⟨t1, rfl, hz1, HT1, hb1⟩
  go_wp2_with fail
  refine (byte_i _ (by omega) (by omega) _).mono ?_
  rintro e w2 ⟨t2, rfl, hz2, HT2, hb2⟩
  go_wp2_with fail
  refine (byte_i _ (by omega) (by omega) _).mono ?_
  rintro e w3 ⟨t3, rfl, hz3, HT3, hb3⟩
  go_wp2_with fail
  refine (byte_i _ (by omega) (by omega) _).mono ?_
  rintro e w4 ⟨t4, rfl, hz4, HT4, hb4⟩
  have hf : ¬ (9223372036854775807 < t1.size + t2.size + t3.size + t4.size) := by omega
  go_wp2
  go_ret
  refine ⟨t1 ++ t2 ++ t3 ++ t4, rfl, by simp only [ByteArray.size_append]; omega, ?_, ((hb1.trans (hb2.mono hb1.size)).trans (hb3.mono (Nat.le_trans hb1.size hb2.size))).trans (hb4.mono (Nat.le_trans (Nat.le_trans hb1.size hb2.size) hb3.size))⟩
  show t1 ++ t2 ++ t3 ++ t4 = T (four n)
  rw [HT1.out, HT2.out, HT3.out, HT4.out, byteS_T, byteS_T, byteS_T, byteS_T, T_append, T_append, T_append]
  have e1 : ((n : Int) % 256).toNat = n % 256 := by omega
  have e2 : ((n : Int) / 256 % 256).toNat = n / 256 % 256 := by omega
  have e3 : ((n : Int) / 65536 % 256).toNat = n / 65536 % 256 := by omega
  have e4 : ((n : Int) / 16777216 % 256).toNat = n / 16777216 % 256 := by omega
  rw [e1, e2, e3, e4]; rfl

def reps (n : Nat) (c : UInt8) : ByteArray := T (List.replicate n c)
theorem reps_size (n : Nat) (c : UInt8) : (reps n c).size = n := by unfold reps; rw [T_size, List.length_replicate]
theorem reps_add (n m : Nat) (c : UInt8) : reps n c ++ reps m c = reps (n + m) c := by unfold reps; rw [T_append, List.replicate_append_replicate]

set_option maxRecDepth 100000 in
set_option maxHeartbeats 400000 in
theorem long_any (c : UInt8) (n : Nat) : ∀ (_hn : n ≤ 1048576) (w : World),
    Calls Try.prog 74 #[.int .i64 (n : Int), .string ⟨#[c]⟩] w fun e w' => ∃ t : ByteArray, e = .returned (.string t) ∧ t.size = n ∧ Hid (t = reps n c) ∧ Below w.heap.size w w' := by
  induction n using Nat.strongRecOn with
  | ind n ih =>
  intro hn w
  have hU : Hid ((⟨#[c]⟩ : ByteArray) = reps 1 c ∧ (⟨#[c]⟩ : ByteArray).size = 1) := ⟨rfl, rfl⟩
  by_cases h0 : 0 < n
  · have z0 : decide ((0 : Int) < (n : Int)) = true := by simp; omega
    have hu : (⟨#[c]⟩ : ByteArray).size = 1 := rfl
    obtain ⟨u, hu'⟩ : ∃ u : ByteArray, ⟨#[c]⟩ = u := ⟨_, rfl⟩
    rw [hu'] at hU hu ih ⊢
    clear hu'
    go_enter Try.func74, Try.ntmps74
    go_wp2_with fail
    go_loopw [5] (fun t wr => ∃ (m : Nat) (x : ByteArray), 1 ≤ m ∧ m ≤ n ∧ t = .string x ∧ x.size = m ∧ Hid (x = reps m c) ∧ wr = w) (fun t _ => n - (match t with | .string x => x.size | _ => 0))
    case atStart => exact ⟨1, u, by omega, by omega, rfl, hu, hU.out.1, rfl⟩
    case round =>
      obtain ⟨m, x, hm1, hm2, rfl, hx, HX, rfl⟩ := hrel
      by_cases h1 : 2 * m ≤ n
      · have z1 : decide ((x.size : Int) * 2 ≤ (n : Int)) = true := by simp; omega
        go_wp2_with fail
        refine ⟨⟨m + m, x ++ x, by omega, by omega, rfl, by rw [ByteArray.size_append, hx], ?_, trivial⟩, ?_⟩
        · show x ++ x = _
          rw [HX.out, reps_add]
        · show n - (x ++ x).size < n - x.size
          rw [ByteArray.size_append, hx]; omega
      · have z1 : decide ((x.size : Int) * 2 ≤ (n : Int)) = false := by simp; omega
        by_cases h2 : m < n
        · have z2 : decide ((x.size : Int) < (n : Int)) = true := by simp; omega
          have z3 : IntKind.i64.wrap ((n : Int) - (m : Int)) = ((n - m : Nat) : Int) := by rw [wrap_i64_in _ (by omega) (by omega)]; omega
          go_wp2_with fail
          refine (ih (n - m) (by omega) (by omega) _).mono ?_
          rintro e w1 ⟨t, rfl, ht, HT, hb⟩
          have z4 : ¬ (9223372036854775807 < x.size + t.size) := by omega
          go_wp2
          go_ret
          refine ⟨x ++ t, rfl, by rw [ByteArray.size_append]; omega, ?_, hb⟩
          show x ++ t = _
          rw [HX.out, HT.out, reps_add]
          congr 1
          omega
        · have z2 : decide ((x.size : Int) < (n : Int)) = false := by simp; omega
          go_wp2
          go_ret
          exact ⟨x, rfl, by omega, by show x = _; rw [HX.out]; congr 1; omega, Below.refl _ _⟩
  · have hn0 : n = 0 := by omega
    subst hn0
    clear ih
    go_enter Try.func74, Try.ntmps74
    go_wp2_with fail
    go_loopw [5] (fun t wr => t = .string ⟨#[]⟩ ∧ wr = w) (fun _ _ => 0)
    case atStart => exact ⟨rfl, rfl⟩
    case round =>
      obtain ⟨rfl, rfl⟩ := hrel
      go_wp2
      go_ret
      exact ⟨⟨#[]⟩, rfl, rfl, rfl, Below.refl _ _⟩
end Go.Proofs.Ythopecgcpfhcead
