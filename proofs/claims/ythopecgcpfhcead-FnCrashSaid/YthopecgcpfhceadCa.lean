import Derived.Test.YthopecgcpfhceadEa
namespace Go.Proofs.Ythopecgcpfhcead
open Go.RowKit Go.Proofs.Sha

/-- A slice of bytes that was handed in, and what it holds. -/
structure BL (a : Option Addr) (xs : List Nat) (w : World) : Prop where
  at_ : 0 < xs.length → ∃ b off : Nat, a = some ⟨b, off, none⟩ ∧ b < w.heap.size ∧ ∀ j, j < xs.length → w.cell? ⟨b, off + j, none⟩ = some (.int .u8 ((xs.getD j 0 : Nat) : Int))
theorem BL.below {a : Option Addr} {xs : List Nat} {w w' : World} (h : BL a xs w) (hb : Below w.heap.size w w') : BL a xs w' := by
  refine ⟨fun hn => ?_⟩
  obtain ⟨b, off, ha, hlt, hc⟩ := h.at_ hn
  exact ⟨b, off, ha, Nat.lt_of_lt_of_le hlt hb.size, fun j hj => (hb.cell hlt).trans (hc j hj)⟩
/-- The bytes of a code. -/
structure Code8 (xs : List Nat) : Prop where
  le : xs.length ≤ 1048576
  lt : ∀ j, xs.getD j 0 < 256

theorem i64_xor_nat (a b : Nat) (ha : a < 4294967296) (hb : b < 4294967296) : bits .xor .i64 (a : Int) (b : Int) = ((a ^^^ b : Nat) : Int) := by
  have hx : a ^^^ b < 2 ^ 32 := Nat.xor_lt_two_pow (by omega) (by omega)
  show IntKind.i64.wrap ((BitVec.ofInt 64 (a : Int) ^^^ BitVec.ofInt 64 (b : Int)).toNat : Int) = _
  rw [BitVec.toNat_xor, ofInt_u64 a (by omega), ofInt_u64 b (by omega)]
  exact wrap_i64_in _ (by omega) (by omega)

set_option maxRecDepth 100000 in
set_option maxHeartbeats 1000000 in
theorem take_det (a : Option Addr) (xs : List Nat) (cap : Nat) (p m : Nat) (hX : Code8 xs) (hp : p ≤ 100000) (hm1 : 1 ≤ m) (hm : m ≤ 100000) :
    ∃ x : Nat, x < m ∧ ∀ w, BL a xs w → Calls Try.prog 27 #[.slice a xs.length cap, .int .i64 (p : Int), .int .i64 (m : Int)] w fun e w' => e = .returned (.tuple #[.int .i64 (x : Int), .int .i64 ((p + 1 : Nat) : Int)]) ∧ Below w.heap.size w w' := by
  have z0 : decide ((m : Int) < 1) = false := by simp; omega
  have hn := hX.le
  have y1 : IntKind.i64.wrap ((p : Int) + 1) = ((p + 1 : Nat) : Int) := by rw [wrap_i64_in _ (by omega) (by omega)]; omega
  obtain ⟨n, hnn⟩ : ∃ n, xs.length = n := ⟨_, rfl⟩
  rw [hnn] at hn ⊢
  by_cases h0 : n = 0
  · subst h0
    refine ⟨0, hm1, fun w h => ?_⟩
    go_enter Try.func27, Try.ntmps27
    go_wp2_with fail
    go_ret2
    exact ⟨rfl, Below.refl _ _⟩
  · have z1 : ((n : Int) == 0) = false := by rw [beq_eq_false_iff_ne]; omega
    by_cases h1 : p < n ∧ m ≤ 256
    · have z2 : decide ((p : Int) < (n : Int)) = true := by simp; omega
      have z3 : decide ((m : Int) ≤ 256) = true := by simp; omega
      obtain ⟨x, hx⟩ : ∃ x, xs.getD p 0 = x := ⟨_, rfl⟩
      have hxl : x < 256 := by rw [← hx]; exact hX.lt p
      refine ⟨x % m, Nat.mod_lt _ (by omega), fun w h => ?_⟩
      obtain ⟨b, off, rfl, hlt, hc⟩ := h.at_ (by omega)
      have hcx := hc p (by omega)
      rw [hx] at hcx
      clear hc
      go_enter Try.func27, Try.ntmps27
      go_wp2_with fail
      go_ret2
      exact ⟨rfl, Below.refl _ _⟩
    · obtain ⟨i1, hi1⟩ : ∃ i, p % n = i := ⟨_, rfl⟩
      obtain ⟨i2, hi2⟩ : ∃ i, (p * 7 + 3) % n = i := ⟨_, rfl⟩
      have l1 : i1 < n := by rw [← hi1]; exact Nat.mod_lt _ (by omega)
      have l2 : i2 < n := by rw [← hi2]; exact Nat.mod_lt _ (by omega)
      obtain ⟨x, hx'⟩ : ∃ x, xs.getD i1 0 = x := ⟨_, rfl⟩
      obtain ⟨y, hy'⟩ : ∃ x, xs.getD i2 0 = x := ⟨_, rfl⟩
      have hx : x < 256 := by rw [← hx']; exact hX.lt i1
      have hy : y < 256 := by rw [← hy']; exact hX.lt i2
      obtain ⟨d, hd⟩ : ∃ d, p / n = d := ⟨_, rfl⟩
      have hdp : d ≤ p := by rw [← hd]; exact Nat.div_le_self _ _
      have u1 : (p : Int) % (n : Int) = (i1 : Int) := by rw [← hi1]; rfl
      have u2 : ((p : Int) * 7 + 3) % (n : Int) = (i2 : Int) := by rw [← hi2]; rfl
      have u3 : (p : Int) / (n : Int) = (d : Int) := by rw [← hd]; rfl
      have z2 : (decide ((p : Int) < (n : Int)) && decide ((m : Int) ≤ 256)) = false := by
        rw [Bool.and_eq_false_iff]
        by_cases g : p < n
        · exact .inr (by simp; omega)
        · exact .inl (by simp; omega)
      clear hi1 hi2 hd
      obtain ⟨Y, HY⟩ : ∃ Y : Nat, Hid ((bits .xor .i64 ((x : Int) * 131 + (y : Int) * 1117 + (p : Int) * 29 + (d : Int) * 53) (((x : Int) * 131 + (y : Int) * 1117 + (p : Int) * 29 + (d : Int) * 53) / 64)) = (Y : Int)) :=
        ⟨_, i64_xor_nat (x * 131 + y * 1117 + p * 29 + d * 53) ((x * 131 + y * 1117 + p * 29 + d * 53) / 64) (by omega) (by omega)⟩
      have HR : Hid ((bits .xor .i64 ((x : Int) * 131 + (y : Int) * 1117 + (p : Int) * 29 + (d : Int) * 53) (((x : Int) * 131 + (y : Int) * 1117 + (p : Int) * 29 + (d : Int) * 53) / 64)).tmod (m : Int) = ((Y % m : Nat) : Int)) := by
        show _ = _
        rw [HY.out]; rfl
      refine ⟨Y % m, Nat.mod_lt _ (by omega), fun w h => ?_⟩
      obtain ⟨b, off, rfl, hlt, hc⟩ := h.at_ (by omega)
      have hcx := hc i1 (by omega)
      have hcy := hc i2 (by omega)
      rw [hx'] at hcx
      rw [hy'] at hcy
      clear hc
      by_cases g : p < n
      · have z3 : decide ((p : Int) < (n : Int)) = true := by simp; omega
        have z4 : decide ((m : Int) ≤ 256) = false := by simp; omega
        go_enter Try.func27, Try.ntmps27
        go_wp2_with fail
        go_ret2
        exact ⟨by rw [HR.out]; rfl, Below.refl _ _⟩
      · have z3 : decide ((p : Int) < (n : Int)) = false := by simp; omega
        go_enter Try.func27, Try.ntmps27
        go_wp2_with fail
        go_ret2
        exact ⟨by rw [HR.out]; rfl, Below.refl _ _⟩

set_option maxRecDepth 100000 in
theorem width_det (a : Option Addr) (xs : List Nat) (cap : Nat) (p : Nat) (hX : Code8 xs) (hp : p ≤ 100000) :
    ∃ x : Nat, (1 ≤ x ∧ x ≤ 32) ∧ ∀ w, BL a xs w → Calls Try.prog 61 #[.slice a xs.length cap, .int .i64 (p : Int)] w fun e w' => e = .returned (.tuple #[.int .i64 (x : Int), .int .i64 ((p + 1 : Nat) : Int)]) ∧ Below w.heap.size w w' := by
  obtain ⟨x, hx, HT⟩ := take_det a xs cap p 10 hX hp (by omega) (by omega)
  replace HT : Hid _ := HT
  by_cases h3 : x < 3
  · have z1 : decide ((x : Int) < 3) = true := by simp; omega
    refine ⟨1, by omega, fun w h => ?_⟩
    go_enter Try.func61, Try.ntmps61
    go_wp2_with fail
    refine (HT.out w h).mono ?_
    rintro e w1 ⟨rfl, hb⟩
    go_wp2_with fail
    go_ret2
    exact ⟨rfl, hb⟩
  have z1 : decide ((x : Int) < 3) = false := by simp; omega
  by_cases h5 : x < 5
  · have z2 : decide ((x : Int) < 5) = true := by simp; omega
    refine ⟨2, by omega, fun w h => ?_⟩
    go_enter Try.func61, Try.ntmps61
    go_wp2_with fail
    refine (HT.out w h).mono ?_
    rintro e w1 ⟨rfl, hb⟩
    go_wp2_with fail
    go_ret2
    exact ⟨rfl, hb⟩
  have z2 : decide ((x : Int) < 5) = false := by simp; omega
  by_cases h7 : x < 7
  · have z3 : decide ((x : Int) < 7) = true := by simp; omega
    refine ⟨32, by omega, fun w h => ?_⟩
    go_enter Try.func61, Try.ntmps61
    go_wp2_with fail
    refine (HT.out w h).mono ?_
    rintro e w1 ⟨rfl, hb⟩
    go_wp2_with fail
    go_ret2
    exact ⟨rfl, hb⟩
  have z3 : decide ((x : Int) < 7) = false := by simp; omega
  refine ⟨x, by omega, fun w h => ?_⟩
  go_enter Try.func61, Try.ntmps61
  go_wp2_with fail
  refine (HT.out w h).mono ?_
  rintro e w1 ⟨rfl, hb⟩
  go_wp2_with fail
  go_ret2
  exact ⟨rfl, hb⟩
end Go.Proofs.Ythopecgcpfhcead
