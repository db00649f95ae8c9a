import Derived.Test.YtngnbflkiiehmaaGreatDoorZg
import Derived.Test.YtngnbflkiiehmaaGreatDoorZh
import Derived.Deep.Cut
namespace Go.Proofs.YtngnbflkiiehmaaGreatDoor
open Go.RowKit Go.Proofs.Sha

/-- A slice of bytes that was handed in. -/
structure BArg (a : Option Addr) (n : Nat) (w : World) : Prop where
  le : n ≤ 1048576
  at_ : 0 < n → ∃ b off : Nat, a = some ⟨b, off, none⟩ ∧ b < w.heap.size ∧ ∀ j, j < n → ∃ x : Nat, x < 256 ∧ w.cell? ⟨b, off + j, none⟩ = some (.int .u8 (x : Int))
theorem BArg.below {a : Option Addr} {n : Nat} {w w' : World} (h : BArg a n w) (hb : Below w.heap.size w w') : BArg a n w' := by
  refine ⟨h.le, fun hn => ?_⟩
  obtain ⟨b, off, ha, hlt, hc⟩ := h.at_ hn
  refine ⟨b, off, ha, Nat.lt_of_lt_of_le hlt hb.size, fun j hj => ?_⟩
  obtain ⟨x, hx, h⟩ := hc j hj
  exact ⟨x, hx, (hb.cell hlt).trans h⟩

theorem i64_xor_nat (a b : Nat) (ha : a < 4294967296) (hb : b < 4294967296) : bits .xor .i64 (a : Int) (b : Int) = ((a ^^^ b : Nat) : Int) := by
  have hx : a ^^^ b < 2 ^ 32 := Nat.xor_lt_two_pow (by omega) (by omega)
  show IntKind.i64.wrap ((BitVec.ofInt 64 (a : Int) ^^^ BitVec.ofInt 64 (b : Int)).toNat : Int) = _
  rw [BitVec.toNat_xor, ofInt_u64 a (by omega), ofInt_u64 b (by omega)]
  exact wrap_i64_in _ (by omega) (by omega)

set_option maxRecDepth 100000 in
set_option maxHeartbeats 1000000 in
theorem take_any (a : Option Addr) (n : Nat) (cap : Nat) (p m : Nat) (w : World) (h : BArg a n w) (hp : p ≤ 100000) (hm1 : 1 ≤ m) (hm : m ≤ 1000) :
    Calls Tryz.prog 16 #[.slice a n cap, .int .i64 (p : Int), .int .i64 (m : Int)] w fun e w' => ∃ x : Nat, x < m ∧ e = .returned (.tuple #[.int .i64 (x : Int), .int .i64 ((p + 1 : Nat) : Int)]) ∧ Below w.heap.size w w' := by
  have z0 : decide ((m : Int) < 1) = false := by simp; omega
  have hn := h.le
  have y1 : IntKind.i64.wrap ((p : Int) + 1) = ((p + 1 : Nat) : Int) := by rw [wrap_i64_in _ (by omega) (by omega)]; omega
  by_cases h0 : n = 0
  · subst h0
    go_enter Tryz.func16, Tryz.ntmps16
    go_wp2_with fail
    go_ret2
    exact ⟨0, hm1, rfl, Below.refl _ _⟩
  · obtain ⟨b, off, rfl, hlt, hc⟩ := h.at_ (by omega)
    have z1 : ((n : Int) == 0) = false := by rw [beq_eq_false_iff_ne]; omega
    by_cases h1 : p < n ∧ m ≤ 256
    · have z2 : decide ((p : Int) < (n : Int)) = true := by simp; omega
      have z3 : decide ((m : Int) ≤ 256) = true := by simp; omega
      obtain ⟨x, hx, hcx⟩ := hc p h1.1
      go_enter Tryz.func16, Tryz.ntmps16
      go_wp2_with fail
      go_ret2
      exact ⟨x % m, Nat.mod_lt _ (by omega), rfl, Below.refl _ _⟩
    · obtain ⟨i1, hi1⟩ : ∃ i, p % n = i := ⟨_, rfl⟩
      obtain ⟨i2, hi2⟩ : ∃ i, (p * 7 + 3) % n = i := ⟨_, rfl⟩
      have l1 : i1 < n := by rw [← hi1]; exact Nat.mod_lt _ (by omega)
      have l2 : i2 < n := by rw [← hi2]; exact Nat.mod_lt _ (by omega)
      obtain ⟨x, hx, hcx⟩ := hc i1 l1
      obtain ⟨y, hy, hcy⟩ := hc i2 l2
      obtain ⟨d, hd⟩ : ∃ d, p / n = d := ⟨_, rfl⟩
      have hdp : d ≤ p := by rw [← hd]; exact Nat.div_le_self _ _
      have u1 : (p : Int) % (n : Int) = (i1 : Int) := by rw [← hi1]; rfl
      have u2 : ((p : Int) * 7 + 3) % (n : Int) = (i2 : Int) := by rw [← hi2]; rfl
      have u3 : (p : Int) / (n : Int) = (d : Int) := by rw [← hd]; rfl
      have z2 : (decide ((p : Int) < (n : Int)) && decide ((m : Int) ≤ 256)) = false := by
        rw [Bool.and_eq_false_iff]
        by_cases g : p < n
        · exact .inr (by simp; omega)
        · exact .inl (by simp; omega)
      clear hi1 hi2 hd
      obtain ⟨Y, HY⟩ : ∃ Y : Nat, Hid ((bits .xor .i64 ((x : Int) * 131 + (y : Int) * 1117 + (p : Int) * 29 + (d : Int) * 53) (((x : Int) * 131 + (y : Int) * 1117 + (p : Int) * 29 + (d : Int) * 53) / 64)) = (Y : Int)) :=
        ⟨_, i64_xor_nat (x * 131 + y * 1117 + p * 29 + d * 53) ((x * 131 + y * 1117 + p * 29 + d * 53) / 64) (by omega) (by omega)⟩
      have HR : Hid ((bits .xor .i64 ((x : Int) * 131 + (y : Int) * 1117 + (p : Int) * 29 + (d : Int) * 53) (((x : Int) * 131 + (y : Int) * 1117 + (p : Int) * 29 + (d : Int) * 53) / 64)).tmod (m : Int) = ((Y % m : Nat) : Int)) := by
        show _ = _
        rw [HY.out]; rfl
      by_cases g : p < n
      · have z3 : decide ((p : Int) < (n : Int)) = true := by simp; omega
        have z4 : decide ((m : Int) ≤ 256) = false := by simp; omega
        go_enter Tryz.func16, Tryz.ntmps16
        go_wp2_with fail
        go_ret2
        exact ⟨Y % m, Nat.mod_lt _ (by omega), by rw [HR.out]; rfl, Below.refl _ _⟩
      · have z3 : decide ((p : Int) < (n : Int)) = false := by simp; omega
        go_enter Tryz.func16, Tryz.ntmps16
        go_wp2_with fail
        go_ret2
        exact ⟨Y % m, Nat.mod_lt _ (by omega), by rw [HR.out]; rfl, Below.refl _ _⟩

set_option maxRecDepth 100000 in
theorem drawWidth_any (a : Option Addr) (n : Nat) (cap : Nat) (p : Nat) (w : World) (h : BArg a n w) (hp : p ≤ 100000) :
    Calls Tryz.prog 17 #[.slice a n cap, .int .i64 (p : Int)] w fun e w' => ∃ x : Nat, 1 ≤ x ∧ x ≤ 32 ∧ e = .returned (.tuple #[.int .i64 (x : Int), .int .i64 ((p + 1 : Nat) : Int)]) ∧ Below w.heap.size w w' := by
  have HT : Hid (Calls Tryz.prog 16 #[.slice a n cap, .int .i64 (p : Int), .int .i64 10] w fun e w' => ∃ x : Nat, x < 10 ∧ e = .returned (.tuple #[.int .i64 (x : Int), .int .i64 ((p + 1 : Nat) : Int)]) ∧ Below w.heap.size w w') := take_any a n cap p 10 w h hp (by omega) (by omega)
  go_enter Tryz.func17, Tryz.ntmps17
  go_wp2_with fail
  refine HT.out.mono ?_
  rintro e w1 ⟨x, hx, rfl, hb⟩
  by_cases h3 : x < 3
  · have z1 : decide ((x : Int) < 3) = true := by simp; omega
    go_wp2_with fail
    go_ret2
    exact ⟨1, by omega, by omega, rfl, hb⟩
  have z1 : decide ((x : Int) < 3) = false := by simp; omega
  by_cases h5 : x < 5
  · have z2 : decide ((x : Int) < 5) = true := by simp; omega
    go_wp2_with fail
    go_ret2
    exact ⟨2, by omega, by omega, rfl, hb⟩
  have z2 : decide ((x : Int) < 5) = false := by simp; omega
  by_cases h7 : x < 7
  · have z3 : decide ((x : Int) < 7) = true := by simp; omega
    go_wp2_with fail
    go_ret2
    exact ⟨32, by omega, by omega, rfl, hb⟩
  have z3 : decide ((x : Int) < 7) = false := by simp; omega
  go_wp2_with fail
  go_ret2
  exact ⟨x, by omega, by omega, rfl, hb⟩
end Go.Proofs.YtngnbflkiiehmaaGreatDoor
namespace Go.Proofs.YtngnbflkiiehmaaGreatDoor
open Go.RowKit Go.Proofs.Sha

theorem commitRec_le (v : Int) (root : ByteArray) : (commitRec v root).size ≤ 64 := by
  by_cases h : 1 ≤ v ∧ v ≤ 1000000 ∧ root.size ≤ 32
  · rw [commit_text h.1 h.2.1 h.2.2, T_size, markedTo, markedTo, List.nil_append, if_pos rfl, List.length_append, part63_length]; exact Nat.le_refl _
  · rw [commitRec, if_neg h]; exact Nat.zero_le _
theorem commitRec_b (v : Int) (root : ByteArray) (w : World) (hs : root.size ≤ 1048576) :
    Calls Tryz.prog 12 #[.int .i64 v, .string root] w fun e w' => ∃ t : ByteArray, e = .returned (.string t) ∧ t.size ≤ 64 ∧ Below w.heap.size w w' :=
  (commitRec_any v root w hs).mono (by rintro e w' ⟨t, rfl, HT, hb⟩; exact ⟨t, rfl, by rw [HT.out]; exact commitRec_le v root, hb⟩)
theorem long_b (c : UInt8) (m : Int) (h0 : 0 ≤ m) (h1 : m ≤ 1048576) (w : World) :
    Calls Tryz.prog 20 #[.int .i64 m, .string ⟨#[c]⟩] w fun e w' => ∃ t : ByteArray, e = .returned (.string t) ∧ (t.size : Int) = m ∧ Below w.heap.size w w' := by
  obtain ⟨n, rfl⟩ := Int.eq_ofNat_of_zero_le h0
  exact (long_any c n (by omega) w).mono (by rintro e w' ⟨t, rfl, hz, _, hb⟩; exact ⟨t, rfl, by omega, hb⟩)

set_option maxRecDepth 100000 in
set_option maxHeartbeats 1000000 in
theorem drawKey_any (a : Option Addr) (n : Nat) (cap : Nat) (p : Nat) (w : World) (h : BArg a n w) (hp : p ≤ 100000) :
    Calls Tryz.prog 37 #[.slice a n cap, .int .i64 (p : Int)] w fun e w' => ∃ t : ByteArray, t.size ≤ 70 ∧ e = .returned (.tuple #[.string t, .int .i64 ((p + 1 : Nat) : Int)]) ∧ Below w.heap.size w w' := by
  have HT : Hid (Calls Tryz.prog 16 #[.slice a n cap, .int .i64 (p : Int), .int .i64 24] w fun e w' => ∃ x : Nat, x < 24 ∧ e = .returned (.tuple #[.int .i64 (x : Int), .int .i64 ((p + 1 : Nat) : Int)]) ∧ Below w.heap.size w w') := take_any a n cap p 24 w h hp (by omega) (by omega)
  go_enter Tryz.func37, Tryz.ntmps37
  go_wp2_with fail
  refine HT.out.mono ?_
  rintro e w1 ⟨x, hx, rfl, hb⟩
  by_cases h1 : x < 20
  · have z1 : decide ((x : Int) < 20) = true := by simp; omega
    have y1 : IntKind.i64.wrap ((x : Int) + 1) = (x : Int) + 1 := wrap_i64_in _ (by omega) (by omega)
    have y2 : (x : Int) ≤ (x : Int) + 1 := by omega
    have y3 : (x : Int) + 1 ≤ 20 := by omega
    go_wp2_with fail
    go_ret2
    exact ⟨_, by rw [ByteArray.size_extract]; omega, rfl, hb⟩
  have z1 : decide ((x : Int) < 20) = false := by simp; omega
  by_cases h2 : x = 20
  · subst h2
    go_wp2_with fail
    go_ret2
    exact ⟨_, by decide, rfl, hb⟩
  have z2 : ((x : Int) == 20) = false := by rw [beq_eq_false_iff_ne]; omega
  by_cases h3 : x = 21
  · subst h3
    go_wp2_with fail
    go_ret2
    exact ⟨_, by decide, rfl, hb⟩
  have z3 : ((x : Int) == 21) = false := by rw [beq_eq_false_iff_ne]; omega
  by_cases h4 : x = 22
  · subst h4
    go_wp2_with fail
    go_ret2
    exact ⟨_, by decide, rfl, hb⟩
  have z4 : ((x : Int) == 22) = false := by rw [beq_eq_false_iff_ne]; omega
  go_wp2_with fail
  refine (long_b _ 70 (by omega) (by omega) _).mono ?_
  rintro e w2 ⟨t, rfl, ht, hb2⟩
  go_wp2_with fail
  go_ret2
  exact ⟨t, by omega, rfl, hb.trans (hb2.mono hb.size)⟩

end Go.Proofs.YtngnbflkiiehmaaGreatDoor
namespace Go.Proofs.YtngnbflkiiehmaaGreatDoor
open Go.RowKit Go.Proofs.Sha

set_option maxRecDepth 100000 in
set_option maxHeartbeats 1000000 in
theorem drawVal_any (a : Option Addr) (n : Nat) (cap : Nat) (p : Nat) (w : World) (h : BArg a n w) (hp : p ≤ 90000) :
    Calls Tryz.prog 38 #[.slice a n cap, .int .i64 (p : Int)] w fun e w' => ∃ t : ByteArray, t.size ≤ 300 ∧ e = .returned (.tuple #[.string t, .int .i64 ((p + 2 : Nat) : Int)]) ∧ Below w.heap.size w w' := by
  have HT : Hid (Calls Tryz.prog 16 #[.slice a n cap, .int .i64 (p : Int), .int .i64 16] w fun e w' => ∃ x : Nat, x < 16 ∧ e = .returned (.tuple #[.int .i64 (x : Int), .int .i64 ((p + 1 : Nat) : Int)]) ∧ Below w.heap.size w w') := take_any a n cap p 16 w h (by omega) (by omega) (by omega)
  have HT2 : Hid (∀ w1, BArg a n w1 → Calls Tryz.prog 16 #[.slice a n cap, .int .i64 ((p + 1 : Nat) : Int), .int .i64 120] w1 fun e w' => ∃ x : Nat, x < 120 ∧ e = .returned (.tuple #[.int .i64 (x : Int), .int .i64 ((p + 2 : Nat) : Int)]) ∧ Below w1.heap.size w1 w') := fun w1 h1 => take_any a n cap (p + 1) 120 w1 h1 (by omega) (by omega) (by omega)
  obtain ⟨p1, hp1⟩ : ∃ p1, p + 1 = p1 := ⟨_, rfl⟩
  obtain ⟨p2, hp2⟩ : ∃ p2, p + 2 = p2 := ⟨_, rfl⟩
  rw [hp1] at HT HT2
  rw [hp2] at HT2 ⊢
  clear hp1 hp2
  go_enter Tryz.func38, Tryz.ntmps38
  go_wp2_with fail
  refine HT.out.mono ?_
  rintro e w1 ⟨x, hx, rfl, hb1⟩
  go_wp2_with fail
  refine (HT2.out _ (h.below hb1)).mono ?_
  rintro e w2 ⟨y, hy, rfl, hb2⟩
  have hb : Below w.heap.size w w2 := hb1.trans (hb2.mono hb1.size)
  clear HT HT2 hb1 hb2
  by_cases h1 : x < 2
  · have z1 : decide ((x : Int) < 2) = true := by simp; omega
    go_wp2_with fail
    go_ret2
    exact ⟨_, by decide, rfl, hb⟩
  have z1 : decide ((x : Int) < 2) = false := by simp; omega
  by_cases h2 : x = 14
  · subst h2
    go_wp2_with fail
    refine (long_b _ _ (by omega) (by omega) _).mono ?_
    rintro e w3 ⟨t, rfl, ht, hb3⟩
    go_wp2_with fail
    go_ret2
    exact ⟨t, by omega, rfl, hb.trans (hb3.mono hb.size)⟩
  have z2 : ((x : Int) == 14) = false := by rw [beq_eq_false_iff_ne]; omega
  by_cases h3 : x = 15
  · subst h3
    go_wp2_with fail
    refine (long_b _ _ (by omega) (by omega) _).mono ?_
    rintro e w3 ⟨t3, rfl, ht3, hb3⟩
    have k3 : t3.size ≤ 63 := by omega
    clear ht3
    have hB3 := hb.trans (hb3.mono hb.size)
    go_wp2_with fail
    refine (commitRec_b _ _ _ (by decide)).mono ?_
    rintro e w4 ⟨t4, rfl, k4, hb4⟩
    have hB4 := hB3.trans (hb4.mono hB3.size)
    have f1 : ¬ (9223372036854775807 < t3.size + t4.size) := by omega
    go_wp2_with fail
    refine (long_b _ _ (by omega) (by omega) _).mono ?_
    rintro e w5 ⟨t5, rfl, ht5, hb5⟩
    have k5 : t5.size ≤ 63 := by omega
    clear ht5
    have hB5 := hB4.trans (hb5.mono hB4.size)
    go_wp2_with fail
    refine (commitRec_b _ _ _ (by omega)).mono ?_
    rintro e w6 ⟨t6, rfl, k6, hb6⟩
    have hB6 := hB5.trans (hb6.mono hB5.size)
    have f2 : ¬ (9223372036854775807 < t3.size + t4.size + t6.size) := by omega
    clear hb hb3 hb4 hb5 hb6 hB3 hB4 hB5
    go_wp2_with fail
    go_ret2
    exact ⟨_, by rw [ByteArray.size_append, ByteArray.size_append]; omega, rfl, hB6⟩
  have z3 : ((x : Int) == 15) = false := by rw [beq_eq_false_iff_ne]; omega
  go_wp2_with fail
  refine (byte_i _ (by omega) (by omega) _).mono ?_
  rintro e w3 ⟨t3, rfl, k3, _, hb3⟩
  have hB3 := hb.trans (hb3.mono hb.size)
  have f1 : ¬ (9223372036854775807 < 1 + t3.size) := by omega
  go_wp2_with fail
  refine (byte_i _ (by omega) (by omega) _).mono ?_
  rintro e w4 ⟨t4, rfl, k4, _, hb4⟩
  have hB4 := hB3.trans (hb4.mono hB3.size)
  have f2 : ¬ (9223372036854775807 < 1 + t3.size + t4.size) := by omega
  go_wp2_with fail
  go_ret2
  refine ⟨_, ?_, rfl, hB4⟩
  rw [ByteArray.size_append, ByteArray.size_append]
  show 1 + t3.size + t4.size ≤ 300
  omega

set_option maxRecDepth 100000 in
theorem dig_b (s : ByteArray) (k : Nat) (w : World) (_hs : s.size ≤ 1048576) (h1 : 1 ≤ k) (h2 : k ≤ 32)
    (HD : Hid (Calls Tryz.prog 10 #[.string s, .int .i64 (k : Int)] w fun e w' => e = .returned (.string ⟨((sha s.data.toList).take k).toArray⟩) ∧ Below w.heap.size w w')) :
    Calls Tryz.prog 10 #[.string s, .int .i64 (k : Int)] w fun e w' => ∃ t : ByteArray, e = .returned (.string t) ∧ t.size ≤ 32 ∧ Below w.heap.size w w' :=
  HD.out.mono (by
    rintro e w' ⟨rfl, hb⟩
    refine ⟨_, rfl, ?_, hb⟩
    show ((sha s.data.toList).take k).length ≤ 32
    rw [List.length_take]; omega)

/-- What the digest's contract says, by itself. -/
def DigSaid : Prop := ∀ (s : ByteArray) (k : Nat) (w : World), s.size ≤ 1048576 → 1 ≤ k → k ≤ 32 → Calls Tryz.prog 10 #[.string s, .int .i64 (k : Int)] w fun e w' => e = .returned (.string ⟨((sha s.data.toList).take k).toArray⟩) ∧ Below w.heap.size w w'

set_option maxRecDepth 100000 in
set_option maxHeartbeats 1000000 in
theorem drawHash_any (HD : Hid DigSaid) (a : Option Addr) (n : Nat) (cap : Nat) (p k : Nat) (w : World) (h : BArg a n w) (hp : p ≤ 90000) (h1 : 1 ≤ k) (h2 : k ≤ 32) :
    Calls Tryz.prog 19 #[.slice a n cap, .int .i64 (p : Int), .int .i64 (k : Int)] w fun e w' => ∃ t : ByteArray, t.size ≤ 32 ∧ e = .returned (.tuple #[.string t, .int .i64 ((p + 1 : Nat) : Int)]) ∧ Below w.heap.size w w' := by
  have HT : Hid (Calls Tryz.prog 16 #[.slice a n cap, .int .i64 (p : Int), .int .i64 64] w fun e w' => ∃ x : Nat, x < 64 ∧ e = .returned (.tuple #[.int .i64 (x : Int), .int .i64 ((p + 1 : Nat) : Int)]) ∧ Below w.heap.size w w') := take_any a n cap p 64 w h (by omega) (by omega) (by omega)
  obtain ⟨p1, hp1⟩ : ∃ p1, p + 1 = p1 := ⟨_, rfl⟩
  rw [hp1] at HT ⊢
  clear hp1
  go_enter Tryz.func19, Tryz.ntmps19
  go_wp2_with fail
  refine HT.out.mono ?_
  rintro e w1 ⟨x, hx, rfl, hb⟩
  by_cases g1 : x < 20
  · have z1 : decide ((x : Int) < 20) = true := by simp; omega
    go_wp2_with fail
    go_ret2
    exact ⟨_, by decide, rfl, hb⟩
  have z1 : decide ((x : Int) < 20) = false := by simp; omega
  go_wp2_with fail
  refine (byte_i _ (by omega) (by omega) _).mono ?_
  rintro e w3 ⟨t3, rfl, k3, _, hb3⟩
  have hB3 := hb.trans (hb3.mono hb.size)
  go_wp2_with fail
  refine (dig_b t3 k _ (by omega) h1 h2 (HD.out t3 k _ (by omega) h1 h2)).mono ?_
  rintro e w4 ⟨t4, rfl, k4, hb4⟩
  have hB4 := hB3.trans (hb4.mono hB3.size)
  go_wp2_with fail
  go_ret2
  exact ⟨t4, k4, rfl, hB4⟩
end Go.Proofs.YtngnbflkiiehmaaGreatDoor
namespace Go.Proofs.YtngnbflkiiehmaaGreatDoor
open Go.RowKit Go.Proofs.Sha

/-- A node's block. -/
def DN (g : Nat) (k v l r : ByteArray) (w : World) : Prop := w.heap[g]? = some (.cells #[.string k, .string v, .string l, .string r] 24)
theorem DN.below {g : Nat} {k v l r : ByteArray} {w w' : World} (h : DN g k v l r w) (hb : Below w.heap.size w w') : DN g k v l r w' := (hb.block g (Array.getElem?_eq_some_iff.1 h).1).trans h
theorem DN.s0 {g : Nat} {k v l r : ByteArray} {w : World} (h : DN g k v l r w) (x : ByteArray) : DN g x v l r (w.setCell ⟨g, 0, none⟩ (.string x)) := heap_setCell_same w g 0 _ 24 _ h
theorem DN.s1 {g : Nat} {k v l r : ByteArray} {w : World} (h : DN g k v l r w) (x : ByteArray) : DN g k x l r (w.setCell ⟨g, 1, none⟩ (.string x)) := heap_setCell_same w g 1 _ 24 _ h
theorem DN.s2 {g : Nat} {k v l r : ByteArray} {w : World} (h : DN g k v l r w) (x : ByteArray) : DN g k v x r (w.setCell ⟨g, 2, none⟩ (.string x)) := heap_setCell_same w g 2 _ 24 _ h
theorem DN.s3 {g : Nat} {k v l r : ByteArray} {w : World} (h : DN g k v l r w) (x : ByteArray) : DN g k v l x (w.setCell ⟨g, 3, none⟩ (.string x)) := heap_setCell_same w g 3 _ 24 _ h
theorem DN.other {g h i : Nat} {k v l r : ByteArray} {x : Value} {w : World} (hd : DN g k v l r w) (hne : g ≠ h) : DN g k v l r (w.setCell ⟨h, i, none⟩ x) := (heap_setCell_other w ⟨h, i, none⟩ g x hne).trans hd
theorem DN.fr {g j : Nat} {k v l r : ByteArray} {w : World} (h : DN g k v l r w) : w.frozen? ⟨g, j, none⟩ = false := by rw [World.frozen?, show w.heap[g]? = _ from h]; rfl
structure DNc (g : Nat) (k v l r : ByteArray) (w : World) : Prop where
  c0 : w.cell? ⟨g, 0, none⟩ = some (.string k)
  c1 : w.cell? ⟨g, 1, none⟩ = some (.string v)
  c2 : w.cell? ⟨g, 2, none⟩ = some (.string l)
  c3 : w.cell? ⟨g, 3, none⟩ = some (.string r)
  f0 : w.frozen? ⟨g, 0, none⟩ = false
  f1 : w.frozen? ⟨g, 1, none⟩ = false
  f2 : w.frozen? ⟨g, 2, none⟩ = false
  f3 : w.frozen? ⟨g, 3, none⟩ = false
theorem DN.at {g : Nat} {k v l r : ByteArray} {w : World} (h : DN g k v l r w) : DNc g k v l r w :=
  ⟨Lib.cell_of_heap h 0, Lib.cell_of_heap h 1, Lib.cell_of_heap h 2, Lib.cell_of_heap h 3, h.fr, h.fr, h.fr, h.fr⟩
/-- What stands while a node is drawn. -/
structure DS (w : World) (fb gb : Nat) (k v l r : ByteArray) (W : World) : Prop where
  sz : w.heap.size = fb
  lt : fb < gb
  bl : Below fb w W
  rb : DN fb ⟨#[]⟩ ⟨#[]⟩ ⟨#[]⟩ ⟨#[]⟩ W
  nb : DN gb k v l r W
theorem DS.below {w : World} {fb gb : Nat} {k v l r : ByteArray} {W W' : World} (h : DS w fb gb k v l r W) (hb : Below W.heap.size W W') : DS w fb gb k v l r W' :=
  ⟨h.sz, h.lt, h.bl.trans (hb.mono (by have := h.bl.size; have := h.sz; omega)), h.rb.below hb, h.nb.below hb⟩
theorem DS.s0 {w : World} {fb gb : Nat} {k v l r : ByteArray} {W : World} (h : DS w fb gb k v l r W) (x : ByteArray) : DS w fb gb x v l r (W.setCell ⟨gb, 0, none⟩ (.string x)) :=
  ⟨h.sz, h.lt, h.bl.setCell (Nat.le_of_lt h.lt) _, h.rb.other (Nat.ne_of_lt h.lt), h.nb.s0 x⟩
theorem DS.s1 {w : World} {fb gb : Nat} {k v l r : ByteArray} {W : World} (h : DS w fb gb k v l r W) (x : ByteArray) : DS w fb gb k x l r (W.setCell ⟨gb, 1, none⟩ (.string x)) :=
  ⟨h.sz, h.lt, h.bl.setCell (Nat.le_of_lt h.lt) _, h.rb.other (Nat.ne_of_lt h.lt), h.nb.s1 x⟩
theorem DS.s2 {w : World} {fb gb : Nat} {k v l r : ByteArray} {W : World} (h : DS w fb gb k v l r W) (x : ByteArray) : DS w fb gb k v x r (W.setCell ⟨gb, 2, none⟩ (.string x)) :=
  ⟨h.sz, h.lt, h.bl.setCell (Nat.le_of_lt h.lt) _, h.rb.other (Nat.ne_of_lt h.lt), h.nb.s2 x⟩
theorem DS.s3 {w : World} {fb gb : Nat} {k v l r : ByteArray} {W : World} (h : DS w fb gb k v l r W) (x : ByteArray) : DS w fb gb k v l x (W.setCell ⟨gb, 3, none⟩ (.string x)) :=
  ⟨h.sz, h.lt, h.bl.setCell (Nat.le_of_lt h.lt) _, h.rb.other (Nat.ne_of_lt h.lt), h.nb.s3 x⟩
theorem DS.all {w : World} {fb gb : Nat} {k v l r : ByteArray} {W : World} (h : DS w fb gb k v l r W) (x y z u : ByteArray) : DS w fb gb x y z u ((((W.setCell ⟨gb, 0, none⟩ (.string x)).setCell ⟨gb, 1, none⟩ (.string y)).setCell ⟨gb, 2, none⟩ (.string z)).setCell ⟨gb, 3, none⟩ (.string u)) := (((h.s0 x).s1 y).s2 z).s3 u

set_option maxRecDepth 100000 in
set_option maxHeartbeats 1000000 in
theorem drawNode_any (HD : Hid DigSaid) (a : Option Addr) (n : Nat) (cap : Nat) (p k : Nat) (w : World) (h : BArg a n w) (hp : p ≤ 80000) (h1 : 1 ≤ k) (h2 : k ≤ 32) :
    Calls Tryz.prog 18 #[.slice a n cap, .int .i64 (p : Int), .int .i64 (k : Int)] w fun e w' => ∃ (ke va le ri : ByteArray) (y : Int), ke.size ≤ 3000 ∧ va.size ≤ 3000 ∧ le.size ≤ 3000 ∧ ri.size ≤ 3000 ∧ e = .returned (.tuple #[.agg #[.string ke, .string va, .string le, .string ri], .int .i64 y]) ∧ Below w.heap.size w w' := by
  have HT : Hid (∀ w1, BArg a n w1 → Calls Tryz.prog 16 #[.slice a n cap, .int .i64 (p : Int), .int .i64 18] w1 fun e w' => ∃ x : Nat, x < 18 ∧ e = .returned (.tuple #[.int .i64 (x : Int), .int .i64 ((p + 1 : Nat) : Int)]) ∧ Below w1.heap.size w1 w') := fun w1 h1 => take_any a n cap p 18 w1 h1 (by omega) (by omega) (by omega)
  have HK : Hid (∀ w1, BArg a n w1 → Calls Tryz.prog 37 #[.slice a n cap, .int .i64 ((p + 1 : Nat) : Int)] w1 fun e w' => ∃ t : ByteArray, t.size ≤ 70 ∧ e = .returned (.tuple #[.string t, .int .i64 ((p + 2 : Nat) : Int)]) ∧ Below w1.heap.size w1 w') := fun w1 h1 => drawKey_any a n cap (p + 1) w1 h1 (by omega)
  have HV : Hid (∀ w1, BArg a n w1 → Calls Tryz.prog 38 #[.slice a n cap, .int .i64 ((p + 2 : Nat) : Int)] w1 fun e w' => ∃ t : ByteArray, t.size ≤ 300 ∧ e = .returned (.tuple #[.string t, .int .i64 ((p + 4 : Nat) : Int)]) ∧ Below w1.heap.size w1 w') := fun w1 h1 => drawVal_any a n cap (p + 2) w1 h1 (by omega)
  have HL : Hid (∀ w1, BArg a n w1 → Calls Tryz.prog 19 #[.slice a n cap, .int .i64 ((p + 4 : Nat) : Int), .int .i64 (k : Int)] w1 fun e w' => ∃ t : ByteArray, t.size ≤ 32 ∧ e = .returned (.tuple #[.string t, .int .i64 ((p + 5 : Nat) : Int)]) ∧ Below w1.heap.size w1 w') := fun w1 hh => drawHash_any HD a n cap (p + 4) k w1 hh (by omega) h1 h2
  have HR : Hid (∀ w1, BArg a n w1 → Calls Tryz.prog 19 #[.slice a n cap, .int .i64 ((p + 5 : Nat) : Int), .int .i64 (k : Int)] w1 fun e w' => ∃ t : ByteArray, t.size ≤ 32 ∧ e = .returned (.tuple #[.string t, .int .i64 ((p + 6 : Nat) : Int)]) ∧ Below w1.heap.size w1 w') := fun w1 hh => drawHash_any HD a n cap (p + 5) k w1 hh (by omega) h1 h2
  obtain ⟨p1, hp1⟩ : ∃ p1, p + 1 = p1 := ⟨_, rfl⟩
  obtain ⟨p2, hp2⟩ : ∃ p1, p + 2 = p1 := ⟨_, rfl⟩
  obtain ⟨p4, hp4⟩ : ∃ p1, p + 4 = p1 := ⟨_, rfl⟩
  obtain ⟨p5, hp5⟩ : ∃ p1, p + 5 = p1 := ⟨_, rfl⟩
  obtain ⟨p6, hp6⟩ : ∃ p1, p + 6 = p1 := ⟨_, rfl⟩
  rw [hp1] at HT HK
  rw [hp2] at HK HV
  rw [hp4] at HV HL
  rw [hp5] at HL HR
  rw [hp6] at HR
  clear hp1 hp2 hp4 hp5 hp6
  go_enter Tryz.func18, Tryz.ntmps18
  obtain ⟨fb, hfb⟩ : ∃ fb, w.heap.size = fb := ⟨_, rfl⟩
  go_wp2_with fail
  refine (HT.out _ (h.below ((Below.refl _ w).alloc (Nat.le_refl _) _))).mono ?_
  rintro e w1 ⟨x, hx, rfl, hb1⟩
  obtain ⟨gb, hgb⟩ : ∃ gb, w1.heap.size = gb := ⟨_, rfl⟩
  have hB1 : Below w.heap.size w w1 := ((Below.refl _ w).alloc (Nat.le_refl _) _).trans (hb1.mono (by simp))
  have hS2 : DS w fb gb ⟨#[]⟩ ⟨#[]⟩ ⟨#[]⟩ ⟨#[]⟩ (w1.alloc (.cells #[.string ⟨#[]⟩, .string ⟨#[]⟩, .string ⟨#[]⟩, .string ⟨#[]⟩] 24)) := by
    have hz := hb1.size
    simp at hz
    refine ⟨hfb, by omega, ?_, ?_, ?_⟩
    · rw [← hfb]; exact hB1.alloc hB1.size _
    · refine DN.below ?_ ((Below.refl _ _).alloc (Nat.le_refl _) _)
      refine DN.below ?_ hb1
      unfold DN; rw [← hfb]; exact heap_alloc_new _ _
    · unfold DN; rw [← hgb]; exact heap_alloc_new _ _
  have hA2 : BArg a n (w1.alloc (.cells #[.string ⟨#[]⟩, .string ⟨#[]⟩, .string ⟨#[]⟩, .string ⟨#[]⟩] 24)) := h.below (hB1.alloc hB1.size _)
  clear hb1
  go_wp2_with fail
  refine (HK.out _ hA2).mono ?_
  rintro e w3 ⟨ke, hke, rfl, hb3⟩
  have hS3 := hS2.below hb3
  have hA3 := hA2.below hb3
  clear hS2 hA2 hb3 hB1
  go_wp2_with fail
  refine (HV.out _ hA3).mono ?_
  rintro e w4 ⟨va, hva, rfl, hb4⟩
  have hS4 := hS3.below hb4
  have hA4 := hA3.below hb4
  clear hS3 hA3 hb4
  go_wp2_with fail
  refine (HL.out _ hA4).mono ?_
  rintro e w5 ⟨le, hle, rfl, hb5⟩
  have hS5 := hS4.below hb5
  have hA5 := hA4.below hb5
  clear hS4 hA4 hb5
  go_wp2_with fail
  refine (HR.out _ hA5).mono ?_
  rintro e w6 ⟨ri, hri, rfl, hb6⟩
  have hS6 := hS5.below hb6
  clear hS5 hA5 hb6 HT HK HV HL HR h
  obtain ⟨c0, c1, c2, c3, f0, f1, f2, f3⟩ := hS6.nb.at
  obtain ⟨w7, hw7⟩ : ∃ w7, w7 = (((w6.setCell ⟨gb, 0, none⟩ (.string ke)).setCell ⟨gb, 1, none⟩ (.string va)).setCell ⟨gb, 2, none⟩ (.string le)).setCell ⟨gb, 3, none⟩ (.string ri) := ⟨_, rfl⟩
  have hS7 : DS w fb gb ke va le ri w7 := by rw [hw7]; exact hS6.all _ _ _ _
  go_upto_region 9 with fail
  rw [← hw7]
  clear hw7 hS6 c0 c1 c2 c3 f0 f1 f2 f3
  obtain ⟨c0, c1, c2, c3, f0, f1, f2, f3⟩ := hS7.nb.at
  have HEnd : Hid (∀ (W : World) (ke va le ri : ByteArray), DS w fb gb ke va le ri W → ke.size ≤ 3000 → va.size ≤ 3000 → le.size ≤ 3000 → ri.size ≤ 3000 → ∀ (A : Act) (y : Int), A.tmps.getD 6 undef = .pointer (some ⟨fb, 0, none⟩) → A.tmps.getD 7 undef = .int .i64 y → A.defers = [] →
      bodyPost Tryz.prog Tryz.f18 (fun e w' => ∃ (ke va le ri : ByteArray) (y : Int), ke.size ≤ 3000 ∧ va.size ≤ 3000 ∧ le.size ≤ 3000 ∧ ri.size ≤ 3000 ∧ e = .returned (.tuple #[.agg #[.string ke, .string va, .string le, .string ri], .int .i64 y]) ∧ Below w.heap.size w w') .ret A
        ((((W.setCell ⟨fb, 0, none⟩ (.string ke)).setCell ⟨fb, 1, none⟩ (.string va)).setCell ⟨fb, 2, none⟩ (.string le)).setCell ⟨fb, 3, none⟩ (.string ri))) := by
    intro W ke va le ri hS k1 k2 k3 k4 A y h6 h7 hd
    have hN : DN fb ke va le ri ((((W.setCell ⟨fb, 0, none⟩ (.string ke)).setCell ⟨fb, 1, none⟩ (.string va)).setCell ⟨fb, 2, none⟩ (.string le)).setCell ⟨fb, 3, none⟩ (.string ri)) := (((hS.rb.s0 _).s1 _).s2 _).s3 _
    obtain ⟨c0, c1, c2, c3, _, _, _, _⟩ := hN.at
    have h6' : A.tmps[6]?.getD undef = .pointer (some ⟨fb, 0, none⟩) := by simpa using h6
    have h7' : A.tmps[7]?.getD undef = .int .i64 y := by simpa using h7
    refine bodyPost_ret (v := .tuple #[.agg #[.string ke, .string va, .string le, .string ri], .int .i64 y]) (by simp [results, Tryz.results18, go_sem, h6', h7', asAddr, c0, c1, c2, c3]) hd ⟨ke, va, le, ri, y, k1, k2, k3, k4, rfl, ?_⟩
    rw [hfb]
    exact (((hS.bl.setCell (Nat.le_refl _) _).setCell (Nat.le_refl _) _).setCell (Nat.le_refl _) _).setCell (Nat.le_refl _) _
  obtain ⟨r0, r1, r2, r3, e0, e1, e2, e3⟩ := hS7.rb.at
  by_cases x15 : x = 15
  · subst x15
    go_wp2_with fail
    refine (long_b _ _ (by omega) (by omega) _).mono ?_
    rintro e w8 ⟨t, rfl, ht, hb8⟩
    have hS8 := hS7.below hb8
    have kt : t.size ≤ 3000 := by omega
    clear ht hb8 hS7 c0 c1 c2 c3 f0 f1 f2 f3 r0 r1 r2 r3 e0 e1 e2 e3
    obtain ⟨c0, c1, c2, c3, f0, f1, f2, f3⟩ := hS8.nb.at
    go_upto_region 15 with fail
    have hS9 := hS8.s0 t
    generalize w8.setCell ⟨gb, 0, none⟩ (.string t) = w9 at hS9 ⊢
    clear hS8 c0 c1 c2 c3 f0 f1 f2 f3
    obtain ⟨c0, c1, c2, c3, f0, f1, f2, f3⟩ := hS9.nb.at
    obtain ⟨r0, r1, r2, r3, e0, e1, e2, e3⟩ := hS9.rb.at
    go_wp2_with fail
    exact HEnd.out _ _ _ _ _ hS9 kt (by omega) (by omega) (by omega) _ _ rfl rfl rfl
  have z1 : ((x : Int) == 15) = false := by rw [beq_eq_false_iff_ne]; omega
  by_cases x16 : x = 16
  · subst x16
    go_wp2_with fail
    refine (long_b _ _ (by omega) (by omega) _).mono ?_
    rintro e w8 ⟨t, rfl, ht, hb8⟩
    have hS8 := hS7.below hb8
    have kt : t.size ≤ 3000 := by omega
    clear ht hb8 hS7 c0 c1 c2 c3 f0 f1 f2 f3 r0 r1 r2 r3 e0 e1 e2 e3
    obtain ⟨c0, c1, c2, c3, f0, f1, f2, f3⟩ := hS8.nb.at
    go_upto_region 15 with fail
    have hS9 := hS8.s1 t
    generalize w8.setCell ⟨gb, 1, none⟩ (.string t) = w9 at hS9 ⊢
    clear hS8 c0 c1 c2 c3 f0 f1 f2 f3
    obtain ⟨c0, c1, c2, c3, f0, f1, f2, f3⟩ := hS9.nb.at
    obtain ⟨r0, r1, r2, r3, e0, e1, e2, e3⟩ := hS9.rb.at
    go_wp2_with fail
    exact HEnd.out _ _ _ _ _ hS9 (by omega) kt (by omega) (by omega) _ _ rfl rfl rfl
  have z2 : ((x : Int) == 16) = false := by rw [beq_eq_false_iff_ne]; omega
  by_cases x17 : x = 17
  · subst x17
    have f9 : ¬ (9223372036854775807 < le.size + 1) := by omega
    go_upto_region 15 with fail
    have hS9 := hS7.s2 (le ++ ⟨#[120]⟩)
    have kt : (le ++ ⟨#[120]⟩ : ByteArray).size ≤ 3000 := by rw [ByteArray.size_append]; show le.size + 1 ≤ 3000; omega
    generalize le ++ (⟨#[120]⟩ : ByteArray) = l2 at hS9 kt ⊢
    generalize w7.setCell ⟨gb, 2, none⟩ (.string l2) = w9 at hS9 ⊢
    clear hS7 c0 c1 c2 c3 f0 f1 f2 f3 r0 r1 r2 r3 e0 e1 e2 e3
    obtain ⟨c0, c1, c2, c3, f0, f1, f2, f3⟩ := hS9.nb.at
    obtain ⟨r0, r1, r2, r3, e0, e1, e2, e3⟩ := hS9.rb.at
    go_wp2_with fail
    exact HEnd.out _ _ _ _ _ hS9 (by omega) (by omega) kt (by omega) _ _ rfl rfl rfl
  have z3 : ((x : Int) == 17) = false := by rw [beq_eq_false_iff_ne]; omega
  go_wp2_with fail
  exact HEnd.out _ _ _ _ _ hS7 (by omega) (by omega) (by omega) (by omega) _ _ rfl rfl rfl
end Go.Proofs.YtngnbflkiiehmaaGreatDoor
namespace Go.Proofs.YtngnbflkiiehmaaGreatDoor
open Go.RowKit Go.Proofs.Sha

set_option maxRecDepth 100000 in
theorem pick_any (a : Option Addr) (n : Nat) (cap : Nat) (i : Nat) (w : World) (h : BArg a n w) (hi : i ≤ 1000) :
    Calls Tryz.prog 15 #[.slice a n cap, .int .i64 (i : Int)] w fun e w' => ∃ x : Nat, x ≤ 1000 ∧ e = .returned (.int .i64 (x : Int)) ∧ Below w.heap.size w w' := by
  by_cases h0 : n = 0
  · subst h0
    go_enter Tryz.func15, Tryz.ntmps15
    go_wp2_with fail
    go_ret
    exact ⟨i, hi, rfl, Below.refl _ _⟩
  · obtain ⟨b, off, rfl, hlt, hc⟩ := h.at_ (by omega)
    have hn := h.le
    have z1 : ((n : Int) == 0) = false := by rw [beq_eq_false_iff_ne]; omega
    obtain ⟨i1, hi1⟩ : ∃ j, i % n = j := ⟨_, rfl⟩
    have l1 : i1 < n := by rw [← hi1]; exact Nat.mod_lt _ (by omega)
    obtain ⟨x, hx, hcx⟩ := hc i1 l1
    have u1 : (i : Int) % (n : Int) = (i1 : Int) := by rw [← hi1]; rfl
    clear hi1
    go_enter Tryz.func15, Tryz.ntmps15
    go_wp2_with fail
    go_ret
    exact ⟨x, by omega, rfl, Below.refl _ _⟩

set_option maxRecDepth 100000 in
set_option maxHeartbeats 1000000 in
theorem drawCommit_any (HD : Hid DigSaid) (a : Option Addr) (n : Nat) (cap : Nat) (w : World) (h : BArg a n w) :
    Calls Tryz.prog 5 #[.slice a n cap] w fun e w' => ∃ (v : Nat) (root : ByteArray), v ≤ 1000001 ∧ root.size ≤ 33 ∧ e = .returned (.tuple #[.int .i64 (v : Int), .string root]) ∧ Below w.heap.size w w' := by
  have HT : Hid (Calls Tryz.prog 16 #[.slice a n cap, .int .i64 0, .int .i64 16] w fun e w' => ∃ x : Nat, x < 16 ∧ e = .returned (.tuple #[.int .i64 (x : Int), .int .i64 1]) ∧ Below w.heap.size w w') := take_any a n cap 0 16 w h (by omega) (by omega) (by omega)
  have HW : Hid (∀ w1, BArg a n w1 → Calls Tryz.prog 17 #[.slice a n cap, .int .i64 1] w1 fun e w' => ∃ x : Nat, 1 ≤ x ∧ x ≤ 32 ∧ e = .returned (.tuple #[.int .i64 (x : Int), .int .i64 2]) ∧ Below w1.heap.size w1 w') := fun w1 h1 => drawWidth_any a n cap 1 w1 h1 (by omega)
  have HH : Hid (∀ (k : Nat) w1, 1 ≤ k → k ≤ 32 → BArg a n w1 → Calls Tryz.prog 19 #[.slice a n cap, .int .i64 2, .int .i64 (k : Int)] w1 fun e w' => ∃ t : ByteArray, t.size ≤ 32 ∧ e = .returned (.tuple #[.string t, .int .i64 3]) ∧ Below w1.heap.size w1 w') := fun k w1 k1 k2 h1 => drawHash_any HD a n cap 2 k w1 h1 (by omega) k1 k2
  have HV : Hid (∀ w1, BArg a n w1 → Calls Tryz.prog 16 #[.slice a n cap, .int .i64 3, .int .i64 300] w1 fun e w' => ∃ x : Nat, x < 300 ∧ e = .returned (.tuple #[.int .i64 (x : Int), .int .i64 4]) ∧ Below w1.heap.size w1 w') := fun w1 h1 => take_any a n cap 3 300 w1 h1 (by omega) (by omega) (by omega)
  go_enter Tryz.func5, Tryz.ntmps5
  go_wp2_with fail
  refine HT.out.mono ?_
  rintro e w1 ⟨x, hx, rfl, hb1⟩
  have hA1 := h.below hb1
  go_wp2_with fail
  refine (HW.out _ hA1).mono ?_
  rintro e w2 ⟨k, k1, k2, rfl, hb2⟩
  have hA2 := hA1.below hb2
  have hB2 := hb1.trans (hb2.mono hb1.size)
  clear hb1 hb2 hA1
  go_wp2_with fail
  refine (HH.out k _ k1 k2 hA2).mono ?_
  rintro e w3 ⟨root, hr, rfl, hb3⟩
  have hA3 := hA2.below hb3
  have hB3 := hB2.trans (hb3.mono hB2.size)
  clear hb3 hB2 hA2
  go_wp2_with fail
  refine (HV.out _ hA3).mono ?_
  rintro e w4 ⟨v, hv, rfl, hb4⟩
  have hB4 := hB3.trans (hb4.mono hB3.size)
  clear hb4 hB3 hA3 HT HW HH HV
  by_cases x13 : x = 13
  · subst x13
    go_wp2_with fail
    go_ret2
    exact ⟨1000001, root, by omega, by omega, rfl, hB4⟩
  have z1 : ((x : Int) == 13) = false := by rw [beq_eq_false_iff_ne]; omega
  by_cases x14 : x = 14
  · subst x14
    go_wp2_with fail
    go_ret2
    exact ⟨0, root, by omega, by omega, rfl, hB4⟩
  have z2 : ((x : Int) == 14) = false := by rw [beq_eq_false_iff_ne]; omega
  by_cases x15 : x = 15
  · subst x15
    go_wp2_with fail
    refine (long_b _ _ (by omega) (by omega) _).mono ?_
    rintro e w5 ⟨t, rfl, ht, hb5⟩
    have hB5 := hB4.trans (hb5.mono hB4.size)
    go_wp2_with fail
    go_ret2
    exact ⟨v + 1, t, by omega, by omega, rfl, hB5⟩
  have z3 : ((x : Int) == 15) = false := by rw [beq_eq_false_iff_ne]; omega
  have hvv : v * v ≤ 299 * 299 := Nat.mul_le_mul (by omega) (by omega)
  have u1 : IntKind.i64.wrap ((v : Int) * (v : Int)) = ((v * v : Nat) : Int) := by
    rw [wrap_i64_in _ (by rw [← Int.natCast_mul]; omega) (by rw [← Int.natCast_mul]; omega)]; rw [Int.natCast_mul]
  obtain ⟨vv, hvv2⟩ : ∃ vv, v * v = vv := ⟨_, rfl⟩
  rw [hvv2] at u1 hvv
  go_wp2_with fail
  go_ret2
  exact ⟨vv + 1, root, by omega, by omega, rfl, hB4⟩

set_option maxRecDepth 100000 in
set_option maxHeartbeats 1000000 in
theorem drawEnc_any (HD : Hid DigSaid) (a : Option Addr) (n : Nat) (cap : Nat) (w : World) (h : BArg a n w) :
    Calls Tryz.prog 4 #[.slice a n cap] w fun e w' => ∃ (ke va le ri : ByteArray) (k : Nat), ke.size ≤ 3000 ∧ va.size ≤ 3000 ∧ le.size ≤ 3000 ∧ ri.size ≤ 3000 ∧ k ≤ 33 ∧ e = .returned (.tuple #[.agg #[.string ke, .string va, .string le, .string ri], .int .i64 (k : Int)]) ∧ Below w.heap.size w w' := by
  have HT : Hid (∀ w1, BArg a n w1 → Calls Tryz.prog 16 #[.slice a n cap, .int .i64 0, .int .i64 16] w1 fun e w' => ∃ x : Nat, x < 16 ∧ e = .returned (.tuple #[.int .i64 (x : Int), .int .i64 1]) ∧ Below w1.heap.size w1 w') := fun w1 h1 => take_any a n cap 0 16 w1 h1 (by omega) (by omega) (by omega)
  have HW : Hid (∀ w1, BArg a n w1 → Calls Tryz.prog 17 #[.slice a n cap, .int .i64 1] w1 fun e w' => ∃ x : Nat, 1 ≤ x ∧ x ≤ 32 ∧ e = .returned (.tuple #[.int .i64 (x : Int), .int .i64 2]) ∧ Below w1.heap.size w1 w') := fun w1 h1 => drawWidth_any a n cap 1 w1 h1 (by omega)
  have HNd : Hid (∀ (k : Nat) w1, 1 ≤ k → k ≤ 32 → BArg a n w1 → Calls Tryz.prog 18 #[.slice a n cap, .int .i64 2, .int .i64 (k : Int)] w1 fun e w' => ∃ (ke va le ri : ByteArray) (y : Int), ke.size ≤ 3000 ∧ va.size ≤ 3000 ∧ le.size ≤ 3000 ∧ ri.size ≤ 3000 ∧ e = .returned (.tuple #[.agg #[.string ke, .string va, .string le, .string ri], .int .i64 y]) ∧ Below w1.heap.size w1 w') := fun k w1 k1 k2 h1 => drawNode_any HD a n cap 2 k w1 h1 (by omega) k1 k2
  obtain ⟨fb, hfb⟩ : ∃ fb, w.heap.size = fb := ⟨_, rfl⟩
  go_enter Tryz.func4, Tryz.ntmps4
  go_wp2_with fail
  refine (HT.out _ (h.below ((Below.refl _ w).alloc (Nat.le_refl _) _))).mono ?_
  rintro e w1 ⟨x, hx, rfl, hb1⟩
  have hR1 : DN fb ⟨#[]⟩ ⟨#[]⟩ ⟨#[]⟩ ⟨#[]⟩ w1 := DN.below (by unfold DN; rw [← hfb]; exact heap_alloc_new _ _) hb1
  have hB1 : Below w.heap.size w w1 := ((Below.refl _ w).alloc (Nat.le_refl _) _).trans (hb1.mono (by simp))
  have hA1 := h.below hB1
  clear hb1
  go_wp2_with fail
  refine (HW.out _ hA1).mono ?_
  rintro e w2 ⟨k, k1, k2, rfl, hb2⟩
  have hA2 := hA1.below hb2
  have hB2 := hB1.trans (hb2.mono hB1.size)
  have hR2 := hR1.below hb2
  clear hb2 hA1 hB1 hR1
  go_wp2_with fail
  refine (HNd.out k _ k1 k2 hA2).mono ?_
  rintro e w3 ⟨ke, va, le, ri, y, q1, q2, q3, q4, rfl, hb3⟩
  have hB3 := hB2.trans (hb3.mono hB2.size)
  have hR3 := hR2.below hb3
  clear hb3 hA2 hB2 hR2 HT HW HNd
  obtain ⟨gb, hgb⟩ : ∃ gb, w3.heap.size = gb := ⟨_, rfl⟩
  have hlt : fb < gb := by rw [← hgb]; exact (Array.getElem?_eq_some_iff.1 hR3).1
  have hS4 : DS w fb gb ke va le ri (w3.alloc (.cells #[.string ke, .string va, .string le, .string ri] 24)) :=
    ⟨hfb, hlt, by rw [← hfb]; exact hB3.alloc hB3.size _, hR3.below ((Below.refl _ _).alloc (Nat.le_refl _) _), by unfold DN; rw [← hgb]; exact heap_alloc_new _ _⟩
  have B1 : ∀ o, DN fb ⟨#[]⟩ ⟨#[]⟩ ⟨#[]⟩ ⟨#[]⟩ (w3.alloc o) := fun o => hR3.below ((Below.refl _ _).alloc (Nat.le_refl _) _)
  have r0 : ∀ o, (w3.alloc o).cell? ⟨fb, 0, none⟩ = some (.string ⟨#[]⟩) := fun o => Lib.cell_of_heap (B1 o) 0
  have e0 : ∀ o, (w3.alloc o).frozen? ⟨fb, 0, none⟩ = false := fun o => (B1 o).fr
  have r1 : ∀ o, (w3.alloc o).cell? ⟨fb, 1, none⟩ = some (.string ⟨#[]⟩) := fun o => Lib.cell_of_heap (B1 o) 1
  have e1 : ∀ o, (w3.alloc o).frozen? ⟨fb, 1, none⟩ = false := fun o => (B1 o).fr
  have r2 : ∀ o, (w3.alloc o).cell? ⟨fb, 2, none⟩ = some (.string ⟨#[]⟩) := fun o => Lib.cell_of_heap (B1 o) 2
  have e2 : ∀ o, (w3.alloc o).frozen? ⟨fb, 2, none⟩ = false := fun o => (B1 o).fr
  have r3 : ∀ o, (w3.alloc o).cell? ⟨fb, 3, none⟩ = some (.string ⟨#[]⟩) := fun o => Lib.cell_of_heap (B1 o) 3
  have e3 : ∀ o, (w3.alloc o).frozen? ⟨fb, 3, none⟩ = false := fun o => (B1 o).fr
  clear B1 hlt
  have HEnd : Hid (∀ (W : World), DS w fb gb ke va le ri W → ∀ (A : Act) (k : Nat), k ≤ 33 → A.tmps.getD 2 undef = .pointer (some ⟨fb, 0, none⟩) → A.tmps.getD 3 undef = .int .i64 (k : Int) → A.defers = [] →
      bodyPost Tryz.prog Tryz.f4 (fun e w' => ∃ (ke va le ri : ByteArray) (k : Nat), ke.size ≤ 3000 ∧ va.size ≤ 3000 ∧ le.size ≤ 3000 ∧ ri.size ≤ 3000 ∧ k ≤ 33 ∧ e = .returned (.tuple #[.agg #[.string ke, .string va, .string le, .string ri], .int .i64 (k : Int)]) ∧ Below w.heap.size w w') .ret A
        ((((W.setCell ⟨fb, 0, none⟩ (.string ke)).setCell ⟨fb, 1, none⟩ (.string va)).setCell ⟨fb, 2, none⟩ (.string le)).setCell ⟨fb, 3, none⟩ (.string ri))) := by
    intro W hS A k hk h6 h7 hd
    have hN : DN fb ke va le ri ((((W.setCell ⟨fb, 0, none⟩ (.string ke)).setCell ⟨fb, 1, none⟩ (.string va)).setCell ⟨fb, 2, none⟩ (.string le)).setCell ⟨fb, 3, none⟩ (.string ri)) := (((hS.rb.s0 _).s1 _).s2 _).s3 _
    obtain ⟨c0, c1, c2, c3, _, _, _, _⟩ := hN.at
    have h6' : A.tmps[2]?.getD undef = .pointer (some ⟨fb, 0, none⟩) := by simpa using h6
    have h7' : A.tmps[3]?.getD undef = .int .i64 (k : Int) := by simpa using h7
    refine bodyPost_ret (v := .tuple #[.agg #[.string ke, .string va, .string le, .string ri], .int .i64 (k : Int)]) (by simp [results, Tryz.results4, go_sem, h6', h7', asAddr, c0, c1, c2, c3]) hd ⟨ke, va, le, ri, k, q1, q2, q3, q4, hk, rfl, ?_⟩
    rw [hfb]
    exact (((hS.bl.setCell (Nat.le_refl _) _).setCell (Nat.le_refl _) _).setCell (Nat.le_refl _) _).setCell (Nat.le_refl _) _
  by_cases x14 : x = 14
  · subst x14
    go_wp2_with fail
    exact HEnd.out _ hS4 _ 0 (by omega) rfl rfl rfl
  have z2 : ((x : Int) == 14) = false := by rw [beq_eq_false_iff_ne]; omega
  by_cases x15 : x = 15
  · subst x15
    go_wp2_with fail
    exact HEnd.out _ hS4 _ 33 (by omega) rfl rfl rfl
  have z3 : ((x : Int) == 15) = false := by rw [beq_eq_false_iff_ne]; omega
  go_wp2_with fail
  exact HEnd.out _ hS4 _ k (by omega) rfl rfl rfl
end Go.Proofs.YtngnbflkiiehmaaGreatDoor
