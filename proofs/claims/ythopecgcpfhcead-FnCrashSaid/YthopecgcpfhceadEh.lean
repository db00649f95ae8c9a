import Derived.Test.YthopecgcpfhceadEg
namespace Go.Proofs.Ythopecgcpfhcead
open Go.RowKit Go.Proofs.Sha

/-- 63 bytes from a place on, zeros behind the end. -/
def part63 (s : List UInt8) (a : Nat) : List UInt8 := (s.drop a).take 63 ++ List.replicate (63 - (s.length - a)) 0
theorem part63_length (s : List UInt8) (a : Nat) : (part63 s a).length = 63 := by
  unfold part63; rw [List.length_append, List.length_take, List.length_drop, List.length_replicate]; omega
/-- The first q sectors. -/
def markedTo (s f m : List UInt8) : Nat → List UInt8
  | 0 => []
  | q + 1 => markedTo s f m q ++ part63 s (63 * q) ++ (if q = 0 then f else m)
theorem markedTo_length (s f m : List UInt8) (hf : f.length ≤ 1) (hm : m.length ≤ 1) (q : Nat) : (markedTo s f m q).length ≤ 64 * q := by
  induction q with
  | zero => exact Nat.le_refl _
  | succ q ih =>
    rw [markedTo, List.length_append, List.length_append, part63_length]
    split <;> omega
def marked (s f m : List UInt8) : List UInt8 := markedTo s f m ((s.length + 62) / 63)

theorem full_part (s : ByteArray) (a : Nat) (h : a + 63 ≤ s.size) : s.extract a (a + 63) = T (part63 s.data.toList a) := by
  conv => lhs; rw [← T_of s, T_extract]
  have e : 63 - (s.data.toList.length - a) = 0 := by show 63 - (s.size - a) = 0; omega
  unfold part63
  rw [e, List.replicate_zero, List.append_nil, Nat.add_sub_cancel_left]
theorem last_part (s : ByteArray) (a n : Nat) (h : s.size < a + 63) (ha : a ≤ s.size) (hn : n = a + 63 - s.size) : s.extract a s.size ++ reps n 0 = T (part63 s.data.toList a) := by
  conv => lhs; rw [← T_of s, T_extract]
  unfold part63 reps
  rw [T_append]
  have e : 63 - (s.data.toList.length - a) = n := by show 63 - (s.size - a) = n; omega
  rw [e, List.take_of_length_le (by rw [List.length_drop, T_size]; exact Nat.le_refl _), List.take_of_length_le (by rw [List.length_drop]; show s.size - a ≤ 63; omega)]

theorem next_sector {s f m x p y : ByteArray} {q a : Nat} (ha : 63 * q = a) (hx : x = T (markedTo s.data.toList f.data.toList m.data.toList q)) (hp : p = T (part63 s.data.toList a)) (hy : y = if q = 0 then f else m) :
    x ++ p ++ y = T (markedTo s.data.toList f.data.toList m.data.toList (q + 1)) := by
  rw [hx, hp, markedTo, ← T_append, ← T_append, ha, hy]
  congr 1
  split
  · exact (T_of f).symm
  · exact (T_of m).symm

set_option maxRecDepth 100000 in
set_option maxHeartbeats 1000000 in
theorem marked_any (s f m : ByteArray) (w : World) (hs : s.size ≤ 1000000) (hf : f.size ≤ 1) (hm : m.size ≤ 1) :
    Calls Try.prog 70 #[.string s, .string f, .string m] w fun e w' => ∃ t : ByteArray, e = .returned (.string t) ∧ Hid (t = T (marked s.data.toList f.data.toList m.data.toList)) ∧ Below w.heap.size w w' := by
  have HL := markedTo_length s.data.toList f.data.toList m.data.toList hf hm
  go_enter Try.func70, Try.ntmps70
  go_wp2_with fail
  go_loopw [7, 8] (fun t7 t8 wr => ∃ (q : Nat) (x : ByteArray), q ≤ (s.size + 62) / 63 ∧ t7 = .string x ∧ t8 = .int .i64 ((63 * q : Nat) : Int) ∧ x.size ≤ 64 * q ∧ Hid (x = T (markedTo s.data.toList f.data.toList m.data.toList q)) ∧ Below w.heap.size w wr) (fun _ t8 _ => s.size + 63 - (intOf t8).toNat)
  case atStart => exact ⟨0, ⟨#[]⟩, by omega, rfl, rfl, Nat.le_refl _, rfl, Below.refl _ _⟩
  case round =>
    obtain ⟨q, x, hq, rfl, rfl, hx, HX, hb⟩ := hrel
    obtain ⟨a, ha⟩ : ∃ a, 63 * q = a := ⟨_, rfl⟩
    rw [ha]
    by_cases h1 : a < s.size
    · have z1 : decide ((a : Int) < (s.size : Int)) = true := by simp; omega
      have z2 : IntKind.i64.wrap ((a : Int) + 63) = (a : Int) + 63 := wrap_i64_in _ (by omega) (by omega)
      have z3 : (0 : Int) ≤ (a : Int) := by omega
      have z4 : (a : Int) ≤ (s.size : Int) := by omega
      by_cases h2 : a + 63 ≤ s.size
      · have y1 : decide ((a : Int) + 63 ≤ (s.size : Int)) = true := by simp; omega
        have y2 : (a : Int) ≤ (a : Int) + 63 := by omega
        have y3 : (a : Int) + 63 ≤ (s.size : Int) := by omega
        by_cases h3 : q = 0
        · have x1 : ((a : Int) == 0) = true := by rw [beq_iff_eq]; omega
          go_wp2_with fail
          have HE := next_sector (y := f) ha HX.out (full_part s a h2) (by rw [if_pos h3])
          refine ⟨⟨q + 1, _, by omega, rfl, congrArg (Value.int .i64) (by omega), ?_, HE, hb⟩, ?_⟩
          · rw [HE]; exact HL (q + 1)
          · show s.size + 63 - ((a : Int) + 63).toNat < s.size + 63 - ((a : Int)).toNat
            omega
        · have x1 : ((a : Int) == 0) = false := by rw [beq_eq_false_iff_ne]; omega
          go_wp2_with fail
          have HE := next_sector (y := m) ha HX.out (full_part s a h2) (by rw [if_neg h3])
          refine ⟨⟨q + 1, _, by omega, rfl, congrArg (Value.int .i64) (by omega), ?_, HE, hb⟩, ?_⟩
          · rw [HE]; exact HL (q + 1)
          · show s.size + 63 - ((a : Int) + 63).toNat < s.size + 63 - ((a : Int)).toNat
            omega
      · have y1 : decide ((a : Int) + 63 ≤ (s.size : Int)) = false := by simp; omega
        have y2 : IntKind.i64.wrap ((a : Int) + 63 - (s.size : Int)) = ((a + 63 - s.size : Nat) : Int) := by rw [wrap_i64_in _ (by omega) (by omega)]; omega
        go_wp2_with fail
        go_region_held3 (fun _ => True) (exact trivial)
          (first | (go_at_call 74; refine (long_any 0 (a + 63 - s.size) (by omega) _).mono ?_; rintro e wA ⟨t, rfl, zt, HT, hbA⟩; have fB : ¬ (9223372036854775807 < s.size - a + t.size) := (by omega); clear zt))
        have hP : s.extract a s.size ++ t = T (part63 s.data.toList a) := by rw [HT.out]; exact last_part s a _ (by omega) (by omega) rfl
        have hz : (s.extract a s.size ++ t).size = 63 := by rw [hP, T_size, part63_length]
        generalize s.extract a s.size ++ t = p at hP hz ⊢
        have HP : Hid (p = T (part63 s.data.toList a)) := hP
        have hz' : p.size ≤ 63 := by omega
        have hbB : Below w.heap.size w wA := hb.drew.trans (hbA.mono hb.size)
        clear hP hz hbA HT
        have v1 : ¬ (9223372036854775807 < x.size + p.size) := by omega
        have v2 : ¬ (9223372036854775807 < x.size + p.size + f.size) := by omega
        have v3 : ¬ (9223372036854775807 < x.size + p.size + m.size) := by omega
        by_cases h3 : q = 0
        · have x1 : ((a : Int) == 0) = true := by rw [beq_iff_eq]; omega
          go_wp2_with fail
          have HE := next_sector (y := f) ha HX.out HP.out (by rw [if_pos h3])
          refine ⟨⟨q + 1, _, by omega, rfl, congrArg (Value.int .i64) (by omega), ?_, HE, hbB⟩, ?_⟩
          · rw [HE]; exact HL (q + 1)
          · show s.size + 63 - ((a : Int) + 63).toNat < s.size + 63 - ((a : Int)).toNat
            omega
        · have x1 : ((a : Int) == 0) = false := by rw [beq_eq_false_iff_ne]; omega
          go_wp2_with fail
          have HE := next_sector (y := m) ha HX.out HP.out (by rw [if_neg h3])
          refine ⟨⟨q + 1, _, by omega, rfl, congrArg (Value.int .i64) (by omega), ?_, HE, hbB⟩, ?_⟩
          · rw [HE]; exact HL (q + 1)
          · show s.size + 63 - ((a : Int) + 63).toNat < s.size + 63 - ((a : Int)).toNat
            omega
    · have z1 : decide ((a : Int) < (s.size : Int)) = false := by simp; omega
      go_wp2
      go_ret
      refine ⟨x, rfl, ?_, hb⟩
      show x = _
      rw [HX.out, marked]
      congr 2
      show q = (s.size + 62) / 63
      omega
end Go.Proofs.Ythopecgcpfhcead
