import Derived.Test.YtngnbflkiiehmaaGreatDoorZg
import Derived.Shelf.Strings.BuilderF
import Derived.Shelf.Strings.BuilderK
import Derived.Shelf.Strings.Repeat
import Derived.Shelf.Strings.Trim
import Derived.Shelf.Strconv.Clone
import Derived.Test.YtngnbflkiiehmaaGreatDoorProg
namespace Go.Proofs.YtngnbflkiiehmaaGreatDoor
open Go.RowKit Go.Proofs.Sha

/-- A number in four bytes, the lowest first. -/
def four (n : Nat) : List UInt8 := [UInt8.ofNat (n % 256), UInt8.ofNat (n / 256 % 256), UInt8.ofNat (n / 65536 % 256), UInt8.ofNat (n / 16777216 % 256)]

set_option maxRecDepth 100000 in
set_option maxHeartbeats 400000 in
theorem four_any (n : Nat) (hn : n ≤ 1048576) (w : World) :
    Calls Tryz.prog 34 #[.int .i64 (n : Int)] w fun e w' => ∃ t : ByteArray, e = .returned (.string t) ∧ t.size ≤ 4 ∧ Hid (t = T (four n)) ∧ Below w.heap.size w w' := by
  go_enter Tryz.func34, Tryz.ntmps34
  go_wp2_with fail
  refine (byte_i _ (by omega) (by omega) _).mono ?_
  rintro e w1 ⟨t1, rfl, hz1, HT1, hb1⟩
  go_wp2_with fail
  refine (byte_i _ (by omega) (by omega) _).mono ?_
  rintro e w2 ⟨t2, rfl, hz2, HT2, hb2⟩
  go_wp2_with fail
  refine (byte_i _ (by omega) (by omega) _).mono ?_
  rintro e w3 ⟨t3, rfl, hz3, HT3, hb3⟩
  go_wp2_with fail
  refine (byte_i _ (by omega) (by omega) _).mono ?_
  rintro e w4 ⟨t4, rfl, hz4, HT4, hb4⟩
  have hf : ¬ (9223372036854775807 < t1.size + t2.size + t3.size + t4.size) := by omega
  go_wp2
  go_ret
  refine ⟨t1 ++ t2 ++ t3 ++ t4, rfl, by simp only [ByteArray.size_append]; omega, ?_, ((hb1.trans (hb2.mono hb1.size)).trans (hb3.mono (Nat.le_trans hb1.size hb2.size))).trans (hb4.mono (Nat.le_trans (Nat.le_trans hb1.size hb2.size) hb3.size))⟩
  show t1 ++ t2 ++ t3 ++ t4 = T (four n)
  rw [HT1.out, HT2.out, HT3.out, HT4.out, byteS_T, byteS_T, byteS_T, byteS_T, T_append, T_append, T_append]
  have e1 : ((n : Int) % 256).toNat = n % 256 := by omega
  have e2 : ((n : Int) / 256 % 256).toNat = n / 256 % 256 := by omega
  have e3 : ((n : Int) / 65536 % 256).toNat = n / 65536 % 256 := by omega
  have e4 : ((n : Int) / 16777216 % 256).toNat = n / 16777216 % 256 := by omega
  rw [e1, e2, e3, e4]; rfl

def reps (n : Nat) (c : UInt8) : ByteArray := T (List.replicate n c)
theorem reps_size (n : Nat) (c : UInt8) : (reps n c).size = n := by unfold reps; rw [T_size, List.length_replicate]
theorem reps_add (n m : Nat) (c : UInt8) : reps n c ++ reps m c = reps (n + m) c := by unfold reps; rw [T_append, List.replicate_append_replicate]

set_option maxRecDepth 100000 in
set_option maxHeartbeats 400000 in
theorem long_any (c : UInt8) (n : Nat) : ∀ (_hn : n ≤ 1048576) (w : World),
    Calls Tryz.prog 20 #[.int .i64 (n : Int), .string ⟨#[c]⟩] w fun e w' => ∃ t : ByteArray, e = .returned (.string t) ∧ t.size = n ∧ Hid (t = reps n c) ∧ Below w.heap.size w w' := by
  induction n using Nat.strongRecOn with
  | ind n ih =>
  intro hn w
  have hU : Hid ((⟨#[c]⟩ : ByteArray) = reps 1 c ∧ (⟨#[c]⟩ : ByteArray).size = 1) := ⟨rfl, rfl⟩
  by_cases h0 : 0 < n
  · have z0 : decide ((0 : Int) < (n : Int)) = true := by simp; omega
    have hu : (⟨#[c]⟩ : ByteArray).size = 1 := rfl
    obtain ⟨u, hu'⟩ : ∃ u : ByteArray, ⟨#[c]⟩ = u := ⟨_, rfl⟩
    rw [hu'] at hU hu ih ⊢
    clear hu'
    go_enter Tryz.func20, Tryz.ntmps20
    go_wp2_with fail
    go_loopw [5] (fun t wr => ∃ (m : Nat) (x : ByteArray), 1 ≤ m ∧ m ≤ n ∧ t = .string x ∧ x.size = m ∧ Hid (x = reps m c) ∧ wr = w) (fun t _ => n - (match t with | .string x => x.size | _ => 0))
    case atStart => exact ⟨1, u, by omega, by omega, rfl, hu, hU.out.1, rfl⟩
    case round =>
      obtain ⟨m, x, hm1, hm2, rfl, hx, HX, rfl⟩ := hrel
      by_cases h1 : 2 * m ≤ n
      · have z1 : decide ((x.size : Int) * 2 ≤ (n : Int)) = true := by simp; omega
        go_wp2_with fail
        refine ⟨⟨m + m, x ++ x, by omega, by omega, rfl, by rw [ByteArray.size_append, hx], ?_, trivial⟩, ?_⟩
        · show x ++ x = _
          rw [HX.out, reps_add]
        · show n - (x ++ x).size < n - x.size
          rw [ByteArray.size_append, hx]; omega
      · have z1 : decide ((x.size : Int) * 2 ≤ (n : Int)) = false := by simp; omega
        by_cases h2 : m < n
        · have z2 : decide ((x.size : Int) < (n : Int)) = true := by simp; omega
          have z3 : IntKind.i64.wrap ((n : Int) - (m : Int)) = ((n - m : Nat) : Int) := by rw [wrap_i64_in _ (by omega) (by omega)]; omega
          go_wp2_with fail
          refine (ih (n - m) (by omega) (by omega) _).mono ?_
          rintro e w1 ⟨t, rfl, ht, HT, hb⟩
          have z4 : ¬ (9223372036854775807 < x.size + t.size) := by omega
          go_wp2
          go_ret
          refine ⟨x ++ t, rfl, by rw [ByteArray.size_append]; omega, ?_, hb⟩
          show x ++ t = _
          rw [HX.out, HT.out, reps_add]
          congr 1
          omega
        · have z2 : decide ((x.size : Int) < (n : Int)) = false := by simp; omega
          go_wp2
          go_ret
          exact ⟨x, rfl, by omega, by show x = _; rw [HX.out]; congr 1; omega, Below.refl _ _⟩
  · have hn0 : n = 0 := by omega
    subst hn0
    clear ih
    go_enter Tryz.func20, Tryz.ntmps20
    go_wp2_with fail
    go_loopw [5] (fun t wr => t = .string ⟨#[]⟩ ∧ wr = w) (fun _ _ => 0)
    case atStart => exact ⟨rfl, rfl⟩
    case round =>
      obtain ⟨rfl, rfl⟩ := hrel
      go_wp2
      go_ret
      exact ⟨⟨#[]⟩, rfl, rfl, rfl, Below.refl _ _⟩
end Go.Proofs.YtngnbflkiiehmaaGreatDoor
namespace Go.Proofs.YtngnbflkiiehmaaGreatDoor
open Go.RowKit Go.Proofs.Sha

/-- 63 bytes from a place on, zeros behind the end. -/
def part63 (s : List UInt8) (a : Nat) : List UInt8 := (s.drop a).take 63 ++ List.replicate (63 - (s.length - a)) 0
theorem part63_length (s : List UInt8) (a : Nat) : (part63 s a).length = 63 := by
  unfold part63; rw [List.length_append, List.length_take, List.length_drop, List.length_replicate]; omega
/-- The first q sectors. -/
def markedTo (s f m : List UInt8) : Nat → List UInt8
  | 0 => []
  | q + 1 => markedTo s f m q ++ part63 s (63 * q) ++ (if q = 0 then f else m)
theorem markedTo_length (s f m : List UInt8) (hf : f.length ≤ 1) (hm : m.length ≤ 1) (q : Nat) : (markedTo s f m q).length ≤ 64 * q := by
  induction q with
  | zero => exact Nat.le_refl _
  | succ q ih =>
    rw [markedTo, List.length_append, List.length_append, part63_length]
    split <;> omega
def marked (s f m : List UInt8) : List UInt8 := markedTo s f m ((s.length + 62) / 63)

theorem full_part (s : ByteArray) (a : Nat) (h : a + 63 ≤ s.size) : s.extract a (a + 63) = T (part63 s.data.toList a) := by
  conv => lhs; rw [← T_of s, T_extract]
  have e : 63 - (s.data.toList.length - a) = 0 := by show 63 - (s.size - a) = 0; omega
  unfold part63
  rw [e, List.replicate_zero, List.append_nil, Nat.add_sub_cancel_left]
theorem last_part (s : ByteArray) (a n : Nat) (h : s.size < a + 63) (ha : a ≤ s.size) (hn : n = a + 63 - s.size) : s.extract a s.size ++ reps n 0 = T (part63 s.data.toList a) := by
  conv => lhs; rw [← T_of s, T_extract]
  unfold part63 reps
  rw [T_append]
  have e : 63 - (s.data.toList.length - a) = n := by show 63 - (s.size - a) = n; omega
  rw [e, List.take_of_length_le (by rw [List.length_drop, T_size]; exact Nat.le_refl _), List.take_of_length_le (by rw [List.length_drop]; show s.size - a ≤ 63; omega)]

theorem next_sector {s f m x p y : ByteArray} {q a : Nat} (ha : 63 * q = a) (hx : x = T (markedTo s.data.toList f.data.toList m.data.toList q)) (hp : p = T (part63 s.data.toList a)) (hy : y = if q = 0 then f else m) :
    x ++ p ++ y = T (markedTo s.data.toList f.data.toList m.data.toList (q + 1)) := by
  rw [hx, hp, markedTo, ← T_append, ← T_append, ha, hy]
  congr 1
  split
  · exact (T_of f).symm
  · exact (T_of m).symm

set_option maxRecDepth 100000 in
set_option maxHeartbeats 1000000 in
theorem marked_any (s f m : ByteArray) (w : World) (hs : s.size ≤ 1000000) (hf : f.size ≤ 1) (hm : m.size ≤ 1) :
    Calls Tryz.prog 33 #[.string s, .string f, .string m] w fun e w' => ∃ t : ByteArray, e = .returned (.string t) ∧ Hid (t = T (marked s.data.toList f.data.toList m.data.toList)) ∧ Below w.heap.size w w' := by
  have HL := markedTo_length s.data.toList f.data.toList m.data.toList hf hm
  go_enter Tryz.func33, Tryz.ntmps33
  go_wp2_with fail
  go_loopw [7, 8] (fun t7 t8 wr => ∃ (q : Nat) (x : ByteArray), q ≤ (s.size + 62) / 63 ∧ t7 = .string x ∧ t8 = .int .i64 ((63 * q : Nat) : Int) ∧ x.size ≤ 64 * q ∧ Hid (x = T (markedTo s.data.toList f.data.toList m.data.toList q)) ∧ Below w.heap.size w wr) (fun _ t8 _ => s.size + 63 - (intOf t8).toNat)
  case atStart => exact ⟨0, ⟨#[]⟩, by omega, rfl, rfl, Nat.le_refl _, rfl, Below.refl _ _⟩
  case round =>
    obtain ⟨q, x, hq, rfl, rfl, hx, HX, hb⟩ := hrel
    obtain ⟨a, ha⟩ : ∃ a, 63 * q = a := ⟨_, rfl⟩
    rw [ha]
    by_cases h1 : a < s.size
    · have z1 : decide ((a : Int) < (s.size : Int)) = true := by simp; omega
      have z2 : IntKind.i64.wrap ((a : Int) + 63) = (a : Int) + 63 := wrap_i64_in _ (by omega) (by omega)
      have z3 : (0 : Int) ≤ (a : Int) := by omega
      have z4 : (a : Int) ≤ (s.size : Int) := by omega
      by_cases h2 : a + 63 ≤ s.size
      · have y1 : decide ((a : Int) + 63 ≤ (s.size : Int)) = true := by simp; omega
        have y2 : (a : Int) ≤ (a : Int) + 63 := by omega
        have y3 : (a : Int) + 63 ≤ (s.size : Int) := by omega
        by_cases h3 : q = 0
        · have x1 : ((a : Int) == 0) = true := by rw [beq_iff_eq]; omega
          go_wp2_with fail
          have HE := next_sector (y := f) ha HX.out (full_part s a h2) (by rw [if_pos h3])
          refine ⟨⟨q + 1, _, by omega, rfl, congrArg (Value.int .i64) (by omega), ?_, HE, hb⟩, ?_⟩
          · rw [HE]; exact HL (q + 1)
          · show s.size + 63 - ((a : Int) + 63).toNat < s.size + 63 - ((a : Int)).toNat
            omega
        · have x1 : ((a : Int) == 0) = false := by rw [beq_eq_false_iff_ne]; omega
          go_wp2_with fail
          have HE := next_sector (y := m) ha HX.out (full_part s a h2) (by rw [if_neg h3])
          refine ⟨⟨q + 1, _, by omega, rfl, congrArg (Value.int .i64) (by omega), ?_, HE, hb⟩, ?_⟩
          · rw [HE]; exact HL (q + 1)
          · show s.size + 63 - ((a : Int) + 63).toNat < s.size + 63 - ((a : Int)).toNat
            omega
      · have y1 : decide ((a : Int) + 63 ≤ (s.size : Int)) = false := by simp; omega
        have y2 : IntKind.i64.wrap ((a : Int) + 63 - (s.size : Int)) = ((a + 63 - s.size : Nat) : Int) := by rw [wrap_i64_in _ (by omega) (by omega)]; omega
        go_wp2_with fail
        go_region_held3 (fun _ => True) (exact trivial)
          (first | (go_at_call 20; refine (long_any 0 (a + 63 - s.size) (by omega) _).mono ?_; rintro e wA ⟨t, rfl, zt, HT, hbA⟩; have fB : ¬ (9223372036854775807 < s.size - a + t.size) := (by omega); clear zt))
        have hP : s.extract a s.size ++ t = T (part63 s.data.toList a) := by rw [HT.out]; exact last_part s a _ (by omega) (by omega) rfl
        have hz : (s.extract a s.size ++ t).size = 63 := by rw [hP, T_size, part63_length]
        generalize s.extract a s.size ++ t = p at hP hz ⊢
        have HP : Hid (p = T (part63 s.data.toList a)) := hP
        have hz' : p.size ≤ 63 := by omega
        have hbB : Below w.heap.size w wA := hb.drew.trans (hbA.mono hb.size)
        clear hP hz hbA HT
        have v1 : ¬ (9223372036854775807 < x.size + p.size) := by omega
        have v2 : ¬ (9223372036854775807 < x.size + p.size + f.size) := by omega
        have v3 : ¬ (9223372036854775807 < x.size + p.size + m.size) := by omega
        by_cases h3 : q = 0
        · have x1 : ((a : Int) == 0) = true := by rw [beq_iff_eq]; omega
          go_wp2_with fail
          have HE := next_sector (y := f) ha HX.out HP.out (by rw [if_pos h3])
          refine ⟨⟨q + 1, _, by omega, rfl, congrArg (Value.int .i64) (by omega), ?_, HE, hbB⟩, ?_⟩
          · rw [HE]; exact HL (q + 1)
          · show s.size + 63 - ((a : Int) + 63).toNat < s.size + 63 - ((a : Int)).toNat
            omega
        · have x1 : ((a : Int) == 0) = false := by rw [beq_eq_false_iff_ne]; omega
          go_wp2_with fail
          have HE := next_sector (y := m) ha HX.out HP.out (by rw [if_neg h3])
          refine ⟨⟨q + 1, _, by omega, rfl, congrArg (Value.int .i64) (by omega), ?_, HE, hbB⟩, ?_⟩
          · rw [HE]; exact HL (q + 1)
          · show s.size + 63 - ((a : Int) + 63).toNat < s.size + 63 - ((a : Int)).toNat
            omega
    · have z1 : decide ((a : Int) < (s.size : Int)) = false := by simp; omega
      go_wp2
      go_ret
      refine ⟨x, rfl, ?_, hb⟩
      show x = _
      rw [HX.out, marked]
      congr 2
      show q = (s.size + 62) / 63
      omega
end Go.Proofs.YtngnbflkiiehmaaGreatDoor
namespace Go.Proofs.YtngnbflkiiehmaaGreatDoor
open Go.RowKit Go.Proofs.Sha

/-- What NodeRecord answers. -/
def nodeRec (enc : ByteArray) : ByteArray := if 1 ≤ enc.size ∧ enc.size ≤ 4000 then T (marked (four enc.size ++ enc.data.toList) [83] [77]) else ⟨#[]⟩
/-- What CommitRecord answers. -/
def commitRec (v : Int) (root : ByteArray) : ByteArray := if 1 ≤ v ∧ v ≤ 1000000 ∧ root.size ≤ 32 then T (marked (four v.toNat ++ [UInt8.ofNat root.size] ++ root.data.toList) [67] []) else ⟨#[]⟩

set_option maxRecDepth 100000 in
set_option maxHeartbeats 400000 in
theorem commitRec_any (v : Int) (root : ByteArray) (w : World) (hs : root.size ≤ 1048576) :
    Calls Tryz.prog 12 #[.int .i64 v, .string root] w fun e w' => ∃ t, e = .returned (.string t) ∧ Hid (t = commitRec v root) ∧ Below w.heap.size w w' := by
  by_cases h : 1 ≤ v ∧ v ≤ 1000000 ∧ root.size ≤ 32
  · obtain ⟨n, rfl⟩ := Int.eq_ofNat_of_zero_le (show 0 ≤ v by omega)
    have z1 : decide ((n : Int) < 1) = false := by simp; omega
    have z2 : decide ((1000000 : Int) < (n : Int)) = false := by simp; omega
    have z3 : decide ((32 : Int) < (root.size : Int)) = false := by simp; omega
    go_enter Tryz.func12, Tryz.ntmps12
    go_wp2_with fail
    refine (four_any n (by omega) _).mono ?_
    rintro e w1 ⟨t, rfl, ht, HT, hb⟩
    go_wp2_with fail
    refine (byte_i _ (by omega) (by omega) _).mono ?_
    rintro e w2 ⟨t2, rfl, ht2, HT2, hb2⟩
    have z4 : ¬ (9223372036854775807 < t.size + t2.size) := by omega
    have z5 : ¬ (9223372036854775807 < t.size + t2.size + root.size) := by omega
    go_wp2_with fail
    refine (marked_any _ ⟨#[67]⟩ ⟨#[]⟩ _ (by rw [ByteArray.size_append, ByteArray.size_append]; omega) (Nat.le_refl _) (Nat.zero_le _)).mono ?_
    rintro e w3 ⟨x, rfl, HX, hb3⟩
    go_wp2
    go_ret
    refine ⟨x, rfl, ?_, (hb.trans (hb2.mono hb.size)).trans (hb3.mono (Nat.le_trans hb.size hb2.size))⟩
    show x = _
    rw [HX.out, HT.out, HT2.out, byteS_T, commitRec, if_pos h]
    conv => lhs; rw [← T_of root, T_append, T_append]
    rw [T_of, Int.toNat_natCast, Int.toNat_natCast]; rfl
  · have HR : Hid (commitRec v root = ⟨#[]⟩) := by show commitRec v root = _; rw [commitRec, if_neg h]
    by_cases h1 : v < 1
    · have z1 : decide (v < 1) = true := by simpa using h1
      go_enter Tryz.func12, Tryz.ntmps12
      go_wp2
      go_ret
      exact ⟨_, rfl, HR.out.symm, Below.refl _ _⟩
    by_cases h2 : 1000000 < v
    · have z1 : decide (v < 1) = false := by simpa using h1
      have z2 : decide (1000000 < v) = true := by simpa using h2
      go_enter Tryz.func12, Tryz.ntmps12
      go_wp2
      go_ret
      exact ⟨_, rfl, HR.out.symm, Below.refl _ _⟩
    · have z1 : decide (v < 1) = false := by simpa using h1
      have z2 : decide (1000000 < v) = false := by simpa using h2
      have z3 : decide ((32 : Int) < (root.size : Int)) = true := by simp; omega
      go_enter Tryz.func12, Tryz.ntmps12
      go_wp2
      go_ret
      exact ⟨_, rfl, HR.out.symm, Below.refl _ _⟩
end Go.Proofs.YtngnbflkiiehmaaGreatDoor
namespace Go.Proofs.YtngnbflkiiehmaaGreatDoor
open Go.RowKit Go.Proofs.Sha

/-- The number that stands at a place of a text, in four bytes. -/
def numAt (s : ByteArray) (a : Nat) : Nat := (s.data.toList.getD a 0).toNat + (s.data.toList.getD (a + 1) 0).toNat * 256 + (s.data.toList.getD (a + 2) 0).toNat * 65536 + (s.data.toList.getD (a + 3) 0).toNat * 16777216
theorem numAt_lt (s : ByteArray) (a : Nat) : numAt s a < 4294967296 := by
  unfold numAt
  have h1 := (s.data.toList.getD a 0).toNat_lt
  have h2 := (s.data.toList.getD (a + 1) 0).toNat_lt
  have h3 := (s.data.toList.getD (a + 2) 0).toNat_lt
  have h4 := (s.data.toList.getD (a + 3) 0).toNat_lt
  omega

theorem wr64 (n : Int) (h0 : 0 ≤ n) (h1 : n ≤ 9223372036854775807) : wrap64 n = n := by unfold wrap64; omega
theorem num_w (x y z u : Nat) (hx : x < 256) (hy : y < 256) (hz : z < 256) (hu : u < 256) :
    wrap64 (wrap64 (wrap64 (wrap64 (x : Int) + wrap64 (wrap64 (y : Int) * 256)) + wrap64 (wrap64 (z : Int) * 65536)) + wrap64 (wrap64 (u : Int) * 16777216)) = ((x + y * 256 + z * 65536 + u * 16777216 : Nat) : Int) := by
  rw [wr64 (x : Int) (by omega) (by omega), wr64 (y : Int) (by omega) (by omega), wr64 (z : Int) (by omega) (by omega), wr64 (u : Int) (by omega) (by omega),
    wr64 ((y : Int) * 256) (by omega) (by omega), wr64 ((z : Int) * 65536) (by omega) (by omega), wr64 ((u : Int) * 16777216) (by omega) (by omega)]
  rw [wr64 ((x : Int) + (y : Int) * 256) (by omega) (by omega)]
  rw [wr64 ((x : Int) + (y : Int) * 256 + (z : Int) * 65536) (by omega) (by omega)]
  rw [wr64 _ (by omega) (by omega)]
  omega

/-- Some sectors without their last bytes. -/
def unTo (s : ByteArray) (a : Nat) : Nat → List UInt8
  | 0 => []
  | i + 1 => unTo s a i ++ (s.extract (a + 64 * i) (a + 64 * i + 63)).data.toList
theorem unTo_length (s : ByteArray) (a q : Nat) : (unTo s a q).length ≤ 63 * q := by
  induction q with
  | zero => exact Nat.le_refl _
  | succ q ih =>
    rw [unTo, List.length_append]
    have : (s.extract (a + 64 * q) (a + 64 * q + 63)).data.toList.length ≤ 63 := by
      show (s.extract (a + 64 * q) (a + 64 * q + 63)).size ≤ 63
      rw [ByteArray.size_extract]; omega
    omega

end Go.Proofs.YtngnbflkiiehmaaGreatDoor
namespace Go.Proofs.YtngnbflkiiehmaaGreatDoor
open Go.RowKit Go.Proofs.Sha

theorem part63_getD (s : List UInt8) (j : Nat) (hj : j < 63) : (part63 s 0).getD j 0 = s.getD j 0 := by
  unfold part63
  rw [List.drop_zero, List.getD_eq_getElem?_getD, List.getD_eq_getElem?_getD]
  by_cases h : j < s.length
  · rw [List.getElem?_append_left (by rw [List.length_take]; omega), List.getElem?_take_of_lt hj]
  · rw [List.getElem?_append_right (by rw [List.length_take]; omega), List.getElem?_eq_none (by omega : s.length ≤ j)]
    rw [List.getElem?_replicate]
    split <;> rfl
theorem markedTo_len1 (s : List UInt8) (c d : UInt8) (q : Nat) : (markedTo s [c] [d] q).length = 64 * q := by
  induction q with
  | zero => rfl
  | succ q ih =>
    rw [markedTo, List.length_append, List.length_append, part63_length, ih]
    split <;> simp only [List.length_cons, List.length_nil] <;> omega
/-- The first sector stands in front. -/
theorem markedTo_head (s f m : List UInt8) (q : Nat) (hq : 1 ≤ q) : ∃ r, markedTo s f m q = part63 s 0 ++ (f ++ r) := by
  induction q with
  | zero => omega
  | succ q ih =>
    by_cases h : q = 0
    · subst h
      exact ⟨[], by rw [markedTo, markedTo, if_pos rfl, List.append_nil, List.nil_append]⟩
    · obtain ⟨r, hr⟩ := ih (by omega)
      exact ⟨r ++ (part63 s (63 * q) ++ m), by rw [markedTo, hr, if_neg h]; simp only [List.append_assoc]⟩
theorem marked_low (s f m : List UInt8) (q j : Nat) (hq : 1 ≤ q) (hj : j < 63) : (markedTo s f m q).getD j 0 = s.getD j 0 := by
  obtain ⟨r, hr⟩ := markedTo_head s f m q hq
  rw [hr, ← part63_getD s j hj, List.getD_eq_getElem?_getD, List.getD_eq_getElem?_getD, List.getElem?_append_left (by rw [part63_length]; exact hj)]
theorem marked_mark (s m : List UInt8) (c : UInt8) (q : Nat) (hq : 1 ≤ q) : (markedTo s [c] m q).getD 63 0 = c := by
  obtain ⟨r, hr⟩ := markedTo_head s [c] m q hq
  rw [hr, List.getD_eq_getElem?_getD, List.getElem?_append_right (by rw [part63_length]; exact Nat.le_refl _), part63_length]; rfl
theorem marked_sector (s : List UInt8) (c d : UInt8) (q i : Nat) (hi : i < q) : ((markedTo s [c] [d] q).drop (64 * i)).take 63 = part63 s (63 * i) := by
  induction q with
  | zero => omega
  | succ q ih =>
    rw [markedTo, List.append_assoc]
    have hl := markedTo_len1 s c d q
    by_cases h : i = q
    · subst h
      rw [← hl, List.drop_left, List.take_append_of_le_length (by rw [part63_length]; exact Nat.le_refl _), List.take_of_length_le (by rw [part63_length]; exact Nat.le_refl _)]
    · rw [List.drop_append_of_le_length (by omega), List.take_append_of_le_length (by rw [List.length_drop]; omega)]
      exact ih (by omega)

/-- A text that stands in another. -/
theorem sub_getD {s : ByteArray} {a n : Nat} {L : List UInt8} (h : s.extract a (a + n) = T L) (j : Nat) (hj : j < n) : s.data.toList.getD (a + j) 0 = L.getD j 0 := by
  have e : L = (s.data.toList.drop a).take n := by
    have := h.symm
    rw [← T_of s, T_extract, Nat.add_sub_cancel_left] at this
    exact T_inj this
  rw [e, List.getD_eq_getElem?_getD, List.getD_eq_getElem?_getD, List.getElem?_take_of_lt hj, List.getElem?_drop]
theorem sub_extract {s : ByteArray} {a n : Nat} {L : List UInt8} (h : s.extract a (a + n) = T L) (x y : Nat) (hy : x + y ≤ n) : s.extract (a + x) (a + x + y) = T ((L.drop x).take y) := by
  have e : L = (s.data.toList.drop a).take n := by
    have := h.symm
    rw [← T_of s, T_extract, Nat.add_sub_cancel_left] at this
    exact T_inj this
  conv => lhs; rw [← T_of s, T_extract, Nat.add_sub_cancel_left]
  rw [e, List.drop_take, List.take_take, List.drop_drop]
  congr 2
  omega

theorem four_num (n : Nat) (hn : n < 4294967296) : ((four n).getD 0 0).toNat + ((four n).getD 1 0).toNat * 256 + ((four n).getD 2 0).toNat * 65536 + ((four n).getD 3 0).toNat * 16777216 = n := by
  show (UInt8.ofNat (n % 256)).toNat + (UInt8.ofNat (n / 256 % 256)).toNat * 256 + (UInt8.ofNat (n / 65536 % 256)).toNat * 65536 + (UInt8.ofNat (n / 16777216 % 256)).toNat * 16777216 = n
  rw [UInt8.toNat_ofNat_of_lt' (by show _ < 256; omega), UInt8.toNat_ofNat_of_lt' (by show _ < 256; omega), UInt8.toNat_ofNat_of_lt' (by show _ < 256; omega), UInt8.toNat_ofNat_of_lt' (by show _ < 256; omega)]
  omega
theorem four_getD (n : Nat) (R : List UInt8) (j : Nat) (hj : j < 4) : (four n ++ R).getD j 0 = (four n).getD j 0 := by
  rw [List.getD_eq_getElem?_getD, List.getD_eq_getElem?_getD, List.getElem?_append_left (by exact hj)]

/-- The number in front of a record's content. -/
theorem num_of {s : ByteArray} {a n q k : Nat} {R f m : List UInt8} (h : s.extract a (a + k) = T (markedTo (four n ++ R) f m q)) (hq : 1 ≤ q) (hk : 4 ≤ k) (hn : n < 4294967296) : numAt s a = n := by
  unfold numAt
  have g : ∀ j, j < 4 → s.data.toList.getD (a + j) 0 = (four n).getD j 0 := fun j hj => by
    rw [sub_getD h j (by omega), marked_low _ _ _ _ _ hq (by omega), four_getD n R j hj]
  have g0 := g 0 (by omega)
  rw [Nat.add_zero] at g0
  rw [g0, g 1 (by omega), g 2 (by omega), g 3 (by omega)]
  exact four_num n hn

def partsTo (s : List UInt8) : Nat → List UInt8
  | 0 => []
  | i + 1 => partsTo s i ++ part63 s (63 * i)
theorem partsTo_eq (s : List UInt8) (i : Nat) : partsTo s i = s.take (63 * i) ++ List.replicate (63 * i - s.length) 0 := by
  induction i with
  | zero => simp [partsTo]
  | succ i ih =>
    rw [partsTo, ih, part63]
    by_cases h : 63 * i ≤ s.length
    · rw [show 63 * i - s.length = 0 by omega, List.replicate_zero, List.append_nil, ← List.append_assoc, show 63 * (i + 1) = 63 * i + 63 by omega, List.take_add, show 63 * i + 63 - s.length = 63 - (s.length - 63 * i) by omega]
    · rw [List.drop_eq_nil_of_le (by omega), List.take_nil, List.nil_append, List.append_assoc, List.replicate_append_replicate, List.take_of_length_le (by omega), List.take_of_length_le (by omega)]
      congr 2
      omega
theorem un_of {s : ByteArray} {a q : Nat} {L : List UInt8} {c d : UInt8} (h : s.extract a (a + 64 * q) = T (markedTo L [c] [d] q)) (i : Nat) (hi : i ≤ q) : unTo s a i = partsTo L i := by
  induction i with
  | zero => rfl
  | succ i ih =>
    rw [unTo, partsTo, ih (by omega), sub_extract h (64 * i) 63 (by omega), marked_sector _ _ _ _ _ (by omega)]; rfl
theorem un_enc {s : ByteArray} {a q : Nat} {enc : ByteArray} {c d : UInt8} (h : s.extract a (a + 64 * q) = T (markedTo (four enc.size ++ enc.data.toList) [c] [d] q)) (hq : enc.size + 4 ≤ 63 * q) :
    (T (unTo s a q)).extract 4 (4 + enc.size) = enc := by
  rw [un_of h q (Nat.le_refl _), partsTo_eq, List.take_of_length_le (by rw [List.length_append]; show 4 + enc.size ≤ _; omega), T_extract, Nat.add_sub_cancel_left, List.append_assoc]
  rw [show List.drop 4 (four enc.size ++ (enc.data.toList ++ List.replicate (63 * q - (four enc.size ++ enc.data.toList).length) 0)) = enc.data.toList ++ List.replicate (63 * q - (four enc.size ++ enc.data.toList).length) 0 from rfl]
  rw [List.take_append_of_le_length (show enc.size ≤ enc.data.toList.length from Nat.le_refl _), List.take_of_length_le (show enc.data.toList.length ≤ enc.size from Nat.le_refl _), T_of]

/-- How many sectors an encoding of n bytes takes. -/
def secs (n : Nat) : Nat := (n + 4 + 62) / 63
/-- The record of this encoding begins at byte a. -/
def IsNode (s : ByteArray) (a : Nat) (enc : ByteArray) : Prop :=
  1 ≤ enc.size ∧ enc.size ≤ 4000 ∧ a + 64 * secs enc.size ≤ s.size ∧ s.extract a (a + 64 * secs enc.size) = nodeRec enc
/-- The record of this commit begins at byte a. -/
def IsCommit (s : ByteArray) (a : Nat) (v : Int) (root : ByteArray) : Prop :=
  1 ≤ v ∧ v ≤ 1000000 ∧ root.size ≤ 32 ∧ a + 64 ≤ s.size ∧ s.extract a (a + 64) = commitRec v root

theorem secs_eq (enc : ByteArray) : ((four enc.size ++ enc.data.toList).length + 62) / 63 = secs enc.size := by
  unfold secs; rw [List.length_append]; show (4 + enc.size + 62) / 63 = _; congr 1; omega
theorem IsNode.text {s : ByteArray} {a : Nat} {enc : ByteArray} (h : IsNode s a enc) : s.extract a (a + 64 * secs enc.size) = T (markedTo (four enc.size ++ enc.data.toList) [83] [77] (secs enc.size)) := by
  rw [h.2.2.2, nodeRec, if_pos ⟨h.1, h.2.1⟩, marked, secs_eq]
theorem IsNode.parts {s : ByteArray} {a : Nat} {enc : ByteArray} (h : IsNode s a enc) :
    a + 64 ≤ s.size ∧ (s.data.toList.getD (a + 63) 0) = 83 ∧ numAt s a = enc.size ∧ (T (unTo s a (secs (numAt s a)))).extract 4 (4 + numAt s a) = enc := by
  have ht := h.text
  have h1 := h.1
  have h2 := h.2.1
  have h3 := h.2.2.1
  have hq : 1 ≤ secs enc.size ∧ enc.size + 4 ≤ 63 * secs enc.size := by unfold secs; omega
  have hn : numAt s a = enc.size := num_of ht hq.1 (by omega) (by omega)
  refine ⟨by omega, ?_, hn, ?_⟩
  · rw [sub_getD ht 63 (by omega), marked_mark _ _ _ _ hq.1]
  · rw [hn]; exact un_enc ht hq.2

theorem commit_text {v : Int} {root : ByteArray} (h1 : 1 ≤ v) (h2 : v ≤ 1000000) (h3 : root.size ≤ 32) :
    commitRec v root = T (markedTo (four v.toNat ++ ([UInt8.ofNat root.size] ++ root.data.toList)) [67] [] 1) := by
  rw [commitRec, if_pos ⟨h1, h2, h3⟩, marked, List.append_assoc]
  congr 2
  rw [List.length_append, List.length_append]
  show (4 + (1 + root.size) + 62) / 63 = 1
  omega
theorem IsCommit.parts {s : ByteArray} {a : Nat} {v : Int} {root : ByteArray} (h : IsCommit s a v root) :
    (s.data.toList.getD (a + 63) 0) = 67 ∧ (numAt s a : Int) = v ∧ (s.data.toList.getD (a + 4) 0).toNat = root.size ∧ s.extract (a + 5) (a + 5 + root.size) = root := by
  obtain ⟨h1, h2, h3, h4, h5⟩ := h
  rw [commit_text h1 h2 h3] at h5
  refine ⟨?_, ?_, ?_, ?_⟩
  · rw [sub_getD h5 63 (by omega), marked_mark _ _ _ _ (Nat.le_refl _)]
  · rw [num_of h5 (Nat.le_refl _) (by omega) (by omega)]; omega
  · rw [sub_getD h5 4 (by omega), marked_low _ _ _ _ _ (Nat.le_refl _) (by omega)]
    show (UInt8.ofNat root.size).toNat = _
    exact UInt8.toNat_ofNat_of_lt' (by show _ < 256; omega)
  · obtain ⟨r, hr⟩ := markedTo_head (four v.toNat ++ ([UInt8.ofNat root.size] ++ root.data.toList)) [67] [] 1 (Nat.le_refl _)
    rw [sub_extract h5 5 root.size (by omega), hr]
    unfold part63
    have e : List.take 63 (four v.toNat ++ ([UInt8.ofNat root.size] ++ root.data.toList)) = four v.toNat ++ ([UInt8.ofNat root.size] ++ root.data.toList) :=
      List.take_of_length_le (by rw [List.length_append, List.length_append]; show 4 + (1 + root.size) ≤ 63; omega)
    rw [List.drop_zero, e, List.append_assoc]
    rw [show List.drop 5 (four v.toNat ++ ([UInt8.ofNat root.size] ++ root.data.toList) ++ (List.replicate (63 - ((four v.toNat ++ ([UInt8.ofNat root.size] ++ root.data.toList)).length - 0)) 0 ++ ([67] ++ r))) = root.data.toList ++ (List.replicate (63 - ((four v.toNat ++ ([UInt8.ofNat root.size] ++ root.data.toList)).length - 0)) 0 ++ ([67] ++ r)) from rfl]
    rw [List.take_append_of_le_length (show root.size ≤ root.data.toList.length from Nat.le_refl _), List.take_of_length_le (show root.data.toList.length ≤ root.size from Nat.le_refl _), T_of]
end Go.Proofs.YtngnbflkiiehmaaGreatDoor
namespace Go.Proofs.YtngnbflkiiehmaaGreatDoor
open Go.RowKit Go.Proofs.Sha

abbrev recV (k : Int) (enc : ByteArray) (v : Int) (root : ByteArray) (nx : Int) : Value := .agg #[.int .i64 k, .string enc, .int .i64 v, .string root, .int .i64 nx]
/-- What ReadRecord answers. -/
def readPost (s : ByteArray) (n : Int) (e : Ending) : Prop :=
  (∃ enc, 0 ≤ n ∧ IsNode s (64 * n.toNat) enc ∧ e = .returned (recV 1 enc 0 ⟨#[]⟩ (n + (secs enc.size : Int)))) ∨
  (∃ v root, 0 ≤ n ∧ IsCommit s (64 * n.toNat) v root ∧ e = .returned (recV 2 ⟨#[]⟩ v root (n + 1))) ∨
  ((0 ≤ n → (∀ enc, ¬ IsNode s (64 * n.toNat) enc) ∧ ∀ v root, ¬ IsCommit s (64 * n.toNat) v root) ∧ e = .returned (recV 0 ⟨#[]⟩ 0 ⟨#[]⟩ 0))

structure RecAt (w : World) (g : Nat) (k : Int) (enc : ByteArray) (v : Int) (root : ByteArray) (nx : Int) : Prop where
  c0 : w.cell? ⟨g, 0, none⟩ = some (.int .i64 k)
  c1 : w.cell? ⟨g, 1, none⟩ = some (.string enc)
  c2 : w.cell? ⟨g, 2, none⟩ = some (.int .i64 v)
  c3 : w.cell? ⟨g, 3, none⟩ = some (.string root)
  c4 : w.cell? ⟨g, 4, none⟩ = some (.int .i64 nx)
  f0 : w.frozen? ⟨g, 0, none⟩ = false
  f1 : w.frozen? ⟨g, 1, none⟩ = false
  f2 : w.frozen? ⟨g, 2, none⟩ = false
  f3 : w.frozen? ⟨g, 3, none⟩ = false
  f4 : w.frozen? ⟨g, 4, none⟩ = false
section
variable {w w' : World} {g B : Nat} {k v nx : Int} {enc root : ByteArray}
theorem RecAt.lt (h : RecAt w g k enc v root nx) : g < w.heap.size := World.block_lt_of_cell? w _ h.c0
theorem RecAt.below (h : RecAt w g k enc v root nx) (hb : Below B w w') (hg : g < B) : RecAt w' g k enc v root nx :=
  ⟨(hb.cell hg).trans h.c0, (hb.cell hg).trans h.c1, (hb.cell hg).trans h.c2, (hb.cell hg).trans h.c3, (hb.cell hg).trans h.c4, (hb.frozen hg).trans h.f0, (hb.frozen hg).trans h.f1, (hb.frozen hg).trans h.f2, (hb.frozen hg).trans h.f3, (hb.frozen hg).trans h.f4⟩
theorem RecAt.mk5 (w : World) (k : Int) (enc : ByteArray) (v : Int) (root : ByteArray) (nx : Int) : RecAt (w.alloc (.cells #[.int .i64 k, .string enc, .int .i64 v, .string root, .int .i64 nx] 36)) w.heap.size k enc v root nx := by
  constructor <;> simp
theorem RecAt.set5 (h : RecAt w g k enc v root nx) (k' : Int) (enc' : ByteArray) (v' : Int) (root' : ByteArray) (nx' : Int) :
    RecAt (((((w.setCell ⟨g, 0, none⟩ (.int .i64 k')).setCell ⟨g, 1, none⟩ (.string enc')).setCell ⟨g, 2, none⟩ (.int .i64 v')).setCell ⟨g, 3, none⟩ (.string root')).setCell ⟨g, 4, none⟩ (.int .i64 nx')) g k' enc' v' root' nx' := by
  have e0 : ∀ (w : World) (i j : Nat) (x : Value), j ≠ i → (w.setCell ⟨g, i, none⟩ x).cell? ⟨g, j, none⟩ = w.cell? ⟨g, j, none⟩ := fun w i j x hn => cell_set_ne w g i j x hn
  have s0 : (w.setCell ⟨g, 0, none⟩ (.int .i64 k')).cell? ⟨g, 0, none⟩ = some (.int .i64 k') := World.cell?_setCell_same _ _ _ h.c0
  have s1 : ((w.setCell ⟨g, 0, none⟩ (.int .i64 k')).setCell ⟨g, 1, none⟩ (.string enc')).cell? ⟨g, 1, none⟩ = some (.string enc') := World.cell?_setCell_same _ _ _ ((e0 _ _ _ _ (by omega)).trans h.c1)
  have s2 : (((w.setCell ⟨g, 0, none⟩ (.int .i64 k')).setCell ⟨g, 1, none⟩ (.string enc')).setCell ⟨g, 2, none⟩ (.int .i64 v')).cell? ⟨g, 2, none⟩ = some (.int .i64 v') :=
    World.cell?_setCell_same _ _ _ ((e0 _ _ _ _ (by omega)).trans ((e0 _ _ _ _ (by omega)).trans h.c2))
  have s3 : ((((w.setCell ⟨g, 0, none⟩ (.int .i64 k')).setCell ⟨g, 1, none⟩ (.string enc')).setCell ⟨g, 2, none⟩ (.int .i64 v')).setCell ⟨g, 3, none⟩ (.string root')).cell? ⟨g, 3, none⟩ = some (.string root') :=
    World.cell?_setCell_same _ _ _ ((e0 _ _ _ _ (by omega)).trans ((e0 _ _ _ _ (by omega)).trans ((e0 _ _ _ _ (by omega)).trans h.c3)))
  refine ⟨?_, ?_, ?_, ?_, World.cell?_setCell_same _ _ _ ((e0 _ _ _ _ (by omega)).trans ((e0 _ _ _ _ (by omega)).trans ((e0 _ _ _ _ (by omega)).trans ((e0 _ _ _ _ (by omega)).trans h.c4)))), ?_, ?_, ?_, ?_, ?_⟩
  · rw [e0 _ 4 0 _ (by omega), e0 _ 3 0 _ (by omega), e0 _ 2 0 _ (by omega), e0 _ 1 0 _ (by omega)]; exact s0
  · rw [e0 _ 4 1 _ (by omega), e0 _ 3 1 _ (by omega), e0 _ 2 1 _ (by omega)]; exact s1
  · rw [e0 _ 4 2 _ (by omega), e0 _ 3 2 _ (by omega)]; exact s2
  · rw [e0 _ 4 3 _ (by omega)]; exact s3
  all_goals rw [World.frozen?_setCell, World.frozen?_setCell, World.frozen?_setCell, World.frozen?_setCell, World.frozen?_setCell]
  · exact h.f0
  · exact h.f1
  · exact h.f2
  · exact h.f3
  · exact h.f4
theorem below5 {W : World} (h : Below B W w) (hB : B ≤ g) (x0 x1 x2 x3 x4 : Value) : Below B W (((((w.setCell ⟨g, 0, none⟩ x0).setCell ⟨g, 1, none⟩ x1).setCell ⟨g, 2, none⟩ x2).setCell ⟨g, 3, none⟩ x3).setCell ⟨g, 4, none⟩ x4) :=
  ((((h.setCell hB _).setCell hB _).setCell hB _).setCell hB _).setCell hB _
end

end Go.Proofs.YtngnbflkiiehmaaGreatDoor
namespace Go.Proofs
open Go.Shelf
def Tryz.lays170_ren : Go.Shelf.Ren := ⟨fun | 170 => 121 | n => n, fun | 70 => 68 | 3 => 3 | 0 => 0 | 72 => 70 | 37 => 22 | 5 => 5 | n => n, fun | n => n⟩
theorem Tryz.lays170 : Go.Proofs.Lays.n170 Tryz.prog Tryz.lays170_ren := {
  mixed := by kernel_rfl
  f170 := Tryz.func121.trans (congrArg some (by kernel_rfl))
  t0 := Tryz.underlying0
  a0 := Tryz.isAgg0
  z0 := Tryz.sizeOf0
  v0 := Tryz.zeroValue0
  t3 := Tryz.underlying3
  a3 := Tryz.isAgg3
  z3 := Tryz.sizeOf3
  v3 := Tryz.zeroValue3
  t37 := Tryz.underlying22
  a37 := Tryz.isAgg22
  z37 := Tryz.sizeOf22
  v37 := Tryz.zeroValue22
  t70 := Tryz.underlying68
  a70 := Tryz.isAgg68
  z70 := Tryz.sizeOf68
  v70 := Tryz.zeroValue68
  t72 := Tryz.underlying70
  a72 := Tryz.isAgg70
  z72 := Tryz.sizeOf70
  v72 := Tryz.zeroValue70 }
def Tryz.lays169_ren : Go.Shelf.Ren := ⟨fun | 169 => 43 | n => n, fun | 70 => 68 | 9 => 9 | 0 => 0 | 72 => 70 | 37 => 22 | 127 => 88 | 3 => 3 | 5 => 5 | n => n, fun | n => n⟩
theorem Tryz.lays169 : Go.Proofs.Lays.n169 Tryz.prog Tryz.lays169_ren := {
  mixed := by kernel_rfl
  f169 := Tryz.func43.trans (congrArg some (by kernel_rfl))
  t0 := Tryz.underlying0
  a0 := Tryz.isAgg0
  z0 := Tryz.sizeOf0
  v0 := Tryz.zeroValue0
  t3 := Tryz.underlying3
  a3 := Tryz.isAgg3
  z3 := Tryz.sizeOf3
  v3 := Tryz.zeroValue3
  t9 := Tryz.underlying9
  a9 := Tryz.isAgg9
  z9 := Tryz.sizeOf9
  v9 := Tryz.zeroValue9
  t37 := Tryz.underlying22
  a37 := Tryz.isAgg22
  z37 := Tryz.sizeOf22
  v37 := Tryz.zeroValue22
  t70 := Tryz.underlying68
  a70 := Tryz.isAgg68
  z70 := Tryz.sizeOf68
  v70 := Tryz.zeroValue68
  t72 := Tryz.underlying70
  a72 := Tryz.isAgg70
  z72 := Tryz.sizeOf70
  v72 := Tryz.zeroValue70
  t127 := Tryz.underlying88
  a127 := Tryz.isAgg88
  z127 := Tryz.sizeOf88
  v127 := Tryz.zeroValue88 }
theorem Tryz.Builder_Extra_169 : Builder.Extra Tryz.prog Tryz.lays169_ren := {
  sizeBuilder := by kernel_rfl
  liesBuilder := by kernel_rfl
  t5 := Tryz.underlying5
  a5 := Tryz.isAgg5
  z5 := Tryz.sizeOf5
  v5 := Tryz.zeroValue5
  infoByte := by kernel_rfl
  cellsByte := by kernel_rfl
  sizeByte := by kernel_rfl
  neB5 := by decide }
open Go.RowKit in
theorem Tryz.Builder_Len_f (B b : Nat) (bs : List Value) (w : World) (h : Lib.IsBuilderF 70 5 B b bs w) :
    Calls Tryz.prog 121 #[.pointer (some ⟨b, 0, none⟩)] w fun e w' => e = .returned (.int .i64 bs.length) ∧ w' = w := Any.Builder_Len_f Tryz.lays170 B b bs w h
open Go.RowKit in
theorem Tryz.Builder_String_any_k (B b : Nat) (l : List UInt8) (w : World) (h : Lib.IsBuilderF 70 5 B b (Lib.byteCells l) w) (hBw : B ≤ w.heap.size) :
    Calls Tryz.prog 43 #[.pointer (some ⟨b, 0, none⟩)] w fun e w' => e = .returned (.string ⟨l.toArray⟩) ∧ (Lib.IsBuilderF 70 5 B b (Lib.byteCells l) w' ∧ Below B w w' ∧ Lib.OthersKept 5 (some b) w w') := Any.Builder_String_any_k Tryz.lays169 Tryz.Builder_Extra_169 B b l w h hBw
def Tryz.lays105_ren : Go.Shelf.Ren := ⟨fun | 105 => 119 | 212 => 123 | 99 => 124 | 165 => 125 | 166 => 96 | 170 => 121 | 169 => 43 | 263 => 133 | 264 => 134 | 206 => 135 | 240 => 99 | 241 => 136 | 276 => 100 | 277 => 141 | n => n, fun | 9 => 9 | 3 => 3 | 4 => 4 | 20 => 20 | 0 => 0 | 46 => 82 | 109 => 165 | 5 => 5 | 72 => 70 | 76 => 155 | 51 => 77 | 146 => 175 | 53 => 94 | 148 => 177 | 70 => 68 | 37 => 22 | 75 => 154 | 127 => 88 | 164 => 160 | 80 => 72 | n => n, fun | n => n⟩
theorem Tryz.lays105 : Go.Proofs.Lays.n105 Tryz.prog Tryz.lays105_ren := {
  mixed := by kernel_rfl
  f99 := Tryz.func124.trans (congrArg some (by kernel_rfl))
  f105 := Tryz.func119.trans (congrArg some (by kernel_rfl))
  f165 := Tryz.func125.trans (congrArg some (by kernel_rfl))
  f166 := Tryz.func96.trans (congrArg some (by kernel_rfl))
  f169 := Tryz.func43.trans (congrArg some (by kernel_rfl))
  f170 := Tryz.func121.trans (congrArg some (by kernel_rfl))
  f206 := Tryz.func135.trans (congrArg some (by kernel_rfl))
  f212 := Tryz.func123.trans (congrArg some (by kernel_rfl))
  f240 := Tryz.func99.trans (congrArg some (by kernel_rfl))
  f241 := Tryz.func136.trans (congrArg some (by kernel_rfl))
  f263 := Tryz.func133.trans (congrArg some (by kernel_rfl))
  f264 := Tryz.func134.trans (congrArg some (by kernel_rfl))
  f276 := Tryz.func100.trans (congrArg some (by kernel_rfl))
  f277 := Tryz.func141.trans (congrArg some (by kernel_rfl))
  t0 := Tryz.underlying0
  a0 := Tryz.isAgg0
  z0 := Tryz.sizeOf0
  v0 := Tryz.zeroValue0
  t3 := Tryz.underlying3
  a3 := Tryz.isAgg3
  z3 := Tryz.sizeOf3
  v3 := Tryz.zeroValue3
  t4 := Tryz.underlying4
  a4 := Tryz.isAgg4
  z4 := Tryz.sizeOf4
  v4 := Tryz.zeroValue4
  t5 := Tryz.underlying5
  a5 := Tryz.isAgg5
  z5 := Tryz.sizeOf5
  v5 := Tryz.zeroValue5
  t9 := Tryz.underlying9
  a9 := Tryz.isAgg9
  z9 := Tryz.sizeOf9
  v9 := Tryz.zeroValue9
  t20 := Tryz.underlying20
  a20 := Tryz.isAgg20
  z20 := Tryz.sizeOf20
  v20 := Tryz.zeroValue20
  t37 := Tryz.underlying22
  a37 := Tryz.isAgg22
  z37 := Tryz.sizeOf22
  v37 := Tryz.zeroValue22
  t46 := Tryz.underlying82
  a46 := Tryz.isAgg82
  z46 := Tryz.sizeOf82
  v46 := Tryz.zeroValue82
  t51 := Tryz.underlying77
  a51 := Tryz.isAgg77
  z51 := Tryz.sizeOf77
  v51 := Tryz.zeroValue77
  t53 := Tryz.underlying94
  a53 := Tryz.isAgg94
  z53 := Tryz.sizeOf94
  v53 := Tryz.zeroValue94
  t70 := Tryz.underlying68
  a70 := Tryz.isAgg68
  z70 := Tryz.sizeOf68
  v70 := Tryz.zeroValue68
  t72 := Tryz.underlying70
  a72 := Tryz.isAgg70
  z72 := Tryz.sizeOf70
  v72 := Tryz.zeroValue70
  t75 := Tryz.underlying154
  a75 := Tryz.isAgg154
  z75 := Tryz.sizeOf154
  v75 := Tryz.zeroValue154
  t76 := Tryz.underlying155
  a76 := Tryz.isAgg155
  z76 := Tryz.sizeOf155
  v76 := Tryz.zeroValue155
  t109 := Tryz.underlying165
  a109 := Tryz.isAgg165
  z109 := Tryz.sizeOf165
  v109 := Tryz.zeroValue165
  t127 := Tryz.underlying88
  a127 := Tryz.isAgg88
  z127 := Tryz.sizeOf88
  v127 := Tryz.zeroValue88
  t146 := Tryz.underlying175
  a146 := Tryz.isAgg175
  z146 := Tryz.sizeOf175
  v146 := Tryz.zeroValue175
  t148 := Tryz.underlying177
  a148 := Tryz.isAgg177
  z148 := Tryz.sizeOf177
  v148 := Tryz.zeroValue177
  t164 := Tryz.underlying160
  a164 := Tryz.isAgg160
  z164 := Tryz.sizeOf160
  v164 := Tryz.zeroValue160 }
theorem Tryz.Builder_Extra_105 : Builder.Extra Tryz.prog Tryz.lays105_ren := {
  sizeBuilder := by kernel_rfl
  liesBuilder := by kernel_rfl
  t5 := Tryz.underlying5
  a5 := Tryz.isAgg5
  z5 := Tryz.sizeOf5
  v5 := Tryz.zeroValue5
  infoByte := by kernel_rfl
  cellsByte := by kernel_rfl
  sizeByte := by kernel_rfl
  neB5 := by decide }
open Go.RowKit Go.Lib in
theorem Tryz.strings_Repeat (s : ByteArray) (c : Nat) (w : World) (hc : c ≤ 9223372036854775807) (hlen : s.size * c ≤ 140737488355328) :
    Calls Tryz.prog 119 #[.string s, .int .i64 c] w fun e w' => e = .returned (.string ⟨(Lib.repeatL s.data.toList c).toArray⟩) ∧ Below w.heap.size w w' := Any.strings_Repeat Tryz.lays105 Tryz.Builder_Extra_105 s c w hc hlen
def Tryz.lays167_ren : Go.Shelf.Ren := ⟨fun | 166 => 96 | 167 => 107 | 240 => 99 | 276 => 100 | n => n, fun | 0 => 0 | 3 => 3 | 4 => 4 | 5 => 5 | 9 => 9 | 20 => 20 | 37 => 22 | 70 => 68 | 72 => 70 | 75 => 154 | 80 => 72 | 164 => 160 | n => n, fun | n => n⟩
theorem Tryz.lays167 : Go.Proofs.Lays.n167 Tryz.prog Tryz.lays167_ren := {
  mixed := by kernel_rfl
  f167 := Tryz.func107.trans (congrArg some (by kernel_rfl))
  f240 := Tryz.func99.trans (congrArg some (by kernel_rfl))
  f276 := Tryz.func100.trans (congrArg some (by kernel_rfl))
  t0 := Tryz.underlying0
  a0 := Tryz.isAgg0
  z0 := Tryz.sizeOf0
  v0 := Tryz.zeroValue0
  t4 := Tryz.underlying4
  a4 := Tryz.isAgg4
  z4 := Tryz.sizeOf4
  v4 := Tryz.zeroValue4
  t5 := Tryz.underlying5
  a5 := Tryz.isAgg5
  z5 := Tryz.sizeOf5
  v5 := Tryz.zeroValue5
  t9 := Tryz.underlying9
  a9 := Tryz.isAgg9
  z9 := Tryz.sizeOf9
  v9 := Tryz.zeroValue9
  t20 := Tryz.underlying20
  a20 := Tryz.isAgg20
  z20 := Tryz.sizeOf20
  v20 := Tryz.zeroValue20
  t37 := Tryz.underlying22
  a37 := Tryz.isAgg22
  z37 := Tryz.sizeOf22
  v37 := Tryz.zeroValue22
  t70 := Tryz.underlying68
  a70 := Tryz.isAgg68
  z70 := Tryz.sizeOf68
  v70 := Tryz.zeroValue68
  t72 := Tryz.underlying70
  a72 := Tryz.isAgg70
  z72 := Tryz.sizeOf70
  v72 := Tryz.zeroValue70
  t75 := Tryz.underlying154
  a75 := Tryz.isAgg154
  z75 := Tryz.sizeOf154
  v75 := Tryz.zeroValue154
  t164 := Tryz.underlying160
  a164 := Tryz.isAgg160
  z164 := Tryz.sizeOf160
  v164 := Tryz.zeroValue160 }
theorem Tryz.Builder_Extra_167 : Builder.Extra Tryz.prog Tryz.lays167_ren := {
  sizeBuilder := by kernel_rfl
  liesBuilder := by kernel_rfl
  t5 := Tryz.underlying5
  a5 := Tryz.isAgg5
  z5 := Tryz.sizeOf5
  v5 := Tryz.zeroValue5
  infoByte := by kernel_rfl
  cellsByte := by kernel_rfl
  sizeByte := by kernel_rfl
  neB5 := by decide }
open Go.RowKit in
theorem Tryz.Builder_WriteByte_k (B b : Nat) (bs : List Value) (c : Int) (w : World) (h : Lib.IsBuilderF 70 5 B b bs w) (hlen : bs.length + 1 ≤ 140737488355328) (hBw : B ≤ w.heap.size) :
    Calls Tryz.prog 107 #[.pointer (some ⟨b, 0, none⟩), .int .u8 c] w fun e w' => e = .returned .nilIface ∧ (Lib.BuilderAtF 70 5 B b (.pointer (some ⟨b, 0, none⟩)) (bs ++ [.int .u8 c]) w' ∧ Below B w w' ∧ Lib.OthersKept 5 (some b) w w') := Any.Builder_WriteByte_k Tryz.lays167 Tryz.Builder_Extra_167 B b bs c w h hlen hBw
def Tryz.lays166_ren : Go.Shelf.Ren := ⟨fun | 166 => 96 | 167 => 107 | 240 => 99 | 276 => 100 | n => n, fun | 0 => 0 | 3 => 3 | 4 => 4 | 5 => 5 | 9 => 9 | 20 => 20 | 37 => 22 | 70 => 68 | 72 => 70 | 75 => 154 | 80 => 72 | 164 => 160 | n => n, fun | n => n⟩
theorem Tryz.lays166 : Go.Proofs.Lays.n166 Tryz.prog Tryz.lays166_ren := {
  mixed := by kernel_rfl
  f166 := Tryz.func96.trans (congrArg some (by kernel_rfl))
  f240 := Tryz.func99.trans (congrArg some (by kernel_rfl))
  f276 := Tryz.func100.trans (congrArg some (by kernel_rfl))
  t0 := Tryz.underlying0
  a0 := Tryz.isAgg0
  z0 := Tryz.sizeOf0
  v0 := Tryz.zeroValue0
  t3 := Tryz.underlying3
  a3 := Tryz.isAgg3
  z3 := Tryz.sizeOf3
  v3 := Tryz.zeroValue3
  t4 := Tryz.underlying4
  a4 := Tryz.isAgg4
  z4 := Tryz.sizeOf4
  v4 := Tryz.zeroValue4
  t9 := Tryz.underlying9
  a9 := Tryz.isAgg9
  z9 := Tryz.sizeOf9
  v9 := Tryz.zeroValue9
  t20 := Tryz.underlying20
  a20 := Tryz.isAgg20
  z20 := Tryz.sizeOf20
  v20 := Tryz.zeroValue20
  t37 := Tryz.underlying22
  a37 := Tryz.isAgg22
  z37 := Tryz.sizeOf22
  v37 := Tryz.zeroValue22
  t70 := Tryz.underlying68
  a70 := Tryz.isAgg68
  z70 := Tryz.sizeOf68
  v70 := Tryz.zeroValue68
  t72 := Tryz.underlying70
  a72 := Tryz.isAgg70
  z72 := Tryz.sizeOf70
  v72 := Tryz.zeroValue70
  t75 := Tryz.underlying154
  a75 := Tryz.isAgg154
  z75 := Tryz.sizeOf154
  v75 := Tryz.zeroValue154
  t164 := Tryz.underlying160
  a164 := Tryz.isAgg160
  z164 := Tryz.sizeOf160
  v164 := Tryz.zeroValue160 }
theorem Tryz.Builder_Extra_166 : Builder.Extra Tryz.prog Tryz.lays166_ren := {
  sizeBuilder := by kernel_rfl
  liesBuilder := by kernel_rfl
  t5 := Tryz.underlying5
  a5 := Tryz.isAgg5
  z5 := Tryz.sizeOf5
  v5 := Tryz.zeroValue5
  infoByte := by kernel_rfl
  cellsByte := by kernel_rfl
  sizeByte := by kernel_rfl
  neB5 := by decide }
open Go.RowKit in
theorem Tryz.Builder_WriteString_k (B b : Nat) (bs : List Value) (s : ByteArray) (w : World) (h : Lib.IsBuilderF 70 5 B b bs w) (hlen : bs.length + s.size ≤ 140737488355328) (hBw : B ≤ w.heap.size) :
    Calls Tryz.prog 96 #[.pointer (some ⟨b, 0, none⟩), .string s] w fun e w' => e = .returned (.tuple #[.int .i64 s.size, .nilIface]) ∧ (Lib.BuilderAtF 70 5 B b (.pointer (some ⟨b, 0, none⟩)) (bs ++ Lib.strCells s) w' ∧ Below B w w' ∧ Lib.OthersKept 5 (some b) w w') := Any.Builder_WriteString_k Tryz.lays166 Tryz.Builder_Extra_166 B b bs s w h hlen hBw
def Tryz.laysM316_ren : Go.Shelf.Ren := ⟨fun | 316 => 114 | n => n, fun | 9 => 9 | 3 => 3 | 4 => 4 | 37 => 22 | 0 => 0 | 127 => 88 | 5 => 5 | n => n, fun | n => n⟩
theorem Tryz.laysM316 : Go.Proofs.LaysM.n316 Tryz.prog Tryz.laysM316_ren := {
  mixed := by kernel_rfl
  f316 := Tryz.func114.trans (congrArg some (by kernel_rfl))
  t0 := Tryz.underlying0
  a0 := Tryz.isAgg0
  z0 := Tryz.sizeOf0
  v0 := Tryz.zeroValue0
  t3 := Tryz.underlying3
  a3 := Tryz.isAgg3
  z3 := Tryz.sizeOf3
  v3 := Tryz.zeroValue3
  t4 := Tryz.underlying4
  a4 := Tryz.isAgg4
  z4 := Tryz.sizeOf4
  v4 := Tryz.zeroValue4
  t9 := Tryz.underlying9
  a9 := Tryz.isAgg9
  z9 := Tryz.sizeOf9
  v9 := Tryz.zeroValue9
  t37 := Tryz.underlying22
  a37 := Tryz.isAgg22
  z37 := Tryz.sizeOf22
  v37 := Tryz.zeroValue22
  t127 := Tryz.underlying88
  a127 := Tryz.isAgg88
  z127 := Tryz.sizeOf88
  v127 := Tryz.zeroValue88
  t5 := Tryz.underlying5
  a5 := Tryz.isAgg5
  z5 := Tryz.sizeOf5
  v5 := Tryz.zeroValue5
  i0 := by kernel_rfl
  i3 := by kernel_rfl
  i4 := by kernel_rfl
  i5 := by kernel_rfl
  i9 := by kernel_rfl
  i37 := by kernel_rfl
  i127 := by kernel_rfl }
open Go.RowKit in
theorem Tryz.stringslite_Clone (s : ByteArray) (w : World) (hlim : s.size ≤ 281474976710656) :
    Calls Tryz.prog 114 #[.string s] w fun e w' => e = .returned (.string s) ∧ Below w.heap.size w w' := Any.stringslite_Clone Tryz.laysM316 s w hlim
def Tryz.lays160_ren : Go.Shelf.Ren := ⟨fun | 160 => 122 | 232 => 127 | 231 => 126 | 227 => 128 | 234 => 130 | 233 => 129 | 236 => 132 | 235 => 131 | 228 => 137 | 271 => 140 | 151 => 139 | 197 => 138 | 120 => 144 | 152 => 143 | 260 => 142 | 137 => 145 | 119 => 146 | 224 => 147 | 225 => 148 | 217 => 149 | 266 => 150 | n => n, fun | 9 => 9 | 4 => 4 | 3 => 3 | 5 => 5 | 117 => 171 | 116 => 170 | 0 => 0 | 124 => 174 | 21 => 21 | 105 => 180 | 46 => 82 | 119 => 185 | 139 => 188 | 138 => 187 | n => n, fun | 3 => 2 | 4 => 3 | n => n⟩
theorem Tryz.lays160 : Go.Proofs.Lays.n160 Tryz.prog Tryz.lays160_ren := {
  mixed := by kernel_rfl
  f119 := Tryz.func146.trans (congrArg some (by kernel_rfl))
  f120 := Tryz.func144.trans (congrArg some (by kernel_rfl))
  f137 := Tryz.func145.trans (congrArg some (by kernel_rfl))
  f151 := Tryz.func139.trans (congrArg some (by kernel_rfl))
  f152 := Tryz.func143.trans (congrArg some (by kernel_rfl))
  f160 := Tryz.func122.trans (congrArg some (by kernel_rfl))
  f197 := Tryz.func138.trans (congrArg some (by kernel_rfl))
  f217 := Tryz.func149.trans (congrArg some (by kernel_rfl))
  f224 := Tryz.func147.trans (congrArg some (by kernel_rfl))
  f225 := Tryz.func148.trans (congrArg some (by kernel_rfl))
  f227 := Tryz.func128.trans (congrArg some (by kernel_rfl))
  f228 := Tryz.func137.trans (congrArg some (by kernel_rfl))
  f231 := Tryz.func126.trans (congrArg some (by kernel_rfl))
  f232 := Tryz.func127.trans (congrArg some (by kernel_rfl))
  f233 := Tryz.func129.trans (congrArg some (by kernel_rfl))
  f234 := Tryz.func130.trans (congrArg some (by kernel_rfl))
  f235 := Tryz.func131.trans (congrArg some (by kernel_rfl))
  f236 := Tryz.func132.trans (congrArg some (by kernel_rfl))
  f260 := Tryz.func142.trans (congrArg some (by kernel_rfl))
  f266 := Tryz.func150.trans (congrArg some (by kernel_rfl))
  f271 := Tryz.func140.trans (congrArg some (by kernel_rfl))
  t0 := Tryz.underlying0
  a0 := Tryz.isAgg0
  z0 := Tryz.sizeOf0
  v0 := Tryz.zeroValue0
  t3 := Tryz.underlying3
  a3 := Tryz.isAgg3
  z3 := Tryz.sizeOf3
  v3 := Tryz.zeroValue3
  t4 := Tryz.underlying4
  a4 := Tryz.isAgg4
  z4 := Tryz.sizeOf4
  v4 := Tryz.zeroValue4
  t5 := Tryz.underlying5
  a5 := Tryz.isAgg5
  z5 := Tryz.sizeOf5
  v5 := Tryz.zeroValue5
  t9 := Tryz.underlying9
  a9 := Tryz.isAgg9
  z9 := Tryz.sizeOf9
  v9 := Tryz.zeroValue9
  t21 := Tryz.underlying21
  a21 := Tryz.isAgg21
  z21 := Tryz.sizeOf21
  v21 := Tryz.zeroValue21
  t46 := Tryz.underlying82
  a46 := Tryz.isAgg82
  z46 := Tryz.sizeOf82
  v46 := Tryz.zeroValue82
  t105 := Tryz.underlying180
  a105 := Tryz.isAgg180
  z105 := Tryz.sizeOf180
  v105 := Tryz.zeroValue180
  t116 := Tryz.underlying170
  a116 := Tryz.isAgg170
  z116 := Tryz.sizeOf170
  t117 := Tryz.underlying171
  a117 := Tryz.isAgg171
  z117 := Tryz.sizeOf171
  v117 := Tryz.zeroValue171
  t119 := Tryz.underlying185
  a119 := Tryz.isAgg185
  z119 := Tryz.sizeOf185
  t124 := Tryz.underlying174
  a124 := Tryz.isAgg174
  z124 := Tryz.sizeOf174
  v124 := Tryz.zeroValue174
  t138 := Tryz.underlying187
  a138 := Tryz.isAgg187
  z138 := Tryz.sizeOf187
  v138 := Tryz.zeroValue187
  t139 := Tryz.underlying188
  a139 := Tryz.isAgg188
  z139 := Tryz.sizeOf188
  v139 := Tryz.zeroValue188
  g3 := by kernel_rfl
  g4 := by kernel_rfl }
open Go.RowKit in
theorem Tryz.strings_Trim_one (s : ByteArray) (c : UInt8) (hc : c.toNat < 128) (w : World) (hs : s.size ≤ 9223372036854775807) :
    Calls Tryz.prog 122 #[.string s, .string ⟨#[c]⟩] w fun e w' => e = .returned (.string ⟨(Lib.trimB s.data.toList c).toArray⟩) ∧ (w' = w ∨ w' = w.drew) := Any.strings_Trim_one Tryz.lays160 s c hc w hs
end Go.Proofs
