import Derived.Test.YtfmpjlpakldheaaGreatDoorZyad
import Derived.Test.YtfmpjlpakldheaaGreatDoorProg
import Derived.Test.YtfmpjlpakldheaaGreatDoorZyaa
import Derived.WalkSpells
import Derived.WalkLawsBesides
import Derived.StillTactics
import Derived.Laws.Pointers
import Derived.Deep.RegionHeld3
import Derived.Deep.AppendLies
import Derived.WalkKit
namespace Go.Proofs.YtfmpjlpakldheaaGreatDoor
open Go.RowKit Go.Proofs.Sha

/-- A number in four bytes, the lowest first. -/
def four (n : Nat) : List UInt8 := [UInt8.ofNat (n % 256), UInt8.ofNat (n / 256 % 256), UInt8.ofNat (n / 65536 % 256), UInt8.ofNat (n / 16777216 % 256)]

set_option maxRecDepth 100000 in
set_option maxHeartbeats 400000 in
theorem four_any (n : Nat) (hn : n ≤ 1048576) (w : World) :
    Calls Tryz.prog 163 #[.int .i64 (n : Int)] w fun e w' => ∃ t : ByteArray, e = .returned (.string t) ∧ t.size ≤ 4 ∧ Hid (t = T (four n)) ∧ Below w.heap.size w w' := by
  go_enter Tryz.func163, Tryz.ntmps163
  go_wp2_with fail
  refine (byte_i _ (by omega) (by omega) _).mono ?_
  rintro e w1 ⟨t1, rfl, hz1, HT1, hb1⟩
  go_wp2_with fail
  refine (byte_i _ (by omega) (by omega) _).mono ?_
  rintro e w2 ⟨t2, rfl, hz2, HT2, hb2⟩
  go_wp2_with fail
  refine (byte_i _ (by omega) (by omega) _).mono ?_
  rintro e w3 ⟨t3, rfl, hz3, HT3, hb3⟩
  go_wp2_with fail
  refine (byte_i _ (by omega) (by omega) _).mono ?_
  rintro e w4 ⟨t4, rfl, hz4, HT4, hb4⟩
  have hf : ¬ (9223372036854775807 < t1.size + t2.size + t3.size + t4.size) := by omega
  go_wp2
  go_ret
  refine ⟨t1 ++ t2 ++ t3 ++ t4, rfl, by simp only [ByteArray.size_append]; omega, ?_, ((hb1.trans (hb2.mono hb1.size)).trans (hb3.mono (Nat.le_trans hb1.size hb2.size))).trans (hb4.mono (Nat.le_trans (Nat.le_trans hb1.size hb2.size) hb3.size))⟩
  show t1 ++ t2 ++ t3 ++ t4 = T (four n)
  rw [HT1.out, HT2.out, HT3.out, HT4.out, byteS_T, byteS_T, byteS_T, byteS_T, T_append, T_append, T_append]
  have e1 : ((n : Int) % 256).toNat = n % 256 := by omega
  have e2 : ((n : Int) / 256 % 256).toNat = n / 256 % 256 := by omega
  have e3 : ((n : Int) / 65536 % 256).toNat = n / 65536 % 256 := by omega
  have e4 : ((n : Int) / 16777216 % 256).toNat = n / 16777216 % 256 := by omega
  rw [e1, e2, e3, e4]; rfl

def reps (n : Nat) (c : UInt8) : ByteArray := T (List.replicate n c)
theorem reps_size (n : Nat) (c : UInt8) : (reps n c).size = n := by unfold reps; rw [T_size, List.length_replicate]
theorem reps_add (n m : Nat) (c : UInt8) : reps n c ++ reps m c = reps (n + m) c := by unfold reps; rw [T_append, List.replicate_append_replicate]

set_option maxRecDepth 100000 in
set_option maxHeartbeats 400000 in
theorem long_any (c : UInt8) (n : Nat) : ∀ (_hn : n ≤ 1048576) (w : World),
    Calls Tryz.prog 89 #[.int .i64 (n : Int), .string ⟨#[c]⟩] w fun e w' => ∃ t : ByteArray, e = .returned (.string t) ∧ t.size = n ∧ Hid (t = reps n c) ∧ Below w.heap.size w w' := by
  induction n using Nat.strongRecOn with
  | ind n ih =>
  intro hn w
  have hU : Hid ((⟨#[c]⟩ : ByteArray) = reps 1 c ∧ (⟨#[c]⟩ : ByteArray).size = 1) := ⟨rfl, rfl⟩
  by_cases h0 : 0 < n
  · have z0 : decide ((0 : Int) < (n : Int)) = true := by simp; omega
    have hu : (⟨#[c]⟩ : ByteArray).size = 1 := rfl
    obtain ⟨u, hu'⟩ : ∃ u : ByteArray, ⟨#[c]⟩ = u := ⟨_, rfl⟩
    rw [hu'] at hU hu ih ⊢
    clear hu'
    go_enter Tryz.func89, Tryz.ntmps89
    go_wp2_with fail
    go_loopw [5] (fun t wr => ∃ (m : Nat) (x : ByteArray), 1 ≤ m ∧ m ≤ n ∧ t = .string x ∧ x.size = m ∧ Hid (x = reps m c) ∧ wr = w) (fun t _ => n - (match t with | .string x => x.size | _ => 0))
    case atStart => exact ⟨1, u, by omega, by omega, rfl, hu, hU.out.1, rfl⟩
    case round =>
      obtain ⟨m, x, hm1, hm2, rfl, hx, HX, rfl⟩ := hrel
      by_cases h1 : 2 * m ≤ n
      · have z1 : decide ((x.size : Int) * 2 ≤ (n : Int)) = true := by simp; omega
        go_wp2_with fail
        refine ⟨⟨m + m, x ++ x, by omega, by omega, rfl, by rw [ByteArray.size_append, hx], ?_, trivial⟩, ?_⟩
        · show x ++ x = _
          rw [HX.out, reps_add]
        · show n - (x ++ x).size < n - x.size
          rw [ByteArray.size_append, hx]; omega
      · have z1 : decide ((x.size : Int) * 2 ≤ (n : Int)) = false := by simp; omega
        by_cases h2 : m < n
        · have z2 : decide ((x.size : Int) < (n : Int)) = true := by simp; omega
          have z3 : IntKind.i64.wrap ((n : Int) - (m : Int)) = ((n - m : Nat) : Int) := by rw [wrap_i64_in _ (by omega) (by omega)]; omega
          go_wp2_with fail
          refine (ih (n - m) (by omega) (by omega) _).mono ?_
          rintro e w1 ⟨t, rfl, ht, HT, hb⟩
          have z4 : ¬ (9223372036854775807 < x.size + t.size) := by omega
          go_wp2
          go_ret
          refine ⟨x ++ t, rfl, by rw [ByteArray.size_append]; omega, ?_, hb⟩
          show x ++ t = _
          rw [HX.out, HT.out, reps_add]
          congr 1
          omega
        · have z2 : decide ((x.size : Int) < (n : Int)) = false := by simp; omega
          go_wp2
          go_ret
          exact ⟨x, rfl, by omega, by show x = _; rw [HX.out]; congr 1; omega, Below.refl _ _⟩
  · have hn0 : n = 0 := by omega
    subst hn0
    clear ih
    go_enter Tryz.func89, Tryz.ntmps89
    go_wp2_with fail
    go_loopw [5] (fun t wr => t = .string ⟨#[]⟩ ∧ wr = w) (fun _ _ => 0)
    case atStart => exact ⟨rfl, rfl⟩
    case round =>
      obtain ⟨rfl, rfl⟩ := hrel
      go_wp2
      go_ret
      exact ⟨⟨#[]⟩, rfl, rfl, rfl, Below.refl _ _⟩
end Go.Proofs.YtfmpjlpakldheaaGreatDoor
namespace Go.Proofs.YtfmpjlpakldheaaGreatDoor
open Go.RowKit Go.Proofs.Sha

/-- 63 bytes from a place on, zeros behind the end. -/
def part63 (s : List UInt8) (a : Nat) : List UInt8 := (s.drop a).take 63 ++ List.replicate (63 - (s.length - a)) 0
theorem part63_length (s : List UInt8) (a : Nat) : (part63 s a).length = 63 := by
  unfold part63; rw [List.length_append, List.length_take, List.length_drop, List.length_replicate]; omega
/-- The first q sectors. -/
def markedTo (s f m : List UInt8) : Nat → List UInt8
  | 0 => []
  | q + 1 => markedTo s f m q ++ part63 s (63 * q) ++ (if q = 0 then f else m)
theorem markedTo_length (s f m : List UInt8) (hf : f.length ≤ 1) (hm : m.length ≤ 1) (q : Nat) : (markedTo s f m q).length ≤ 64 * q := by
  induction q with
  | zero => exact Nat.le_refl _
  | succ q ih =>
    rw [markedTo, List.length_append, List.length_append, part63_length]
    split <;> omega
def marked (s f m : List UInt8) : List UInt8 := markedTo s f m ((s.length + 62) / 63)

theorem full_part (s : ByteArray) (a : Nat) (h : a + 63 ≤ s.size) : s.extract a (a + 63) = T (part63 s.data.toList a) := by
  conv => lhs; rw [← T_of s, T_extract]
  have e : 63 - (s.data.toList.length - a) = 0 := by show 63 - (s.size - a) = 0; omega
  unfold part63
  rw [e, List.replicate_zero, List.append_nil, Nat.add_sub_cancel_left]
theorem last_part (s : ByteArray) (a n : Nat) (h : s.size < a + 63) (ha : a ≤ s.size) (hn : n = a + 63 - s.size) : s.extract a s.size ++ reps n 0 = T (part63 s.data.toList a) := by
  conv => lhs; rw [← T_of s, T_extract]
  unfold part63 reps
  rw [T_append]
  have e : 63 - (s.data.toList.length - a) = n := by show 63 - (s.size - a) = n; omega
  rw [e, List.take_of_length_le (by rw [List.length_drop, T_size]; exact Nat.le_refl _), List.take_of_length_le (by rw [List.length_drop]; show s.size - a ≤ 63; omega)]

theorem next_sector {s f m x p y : ByteArray} {q a : Nat} (ha : 63 * q = a) (hx : x = T (markedTo s.data.toList f.data.toList m.data.toList q)) (hp : p = T (part63 s.data.toList a)) (hy : y = if q = 0 then f else m) :
    x ++ p ++ y = T (markedTo s.data.toList f.data.toList m.data.toList (q + 1)) := by
  rw [hx, hp, markedTo, ← T_append, ← T_append, ha, hy]
  congr 1
  split
  · exact (T_of f).symm
  · exact (T_of m).symm

set_option maxRecDepth 100000 in
set_option maxHeartbeats 1000000 in
theorem marked_any (s f m : ByteArray) (w : World) (hs : s.size ≤ 1000000) (hf : f.size ≤ 1) (hm : m.size ≤ 1) :
    Calls Tryz.prog 162 #[.string s, .string f, .string m] w fun e w' => ∃ t : ByteArray, e = .returned (.string t) ∧ Hid (t = T (marked s.data.toList f.data.toList m.data.toList)) ∧ Below w.heap.size w w' := by
  have HL := markedTo_length s.data.toList f.data.toList m.data.toList hf hm
  go_enter Tryz.func162, Tryz.ntmps162
  go_wp2_with fail
  go_loopw [7, 8] (fun t7 t8 wr => ∃ (q : Nat) (x : ByteArray), q ≤ (s.size + 62) / 63 ∧ t7 = .string x ∧ t8 = .int .i64 ((63 * q : Nat) : Int) ∧ x.size ≤ 64 * q ∧ Hid (x = T (markedTo s.data.toList f.data.toList m.data.toList q)) ∧ Below w.heap.size w wr) (fun _ t8 _ => s.size + 63 - (intOf t8).toNat)
  case atStart => exact ⟨0, ⟨#[]⟩, by omega, rfl, rfl, Nat.le_refl _, rfl, Below.refl _ _⟩
  case round =>
    obtain ⟨q, x, hq, rfl, rfl, hx, HX, hb⟩ := hrel
    obtain ⟨a, ha⟩ : ∃ a, 63 * q = a := ⟨_, rfl⟩
    rw [ha]
    by_cases h1 : a < s.size
    · have z1 : decide ((a : Int) < (s.size : Int)) = true := by simp; omega
      have z2 : IntKind.i64.wrap ((a : Int) + 63) = (a : Int) + 63 := wrap_i64_in _ (by omega) (by omega)
      have z3 : (0 : Int) ≤ (a : Int) := by omega
      have z4 : (a : Int) ≤ (s.size : Int) := by omega
      by_cases h2 : a + 63 ≤ s.size
      · have y1 : decide ((a : Int) + 63 ≤ (s.size : Int)) = true := by simp; omega
        have y2 : (a : Int) ≤ (a : Int) + 63 := by omega
        have y3 : (a : Int) + 63 ≤ (s.size : Int) := by omega
        by_cases h3 : q = 0
        · have x1 : ((a : Int) == 0) = true := by rw [beq_iff_eq]; omega
          go_wp2_with fail
          have HE := next_sector (y := f) ha HX.out (full_part s a h2) (by rw [if_pos h3])
          refine ⟨⟨q + 1, _, by omega, rfl, congrArg (Value.int .i64) (by omega), ?_, HE, hb⟩, ?_⟩
          · rw [HE]; exact HL (q + 1)
          · show s.size + 63 - ((a : Int) + 63).toNat < s.size + 63 - ((a : Int)).toNat
            omega
        · have x1 : ((a : Int) == 0) = false := by rw [beq_eq_false_iff_ne]; omega
          go_wp2_with fail
          have HE := next_sector (y := m) ha HX.out (full_part s a h2) (by rw [if_neg h3])
          refine ⟨⟨q + 1, _, by omega, rfl, congrArg (Value.int .i64) (by omega), ?_, HE, hb⟩, ?_⟩
          · rw [HE]; exact HL (q + 1)
          · show s.size + 63 - ((a : Int) + 63).toNat < s.size + 63 - ((a : Int)).toNat
            omega
      · have y1 : decide ((a : Int) + 63 ≤ (s.size : Int)) = false := by simp; omega
        have y2 : IntKind.i64.wrap ((a : Int) + 63 - (s.size : Int)) = ((a + 63 - s.size : Nat) : Int) := by rw [wrap_i64_in _ (by omega) (by omega)]; omega
        go_wp2_with fail
        go_region_held3 (fun _ => True) (exact trivial)
          (first | (go_at_call 89; refine (long_any 0 (a + 63 - s.size) (by omega) _).mono ?_; rintro e wA ⟨t, rfl, zt, HT, hbA⟩; have fB : ¬ (9223372036854775807 < s.size - a + t.size) := (by omega); clear zt))
        have hP : s.extract a s.size ++ t = T (part63 s.data.toList a) := by rw [HT.out]; exact last_part s a _ (by omega) (by omega) rfl
        have hz : (s.extract a s.size ++ t).size = 63 := by rw [hP, T_size, part63_length]
        generalize s.extract a s.size ++ t = p at hP hz ⊢
        have HP : Hid (p = T (part63 s.data.toList a)) := hP
        have hz' : p.size ≤ 63 := by omega
        have hbB : Below w.heap.size w wA := hb.drew.trans (hbA.mono hb.size)
        clear hP hz hbA HT
        have v1 : ¬ (9223372036854775807 < x.size + p.size) := by omega
        have v2 : ¬ (9223372036854775807 < x.size + p.size + f.size) := by omega
        have v3 : ¬ (9223372036854775807 < x.size + p.size + m.size) := by omega
        by_cases h3 : q = 0
        · have x1 : ((a : Int) == 0) = true := by rw [beq_iff_eq]; omega
          go_wp2_with fail
          have HE := next_sector (y := f) ha HX.out HP.out (by rw [if_pos h3])
          refine ⟨⟨q + 1, _, by omega, rfl, congrArg (Value.int .i64) (by omega), ?_, HE, hbB⟩, ?_⟩
          · rw [HE]; exact HL (q + 1)
          · show s.size + 63 - ((a : Int) + 63).toNat < s.size + 63 - ((a : Int)).toNat
            omega
        · have x1 : ((a : Int) == 0) = false := by rw [beq_eq_false_iff_ne]; omega
          go_wp2_with fail
          have HE := next_sector (y := m) ha HX.out HP.out (by rw [if_neg h3])
          refine ⟨⟨q + 1, _, by omega, rfl, congrArg (Value.int .i64) (by omega), ?_, HE, hbB⟩, ?_⟩
          · rw [HE]; exact HL (q + 1)
          · show s.size + 63 - ((a : Int) + 63).toNat < s.size + 63 - ((a : Int)).toNat
            omega
    · have z1 : decide ((a : Int) < (s.size : Int)) = false := by simp; omega
      go_wp2
      go_ret
      refine ⟨x, rfl, ?_, hb⟩
      show x = _
      rw [HX.out, marked]
      congr 2
      show q = (s.size + 62) / 63
      omega
end Go.Proofs.YtfmpjlpakldheaaGreatDoor
namespace Go.Proofs.YtfmpjlpakldheaaGreatDoor
open Go.RowKit Go.Proofs.Sha

/-- What CommitRecord answers. -/
def commitRec (v : Int) (root : ByteArray) : ByteArray := if 1 ≤ v ∧ v ≤ 1000000 ∧ root.size ≤ 32 then T (marked (four v.toNat ++ [UInt8.ofNat root.size] ++ root.data.toList) [67] []) else ⟨#[]⟩

set_option maxRecDepth 100000 in
set_option maxHeartbeats 400000 in
theorem commitRec_any (v : Int) (root : ByteArray) (w : World) (hs : root.size ≤ 1048576) :
    Calls Tryz.prog 131 #[.int .i64 v, .string root] w fun e w' => ∃ t, e = .returned (.string t) ∧ Hid (t = commitRec v root) ∧ Below w.heap.size w w' := by
  by_cases h : 1 ≤ v ∧ v ≤ 1000000 ∧ root.size ≤ 32
  · obtain ⟨n, rfl⟩ := Int.eq_ofNat_of_zero_le (show 0 ≤ v by omega)
    have z1 : decide ((n : Int) < 1) = false := by simp; omega
    have z2 : decide ((1000000 : Int) < (n : Int)) = false := by simp; omega
    have z3 : decide ((32 : Int) < (root.size : Int)) = false := by simp; omega
    go_enter Tryz.func131, Tryz.ntmps131
    go_wp2_with fail
    refine (four_any n (by omega) _).mono ?_
    rintro e w1 ⟨t, rfl, ht, HT, hb⟩
    go_wp2_with fail
    refine (byte_i _ (by omega) (by omega) _).mono ?_
    rintro e w2 ⟨t2, rfl, ht2, HT2, hb2⟩
    have z4 : ¬ (9223372036854775807 < t.size + t2.size) := by omega
    have z5 : ¬ (9223372036854775807 < t.size + t2.size + root.size) := by omega
    go_wp2_with fail
    refine (marked_any _ ⟨#[67]⟩ ⟨#[]⟩ _ (by rw [ByteArray.size_append, ByteArray.size_append]; omega) (Nat.le_refl _) (Nat.zero_le _)).mono ?_
    rintro e w3 ⟨x, rfl, HX, hb3⟩
    go_wp2
    go_ret
    refine ⟨x, rfl, ?_, (hb.trans (hb2.mono hb.size)).trans (hb3.mono (Nat.le_trans hb.size hb2.size))⟩
    show x = _
    rw [HX.out, HT.out, HT2.out, byteS_T, commitRec, if_pos h]
    conv => lhs; rw [← T_of root, T_append, T_append]
    rw [T_of, Int.toNat_natCast, Int.toNat_natCast]; rfl
  · have HR : Hid (commitRec v root = ⟨#[]⟩) := by show commitRec v root = _; rw [commitRec, if_neg h]
    by_cases h1 : v < 1
    · have z1 : decide (v < 1) = true := by simpa using h1
      go_enter Tryz.func131, Tryz.ntmps131
      go_wp2
      go_ret
      exact ⟨_, rfl, HR.out.symm, Below.refl _ _⟩
    by_cases h2 : 1000000 < v
    · have z1 : decide (v < 1) = false := by simpa using h1
      have z2 : decide (1000000 < v) = true := by simpa using h2
      go_enter Tryz.func131, Tryz.ntmps131
      go_wp2
      go_ret
      exact ⟨_, rfl, HR.out.symm, Below.refl _ _⟩
    · have z1 : decide (v < 1) = false := by simpa using h1
      have z2 : decide (1000000 < v) = false := by simpa using h2
      have z3 : decide ((32 : Int) < (root.size : Int)) = true := by simp; omega
      go_enter Tryz.func131, Tryz.ntmps131
      go_wp2
      go_ret
      exact ⟨_, rfl, HR.out.symm, Below.refl _ _⟩
end Go.Proofs.YtfmpjlpakldheaaGreatDoor
namespace Go.Proofs.YtfmpjlpakldheaaGreatDoor
open Go.RowKit Go.Proofs.Sha

theorem info5 : (Tryz.prog.info? 5).map (fun i => (i.zero, i.size, i.bytes)) = some (some (.int .u8 0), 1, 1) := by kernel_rfl

set_option maxRecDepth 100000 in
set_option maxHeartbeats 400000 in
theorem padded_any (s : ByteArray) (w : World) (hs : s.size ≤ 1048576) :
    Calls Tryz.prog 106 #[.string s] w fun e w' => ∃ g cap, e = .returned (.slice (some ⟨g, 0, none⟩) (pad s.data.toList).length cap) ∧ Row w' w.heap.size g (pad s.data.toList).length cap ((pad s.data.toList).map B) ∧ Below w.heap.size w w' := by
  obtain ⟨i0, hi0, hz0, hz1, hz2⟩ := info_parts info5
  have hl : s.data.toList.length = s.size := rfl
  go_enter Tryz.func106, Tryz.ntmps106
  go_wp2_with (first | (refine wpList_bytes_row _ rfl (.tmp 6) 9 22 5 rfl s rfl Tryz.underlying9 Tryz.underlying22 Tryz.underlying5 ?_; intro g0 cap0 w0 hrow0 hbel0) | (at_builtin; refine wpList_append_row _ rfl (.tmp 8) (.tmp 9) 22 rfl 5 i0 (.int .u8 0) 1 Tryz.underlying22 hi0 hz0 hz1 hz2 rfl w.heap.size g0 s.size cap0 _ rfl (hrow0.alloc _) ⟨w0.heap.size, 0, none⟩ 1 1 [.int .u8 128] rfl rfl (World.news_of_block (heap_alloc_new w0 _)) (by simp [Value.oneCell']) (by unfold maxLen; omega) (by omega) (by have := hbel0.size; simp; omega) (w0.heap.size + 1) (by simp) ?_; intro g1 cap1 w1 hrow1 hgrow1 _ _))
  have hbel1 : Below w.heap.size w w1 := (hbel0.alloc hbel0.size _).grown hgrow1 (by have := hbel0.size; simp; omega) (fun q hq => by cases hq; exact hrow0.ge)
  have hrow1' : Row w1 w.heap.size g1 (s.size + 1 + 0) cap1 ((s.data.toList ++ [128] ++ List.replicate 0 0).map B) := by simpa [B] using hrow1
  clear hgrow1 hrow1 hrow0 hbel0
  go_loopw [3] (fun v wr => ∃ j g cap : Nat, j ≤ zpad s.size ∧ v = .slice (some ⟨g, 0, none⟩) (s.size + 1 + j) cap ∧ Row wr w.heap.size g (s.size + 1 + j) cap ((s.data.toList ++ [128] ++ List.replicate j 0).map B) ∧ Below w.heap.size w wr) (fun v _ => zpad s.size + s.size + 1 - lenOf v)
  case atStart => exact ⟨0, g1, cap1, Nat.zero_le _, rfl, hrow1', hbel1⟩
  case round =>
    clear hrow1' hbel1
    obtain ⟨j, g, cap, hj, rfl, hrow, hbel⟩ := hrel
    have hsz := hbel.size
    have hge := hrow.ge
    have hz := zpad_lt s.size
    by_cases hlt : j < zpad s.size
    · have hm := zpad_ne s.size j hlt
      go_wp2_with (at_builtin; refine wpList_append_row _ rfl (.tmp 15) (.tmp 16) 22 rfl 5 i0 (.int .u8 0) 1 Tryz.underlying22 hi0 hz0 hz1 hz2 rfl w.heap.size g (s.size + 1 + j) cap _ rfl (hrow.alloc _) ⟨wr.heap.size, 0, none⟩ 1 1 [.int .u8 0] rfl rfl (World.news_of_block (heap_alloc_new wr _)) (by simp [Value.oneCell']) (by unfold maxLen; omega) (by omega) (by simp; omega) (wr.heap.size + 1) (by simp) ?_; intro g2 cap2 w2 hrow2 hgrow2 _ _)
      go_roundw
      case rel =>
        have e : (s.data.toList ++ [128] ++ List.replicate j 0).map B ++ [.int .u8 0] = (s.data.toList ++ [128] ++ List.replicate (j + 1) 0).map B := by
          rw [List.replicate_succ', ← List.append_assoc, List.map_append (l₂ := [0])]; rfl
        rw [e] at hrow2
        exact ⟨j + 1, g2, cap2, by omega, rfl, hrow2, (hbel.alloc hsz _).grown hgrow2 (by simp; omega) (fun q hq => by cases hq; exact hge)⟩
      case measure => simp [lenOf]; omega
    · obtain rfl : j = zpad s.size := by omega
      have hm := zpad_eq s.size
      have hm' : ((((s.size : Int) + 1 + ((zpad s.size : Nat) : Int)) % 64) != 56) = false := by
        rw [bne_eq_false_iff_eq]; omega
      go_wp2_with fail
      try rw [hm']
      go_loopw [3, 5] (fun v i wr => ∃ k g cap : Nat, k ≤ 8 ∧ i = .int .i64 (7 - (k : Int)) ∧ v = .slice (some ⟨g, 0, none⟩) (s.size + 1 + zpad s.size + k) cap ∧ Row wr w.heap.size g (s.size + 1 + zpad s.size + k) cap ((s.data.toList ++ [128] ++ List.replicate (zpad s.size) 0 ++ beTo (8 * s.size) k).map B) ∧ Below w.heap.size w wr) (fun v _ _ => zpad s.size + s.size + 9 - lenOf v)
      case atStart => exact ⟨0, g, cap, by omega, rfl, rfl, by simpa [beTo] using hrow, hbel⟩
      case round =>
        clear hrow hbel hge hsz
        obtain ⟨k, g, cap, hk, rfl, rfl, hrow, hbel⟩ := hrel
        have hsz := hbel.size
        have hge := hrow.ge
        by_cases hlt2 : k < 8
        · go_wp2_with (at_builtin; refine wpList_append_row _ rfl (.tmp 26) (.tmp 33) 22 rfl 5 i0 (.int .u8 0) 1 Tryz.underlying22 hi0 hz0 hz1 hz2 rfl w.heap.size g (s.size + 1 + zpad s.size + k) cap _ rfl (hrow.alloc _) ⟨wr.heap.size, 0, none⟩ 1 1 [_] rfl rfl (World.news_of_block (heap_alloc_new wr _)) (by simp [Value.oneCell']) (by unfold maxLen; omega) (by omega) (by simp; omega) (wr.heap.size + 1) (by simp) ?_; intro g2 cap2 w2 hrow2 hgrow2 _ _)
          go_roundw
          case rel =>
            rw [lenByte_form] at hrow2
            have e : (s.data.toList ++ [128] ++ List.replicate (zpad s.size) 0 ++ beTo (8 * s.size) k).map B ++ [.int .u8 ((lenByte (8 * s.size) (7 - k)).toNat : Int)] = (s.data.toList ++ [128] ++ List.replicate (zpad s.size) 0 ++ beTo (8 * s.size) (k + 1)).map B := by
              rw [beTo_succ, ← List.append_assoc, List.map_append (l₂ := [lenByte (8 * s.size) (7 - k)])]; rfl
            rw [e] at hrow2
            exact ⟨k + 1, g2, cap2, by omega, by go_num, rfl, hrow2, (hbel.alloc hsz _).grown hgrow2 (by simp; omega) (fun q hq => by cases hq; exact hge)⟩
          case measure => simp [lenOf]; omega
        · obtain rfl : k = 8 := by omega
          go_wp2
          go_ret
          have e : pad s.data.toList = s.data.toList ++ [128] ++ List.replicate (zpad s.size) 0 ++ beTo (8 * s.size) 8 := by rw [pad, hl]
          have e2 : (pad s.data.toList).length = s.size + 1 + zpad s.size + 8 := by rw [pad_length, hl]; omega
          rw [e2, e]
          exact ⟨g, cap, rfl, hrow, hbel⟩
end Go.Proofs.YtfmpjlpakldheaaGreatDoor
namespace Go.Proofs.Sha
open Go Go.RowKit

section
variable {P : Program} (w : World)

theorem run_append_keep (t ty : TypeId) (base : Nat) (e : TypeId) (i : TypeInfo) (z : Value) (size bytes : Nat) (ht : P.underlying t = some (.slice e)) (hi : P.info? e = some i) (hz : i.zero = some z)
    (hsize : i.size = size) (hby : i.bytes = bytes) (hzs : z.cells.size = size) (hsz : 0 < size)
    (g n cap : Nat) (xs : List Value) (hown : w.ownsRow base e size (.slice (some ⟨g, 0, none⟩) n cap) n xs)
    (ad : Addr) (m c : Nat) (news : List Value) (hl : news.length = m * size) (hnews : ∀ j u, news[j]? = some u → w.cell? (ad.add j) = some u) (h1 : ∀ u ∈ news, u.oneCell' = true)
    (hm : 0 < m) (h63 : n + m ≤ maxLen) (hbytes : (n + m) * bytes ≤ 140737488355328) (hbase : base ≤ w.heap.size) (H : Nat) (hH : w.heap.size = H) :
    ∃ g' cap' w', (Builtin.append_ #[t, t] ty #[.slice (some ⟨g, 0, none⟩) n cap, .slice (some ad) m c]).run P w = .ok (.slice (some ⟨g', 0, none⟩) (n + m) cap') w' ∧
      w'.ownsRow base e size (.slice (some ⟨g', 0, none⟩) (n + m) cap') (n + m) (xs ++ news) ∧ w.grownBy w' (some g) ∧ (g' = g ∨ g' = H) ∧ g' < w'.heap.size ∧
      (∀ j, j < n * size → w'.cell? ⟨g, j, none⟩ = w.cell? ⟨g, j, none⟩) := by
  obtain ⟨g', cap', w', hr, h2, h3, h4, h5⟩ := run_append_lies (P := P) w t ty base e i z size bytes ht hi hz hsize hby hzs hsz _ n xs hown ad m c news hl hnews h1 hm h63 hbytes hbase H hH
  refine ⟨g', cap', w', hr, h2, h3, ?_, h5, ?_⟩
  · rcases h4 with h4 | h4
    · left
      simpa [Value.ownBlock] using h4.symm
    · exact .inr h4
  · intro j hj
    rcases hown.2 with ⟨hv, _⟩ | ⟨g0, cap0, cur, hv, hbg, hg, hnc, hcm, hcs, htake⟩
    · cases hv
    · cases hv
      by_cases hroom : n + m ≤ cap
      · subst hsize
        have hfit : n * i.size + news.length ≤ cur.size := by rw [hl, hcs, ← Nat.add_mul]; exact Nat.mul_le_mul_right _ hroom
        have hr2 := run_append_room (P := P) w t ty e i ht hi g n cap cur hg ad m c news hl hnews h1 hroom hfit
        rw [hr2] at hr
        injection hr with _ hw
        subst hw
        rw [cell_of_row _ g j _ e (0, 0) (setRow_heap w g cur _ e (0, 0) hg), cell_of_row w g j cur e (0, 0) hg]
        have hjl : j < (List.take (n * i.size) cur.toList).length := by simp; omega
        simp only [List.append_assoc, List.getElem?_toArray]
        rw [List.getElem?_append_left hjl, List.getElem?_take, if_pos hj]
        simp
      · subst hsize
        subst hby
        have holds : ∀ j u, xs[j]? = some u → w.cell? ((⟨g, 0, none⟩ : Addr).add j) = some u := hown.cells (g := g) rfl
        have hr2 := run_append_grow (P := P) w t ty e i z ht hi hz ⟨g, 0, none⟩ n cap xs hown.1 holds ad m c news hl hnews (by omega) (by simp only [maxLen] at h63; omega) (growslice_fits (by omega) hbytes)
        rw [hr2] at hr
        injection hr with _ hw
        subst hw
        have hlt : g < w.heap.size := (Array.getElem?_eq_some_iff.1 hg).1
        exact World.cell?_of_block (w := w) (heap_alloc_old w.drew _ hlt)

theorem wp_append_keep {o : Oper} {a : Act} {K : Act → World → Prop} {Q : Exit → Act → World → Prop} (s x : Operand) (t : TypeId)
    (ho : o.op = .call { callee := .builtin .append, args := #[s, x], argTypes := #[t, t] })
    (base : Nat) (e : TypeId) (i : TypeInfo) (z : Value) (size bytes : Nat) (ht : P.underlying t = some (.slice e)) (hi : P.info? e = some i) (hz : i.zero = some z)
    (hsize : i.size = size) (hby : i.bytes = bytes) (hzs : z.cells.size = size) (hsz : 0 < size)
    (g n cap : Nat) (xs : List Value) (hs : a.eval s = .slice (some ⟨g, 0, none⟩) n cap) (hown : w.ownsRow base e size (.slice (some ⟨g, 0, none⟩) n cap) n xs)
    (ad : Addr) (m c : Nat) (news : List Value) (hx : a.eval x = .slice (some ad) m c) (hl : news.length = m * size) (hnews : ∀ j u, news[j]? = some u → w.cell? (ad.add j) = some u) (h1 : ∀ u ∈ news, u.oneCell' = true)
    (hm : 0 < m) (h63 : n + m ≤ maxLen) (hbytes : (n + m) * bytes ≤ 140737488355328) (hbase : base ≤ w.heap.size) (H : Nat) (hH : w.heap.size = H)
    (h : ∀ g' cap' w', w'.ownsRow base e size (.slice (some ⟨g', 0, none⟩) (n + m) cap') (n + m) (xs ++ news) → w.grownBy w' (some g) → (g' = g ∨ g' = H) → g' < w'.heap.size →
      (∀ j, j < n * size → w'.cell? ⟨g, j, none⟩ = w.cell? ⟨g, j, none⟩) → K (a.put o.dst (.slice (some ⟨g', 0, none⟩) (n + m) cap')) w') : o.wp P a w K Q := by
  obtain ⟨g', cap', w', hr, h2, h3, h4, h5, h6⟩ := run_append_keep (P := P) w t o.type base e i z size bytes ht hi hz hsize hby hzs hsz g n cap xs hown ad m c news hl hnews h1 hm h63 hbytes hbase H hH
  unfold Oper.wp execOp
  simp only [ho, resolve, invoke, builtin, Sem.run_bind, Sem.run_pure, Result.andThen_ok, List.map_toArray, List.map_cons, List.map_nil, hs, hx, hr]
  exact h g' cap' w' h2 h3 h4 h5 h6

theorem step_append_keep {ops : Array Oper} {o : Oper} {a : Act} {K : Act → World → Prop} {Q : Exit → Act → World → Prop} {E : Prop} (hgd : o.guard = none) (s x : Operand) (t : TypeId)
    (ho : o.op = .call { callee := .builtin .append, args := #[s, x], argTypes := #[t, t] })
    (base : Nat) (e : TypeId) (i : TypeInfo) (z : Value) (size bytes : Nat) (ht : P.underlying t = some (.slice e)) (hi : P.info? e = some i) (hz : i.zero = some z)
    (hsize : i.size = size) (hby : i.bytes = bytes) (hzs : z.cells.size = size) (hsz : 0 < size)
    (g n cap : Nat) (xs : List Value) (hs : a.eval s = .slice (some ⟨g, 0, none⟩) n cap) (hown : w.ownsRow base e size (.slice (some ⟨g, 0, none⟩) n cap) n xs)
    (ad : Addr) (m c : Nat) (news : List Value) (hx : a.eval x = .slice (some ad) m c) (hl : news.length = m * size) (hnews : ∀ j u, news[j]? = some u → w.cell? (ad.add j) = some u) (h1 : ∀ u ∈ news, u.oneCell' = true)
    (hm : 0 < m) (h63 : n + m ≤ maxLen) (hbytes : (n + m) * bytes ≤ 140737488355328) (hbase : base ≤ w.heap.size) (H : Nat) (hH : w.heap.size = H)
    (h : ∀ g' cap' w', w'.ownsRow base e size (.slice (some ⟨g', 0, none⟩) (n + m) cap') (n + m) (xs ++ news) → w.grownBy w' (some g) → (g' = g ∨ g' = H) → g' < w'.heap.size →
      (∀ j, j < n * size → w'.cell? ⟨g, j, none⟩ = w.cell? ⟨g, j, none⟩) → K (a.put o.dst (.slice (some ⟨g', 0, none⟩) (n + m) cap')) w') :
    if Region.wanted o (yielded ops a.tmps) = true then Oper.wp P o a w K Q else E := by
  have hw : Region.wanted o (yielded ops a.tmps) = true := by simp [Region.wanted, hgd]
  rw [if_pos hw]
  exact wp_append_keep w s x t ho base e i z size bytes ht hi hz hsize hby hzs hsz g n cap xs hs hown ad m c news hx hl hnews h1 hm h63 hbytes hbase H hH h
end
end Go.Proofs.Sha
