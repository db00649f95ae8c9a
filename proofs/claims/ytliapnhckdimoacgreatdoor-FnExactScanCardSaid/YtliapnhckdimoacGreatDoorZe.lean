import Derived.Test.YtliapnhckdimoacGreatDoorZd
import Derived.Test.YtliapnhckdimoacGreatDoorZc
namespace Go.Proofs.YtliapnhckdimoacGreatDoor
open Go.RowKit Go.Proofs.Sha

/-- What NodeRecord answers. -/
def nodeRec (enc : ByteArray) : ByteArray := if 1 ≤ enc.size ∧ enc.size ≤ 4000 then T (marked (four enc.size ++ enc.data.toList) [83] [77]) else ⟨#[]⟩
/-- What CommitRecord answers. -/
def commitRec (v : Int) (root : ByteArray) : ByteArray := if 1 ≤ v ∧ v ≤ 1000000 ∧ root.size ≤ 32 then T (marked (four v.toNat ++ [UInt8.ofNat root.size] ++ root.data.toList) [67] []) else ⟨#[]⟩

set_option maxRecDepth 100000 in
set_option maxHeartbeats 400000 in
theorem nodeRec_any (enc : ByteArray) (w : World) (hs : enc.size ≤ 1048576) :
    Calls Tryz.prog 26 #[.string enc] w fun e w' => ∃ t, e = .returned (.string t) ∧ Hid (t = nodeRec enc) ∧ Below w.heap.size w w' := by
  by_cases h : 1 ≤ enc.size ∧ enc.size ≤ 4000
  · have z1 : decide ((enc.size : Int) < 1) = false := by simp; omega
    have z2 : decide ((4000 : Int) < (enc.size : Int)) = false := by simp; omega
    go_enter Tryz.func26, Tryz.ntmps26
    go_wp2_with fail
    refine (four_any enc.size hs _).mono ?_
    rintro e w1 ⟨t, rfl, ht, HT, hb⟩
    have z3 : ¬ (9223372036854775807 < t.size + enc.size) := by omega
    go_wp2_with fail
    refine (marked_any _ ⟨#[83]⟩ ⟨#[77]⟩ _ (by rw [ByteArray.size_append]; omega) (Nat.le_refl _) (Nat.le_refl _)).mono ?_
    rintro e w2 ⟨x, rfl, HX, hb2⟩
    go_wp2
    go_ret
    refine ⟨x, rfl, ?_, hb.trans (hb2.mono hb.size)⟩
    show x = _
    rw [HX.out, HT.out, nodeRec, if_pos h]
    conv => lhs; rw [← T_of enc, T_append]
    rw [T_of]; rfl
  · have HR : Hid (nodeRec enc = ⟨#[]⟩) := by show nodeRec enc = _; rw [nodeRec, if_neg h]
    by_cases h1 : enc.size < 1
    · have z1 : decide ((enc.size : Int) < 1) = true := by simp; omega
      go_enter Tryz.func26, Tryz.ntmps26
      go_wp2
      go_ret
      exact ⟨_, rfl, HR.out.symm, Below.refl _ _⟩
    · have z1 : decide ((enc.size : Int) < 1) = false := by simp; omega
      have z2 : decide ((4000 : Int) < (enc.size : Int)) = true := by simp; omega
      go_enter Tryz.func26, Tryz.ntmps26
      go_wp2
      go_ret
      exact ⟨_, rfl, HR.out.symm, Below.refl _ _⟩

set_option maxRecDepth 100000 in
set_option maxHeartbeats 400000 in
theorem commitRec_any (v : Int) (root : ByteArray) (w : World) (hs : root.size ≤ 1048576) :
    Calls Tryz.prog 24 #[.int .i64 v, .string root] w fun e w' => ∃ t, e = .returned (.string t) ∧ Hid (t = commitRec v root) ∧ Below w.heap.size w w' := by
  by_cases h : 1 ≤ v ∧ v ≤ 1000000 ∧ root.size ≤ 32
  · obtain ⟨n, rfl⟩ := Int.eq_ofNat_of_zero_le (show 0 ≤ v by omega)
    have z1 : decide ((n : Int) < 1) = false := by simp; omega
    have z2 : decide ((1000000 : Int) < (n : Int)) = false := by simp; omega
    have z3 : decide ((32 : Int) < (root.size : Int)) = false := by simp; omega
    go_enter Tryz.func24, Tryz.ntmps24
    go_wp2_with fail
    refine (four_any n (by omega) _).mono ?_
    rintro e w1 ⟨t, rfl, ht, HT, hb⟩
    go_wp2_with fail
    refine (byte_i _ (by omega) (by omega) _).mono ?_
    rintro e w2 ⟨t2, rfl, ht2, HT2, hb2⟩
    have z4 : ¬ (9223372036854775807 < t.size + t2.size) := by omega
    have z5 : ¬ (9223372036854775807 < t.size + t2.size + root.size) := by omega
    go_wp2_with fail
    refine (marked_any _ ⟨#[67]⟩ ⟨#[]⟩ _ (by rw [ByteArray.size_append, ByteArray.size_append]; omega) (Nat.le_refl _) (Nat.zero_le _)).mono ?_
    rintro e w3 ⟨x, rfl, HX, hb3⟩
    go_wp2
    go_ret
    refine ⟨x, rfl, ?_, (hb.trans (hb2.mono hb.size)).trans (hb3.mono (Nat.le_trans hb.size hb2.size))⟩
    show x = _
    rw [HX.out, HT.out, HT2.out, byteS_T, commitRec, if_pos h]
    conv => lhs; rw [← T_of root, T_append, T_append]
    rw [T_of, Int.toNat_natCast, Int.toNat_natCast]; rfl
  · have HR : Hid (commitRec v root = ⟨#[]⟩) := by show commitRec v root = _; rw [commitRec, if_neg h]
    by_cases h1 : v < 1
    · have z1 : decide (v < 1) = true := by simpa using h1
      go_enter Tryz.func24, Tryz.ntmps24
      go_wp2
      go_ret
      exact ⟨_, rfl, HR.out.symm, Below.refl _ _⟩
    by_cases h2 : 1000000 < v
    · have z1 : decide (v < 1) = false := by simpa using h1
      have z2 : decide (1000000 < v) = true := by simpa using h2
      go_enter Tryz.func24, Tryz.ntmps24
      go_wp2
      go_ret
      exact ⟨_, rfl, HR.out.symm, Below.refl _ _⟩
    · have z1 : decide (v < 1) = false := by simpa using h1
      have z2 : decide (1000000 < v) = false := by simpa using h2
      have z3 : decide ((32 : Int) < (root.size : Int)) = true := by simp; omega
      go_enter Tryz.func24, Tryz.ntmps24
      go_wp2
      go_ret
      exact ⟨_, rfl, HR.out.symm, Below.refl _ _⟩
end Go.Proofs.YtliapnhckdimoacGreatDoor
namespace Go.Proofs.YtliapnhckdimoacGreatDoor
open Go.RowKit Go.Proofs.Sha

/-- The number that stands at a place of a text, in four bytes. -/
def numAt (s : ByteArray) (a : Nat) : Nat := (s.data.toList.getD a 0).toNat + (s.data.toList.getD (a + 1) 0).toNat * 256 + (s.data.toList.getD (a + 2) 0).toNat * 65536 + (s.data.toList.getD (a + 3) 0).toNat * 16777216
theorem numAt_lt (s : ByteArray) (a : Nat) : numAt s a < 4294967296 := by
  unfold numAt
  have h1 := (s.data.toList.getD a 0).toNat_lt
  have h2 := (s.data.toList.getD (a + 1) 0).toNat_lt
  have h3 := (s.data.toList.getD (a + 2) 0).toNat_lt
  have h4 := (s.data.toList.getD (a + 3) 0).toNat_lt
  omega

theorem wr64 (n : Int) (h0 : 0 ≤ n) (h1 : n ≤ 9223372036854775807) : wrap64 n = n := by unfold wrap64; omega
theorem num_w (x y z u : Nat) (hx : x < 256) (hy : y < 256) (hz : z < 256) (hu : u < 256) :
    wrap64 (wrap64 (wrap64 (wrap64 (x : Int) + wrap64 (wrap64 (y : Int) * 256)) + wrap64 (wrap64 (z : Int) * 65536)) + wrap64 (wrap64 (u : Int) * 16777216)) = ((x + y * 256 + z * 65536 + u * 16777216 : Nat) : Int) := by
  rw [wr64 (x : Int) (by omega) (by omega), wr64 (y : Int) (by omega) (by omega), wr64 (z : Int) (by omega) (by omega), wr64 (u : Int) (by omega) (by omega),
    wr64 ((y : Int) * 256) (by omega) (by omega), wr64 ((z : Int) * 65536) (by omega) (by omega), wr64 ((u : Int) * 16777216) (by omega) (by omega)]
  rw [wr64 ((x : Int) + (y : Int) * 256) (by omega) (by omega)]
  rw [wr64 ((x : Int) + (y : Int) * 256 + (z : Int) * 65536) (by omega) (by omega)]
  rw [wr64 _ (by omega) (by omega)]
  omega

set_option maxRecDepth 100000 in
set_option maxHeartbeats 400000 in
theorem number_any (s : ByteArray) (a : Nat) (w : World) (hs : s.size ≤ 1048576) (ha : a + 4 ≤ s.size) :
    Calls Tryz.prog 23 #[.string s, .int .i64 (a : Int)] w fun e w' => e = .returned (.int .i64 (numAt s a : Int)) ∧ Below w.heap.size w w' := by
  have z0 : (0 : Int) ≤ (a : Int) := by omega
  have z1 : (a : Int) < (s.size : Int) := by omega
  have z2 : IntKind.i64.wrap ((a : Int) + 1) = (a : Int) + 1 := wrap_i64_in _ (by omega) (by omega)
  have z3 : (0 : Int) ≤ (a : Int) + 1 := by omega
  have z4 : (a : Int) + 1 < (s.size : Int) := by omega
  have z5 : IntKind.i64.wrap ((a : Int) + 2) = (a : Int) + 2 := wrap_i64_in _ (by omega) (by omega)
  have z6 : (0 : Int) ≤ (a : Int) + 2 := by omega
  have z7 : (a : Int) + 2 < (s.size : Int) := by omega
  have z8 : IntKind.i64.wrap ((a : Int) + 3) = (a : Int) + 3 := wrap_i64_in _ (by omega) (by omega)
  have z9 : (0 : Int) ≤ (a : Int) + 3 := by omega
  have z10 : (a : Int) + 3 < (s.size : Int) := by omega
  go_enter Tryz.func23, Tryz.ntmps23
  go_wp2_with fail
  go_region
  go_wp2
  go_ret
  refine ⟨?_, (Below.refl _ _).drew⟩
  refine (congrArg (fun z => Ending.returned (Value.int .i64 z)) (show wrap64 (wrap64 (wrap64 (wrap64 (s[a].toNat : Int) + wrap64 (wrap64 (s[a + 1].toNat : Int) * 256)) + wrap64 (wrap64 (s[a + 2].toNat : Int) * 65536)) + wrap64 (wrap64 (s[a + 3].toNat : Int) * 16777216)) = _ from ?_))
  rw [bget s a (by omega), bget s (a + 1) (by omega), bget s (a + 2) (by omega), bget s (a + 3) (by omega)]
  exact num_w _ _ _ _ (s.data.toList.getD a 0).toNat_lt (s.data.toList.getD (a + 1) 0).toNat_lt (s.data.toList.getD (a + 2) 0).toNat_lt (s.data.toList.getD (a + 3) 0).toNat_lt

/-- Some sectors without their last bytes. -/
def unTo (s : ByteArray) (a : Nat) : Nat → List UInt8
  | 0 => []
  | i + 1 => unTo s a i ++ (s.extract (a + 64 * i) (a + 64 * i + 63)).data.toList
theorem unTo_length (s : ByteArray) (a q : Nat) : (unTo s a q).length ≤ 63 * q := by
  induction q with
  | zero => exact Nat.le_refl _
  | succ q ih =>
    rw [unTo, List.length_append]
    have : (s.extract (a + 64 * q) (a + 64 * q + 63)).data.toList.length ≤ 63 := by
      show (s.extract (a + 64 * q) (a + 64 * q + 63)).size ≤ 63
      rw [ByteArray.size_extract]; omega
    omega

set_option maxRecDepth 100000 in
set_option maxHeartbeats 400000 in
theorem un_any (s : ByteArray) (a q : Nat) (w : World) (hs : s.size ≤ 1048576) (ha : a + 64 * q ≤ s.size) :
    Calls Tryz.prog 25 #[.string s, .int .i64 (a : Int), .int .i64 (q : Int)] w fun e w' => ∃ t, e = .returned (.string t) ∧ Hid (t = T (unTo s a q)) ∧ Below w.heap.size w w' := by
  have HL := unTo_length s a
  go_enter Tryz.func25, Tryz.ntmps25
  go_wp2_with fail
  go_loopw [7, 8] (fun t7 t8 wr => ∃ (i : Nat) (x : ByteArray), i ≤ q ∧ t7 = .string x ∧ t8 = .int .i64 (i : Int) ∧ x.size ≤ 63 * i ∧ Hid (x = T (unTo s a i)) ∧ wr = w) (fun _ t8 _ => q - (intOf t8).toNat)
  case atStart => exact ⟨0, ⟨#[]⟩, by omega, rfl, rfl, Nat.le_refl _, rfl, rfl⟩
  case round =>
    obtain ⟨i, x, hi, rfl, rfl, hx, HX, rfl⟩ := hrel
    by_cases h1 : i < q
    · have z1 : decide ((i : Int) < (q : Int)) = true := by simp; omega
      have z2 : IntKind.i64.wrap ((i : Int) * 64) = (i : Int) * 64 := wrap_i64_in _ (by omega) (by omega)
      obtain ⟨b, hb⟩ : ∃ b, a + 64 * i = b := ⟨_, rfl⟩
      have z3 : IntKind.i64.wrap ((a : Int) + (i : Int) * 64) = (b : Int) := by rw [wrap_i64_in _ (by omega) (by omega)]; omega
      have z4 : IntKind.i64.wrap ((b : Int) + 63) = (b : Int) + 63 := wrap_i64_in _ (by omega) (by omega)
      have z5 : (0 : Int) ≤ (b : Int) := by omega
      have z6 : (b : Int) ≤ (b : Int) + 63 := by omega
      have z7 : (b : Int) + 63 ≤ (s.size : Int) := by omega
      go_wp2_with fail
      have HE : x ++ s.extract b (b + 63) = T (unTo s a (i + 1)) := by
        rw [unTo, hb, ← T_append, T_of, HX.out]
      refine ⟨⟨i + 1, _, by omega, rfl, rfl, ?_, HE, trivial⟩, ?_⟩
      · rw [HE]; exact HL (i + 1)
      · show q - ((i : Int) + 1).toNat < q - ((i : Int)).toNat
        omega
    · have z1 : decide ((i : Int) < (q : Int)) = false := by simp; omega
      have e : i = q := by omega
      go_wp2
      go_ret
      exact ⟨x, rfl, by show x = _; rw [HX.out, e], Below.refl _ _⟩
end Go.Proofs.YtliapnhckdimoacGreatDoor
namespace Go.Proofs.YtliapnhckdimoacGreatDoor
open Go.RowKit Go.Proofs.Sha

theorem part63_getD (s : List UInt8) (j : Nat) (hj : j < 63) : (part63 s 0).getD j 0 = s.getD j 0 := by
  unfold part63
  rw [List.drop_zero, List.getD_eq_getElem?_getD, List.getD_eq_getElem?_getD]
  by_cases h : j < s.length
  · rw [List.getElem?_append_left (by rw [List.length_take]; omega), List.getElem?_take_of_lt hj]
  · rw [List.getElem?_append_right (by rw [List.length_take]; omega), List.getElem?_eq_none (by omega : s.length ≤ j)]
    rw [List.getElem?_replicate]
    split <;> rfl
theorem markedTo_len1 (s : List UInt8) (c d : UInt8) (q : Nat) : (markedTo s [c] [d] q).length = 64 * q := by
  induction q with
  | zero => rfl
  | succ q ih =>
    rw [markedTo, List.length_append, List.length_append, part63_length, ih]
    split <;> simp only [List.length_cons, List.length_nil] <;> omega
/-- The first sector stands in front. -/
theorem markedTo_head (s f m : List UInt8) (q : Nat) (hq : 1 ≤ q) : ∃ r, markedTo s f m q = part63 s 0 ++ (f ++ r) := by
  induction q with
  | zero => omega
  | succ q ih =>
    by_cases h : q = 0
    · subst h
      exact ⟨[], by rw [markedTo, markedTo, if_pos rfl, List.append_nil, List.nil_append]⟩
    · obtain ⟨r, hr⟩ := ih (by omega)
      exact ⟨r ++ (part63 s (63 * q) ++ m), by rw [markedTo, hr, if_neg h]; simp only [List.append_assoc]⟩
theorem marked_low (s f m : List UInt8) (q j : Nat) (hq : 1 ≤ q) (hj : j < 63) : (markedTo s f m q).getD j 0 = s.getD j 0 := by
  obtain ⟨r, hr⟩ := markedTo_head s f m q hq
  rw [hr, ← part63_getD s j hj, List.getD_eq_getElem?_getD, List.getD_eq_getElem?_getD, List.getElem?_append_left (by rw [part63_length]; exact hj)]
theorem marked_mark (s m : List UInt8) (c : UInt8) (q : Nat) (hq : 1 ≤ q) : (markedTo s [c] m q).getD 63 0 = c := by
  obtain ⟨r, hr⟩ := markedTo_head s [c] m q hq
  rw [hr, List.getD_eq_getElem?_getD, List.getElem?_append_right (by rw [part63_length]; exact Nat.le_refl _), part63_length]; rfl
theorem marked_sector (s : List UInt8) (c d : UInt8) (q i : Nat) (hi : i < q) : ((markedTo s [c] [d] q).drop (64 * i)).take 63 = part63 s (63 * i) := by
  induction q with
  | zero => omega
  | succ q ih =>
    rw [markedTo, List.append_assoc]
    have hl := markedTo_len1 s c d q
    by_cases h : i = q
    · subst h
      rw [← hl, List.drop_left, List.take_append_of_le_length (by rw [part63_length]; exact Nat.le_refl _), List.take_of_length_le (by rw [part63_length]; exact Nat.le_refl _)]
    · rw [List.drop_append_of_le_length (by omega), List.take_append_of_le_length (by rw [List.length_drop]; omega)]
      exact ih (by omega)

/-- A text that stands in another. -/
theorem sub_getD {s : ByteArray} {a n : Nat} {L : List UInt8} (h : s.extract a (a + n) = T L) (j : Nat) (hj : j < n) : s.data.toList.getD (a + j) 0 = L.getD j 0 := by
  have e : L = (s.data.toList.drop a).take n := by
    have := h.symm
    rw [← T_of s, T_extract, Nat.add_sub_cancel_left] at this
    exact T_inj this
  rw [e, List.getD_eq_getElem?_getD, List.getD_eq_getElem?_getD, List.getElem?_take_of_lt hj, List.getElem?_drop]
theorem sub_extract {s : ByteArray} {a n : Nat} {L : List UInt8} (h : s.extract a (a + n) = T L) (x y : Nat) (hy : x + y ≤ n) : s.extract (a + x) (a + x + y) = T ((L.drop x).take y) := by
  have e : L = (s.data.toList.drop a).take n := by
    have := h.symm
    rw [← T_of s, T_extract, Nat.add_sub_cancel_left] at this
    exact T_inj this
  conv => lhs; rw [← T_of s, T_extract, Nat.add_sub_cancel_left]
  rw [e, List.drop_take, List.take_take, List.drop_drop]
  congr 2
  omega

theorem four_num (n : Nat) (hn : n < 4294967296) : ((four n).getD 0 0).toNat + ((four n).getD 1 0).toNat * 256 + ((four n).getD 2 0).toNat * 65536 + ((four n).getD 3 0).toNat * 16777216 = n := by
  show (UInt8.ofNat (n % 256)).toNat + (UInt8.ofNat (n / 256 % 256)).toNat * 256 + (UInt8.ofNat (n / 65536 % 256)).toNat * 65536 + (UInt8.ofNat (n / 16777216 % 256)).toNat * 16777216 = n
  rw [UInt8.toNat_ofNat_of_lt' (by show _ < 256; omega), UInt8.toNat_ofNat_of_lt' (by show _ < 256; omega), UInt8.toNat_ofNat_of_lt' (by show _ < 256; omega), UInt8.toNat_ofNat_of_lt' (by show _ < 256; omega)]
  omega
theorem four_getD (n : Nat) (R : List UInt8) (j : Nat) (hj : j < 4) : (four n ++ R).getD j 0 = (four n).getD j 0 := by
  rw [List.getD_eq_getElem?_getD, List.getD_eq_getElem?_getD, List.getElem?_append_left (by exact hj)]

/-- The number in front of a record's content. -/
theorem num_of {s : ByteArray} {a n q k : Nat} {R f m : List UInt8} (h : s.extract a (a + k) = T (markedTo (four n ++ R) f m q)) (hq : 1 ≤ q) (hk : 4 ≤ k) (hn : n < 4294967296) : numAt s a = n := by
  unfold numAt
  have g : ∀ j, j < 4 → s.data.toList.getD (a + j) 0 = (four n).getD j 0 := fun j hj => by
    rw [sub_getD h j (by omega), marked_low _ _ _ _ _ hq (by omega), four_getD n R j hj]
  have g0 := g 0 (by omega)
  rw [Nat.add_zero] at g0
  rw [g0, g 1 (by omega), g 2 (by omega), g 3 (by omega)]
  exact four_num n hn

def partsTo (s : List UInt8) : Nat → List UInt8
  | 0 => []
  | i + 1 => partsTo s i ++ part63 s (63 * i)
theorem partsTo_eq (s : List UInt8) (i : Nat) : partsTo s i = s.take (63 * i) ++ List.replicate (63 * i - s.length) 0 := by
  induction i with
  | zero => simp [partsTo]
  | succ i ih =>
    rw [partsTo, ih, part63]
    by_cases h : 63 * i ≤ s.length
    · rw [show 63 * i - s.length = 0 by omega, List.replicate_zero, List.append_nil, ← List.append_assoc, show 63 * (i + 1) = 63 * i + 63 by omega, List.take_add, show 63 * i + 63 - s.length = 63 - (s.length - 63 * i) by omega]
    · rw [List.drop_eq_nil_of_le (by omega), List.take_nil, List.nil_append, List.append_assoc, List.replicate_append_replicate, List.take_of_length_le (by omega), List.take_of_length_le (by omega)]
      congr 2
      omega
theorem un_of {s : ByteArray} {a q : Nat} {L : List UInt8} {c d : UInt8} (h : s.extract a (a + 64 * q) = T (markedTo L [c] [d] q)) (i : Nat) (hi : i ≤ q) : unTo s a i = partsTo L i := by
  induction i with
  | zero => rfl
  | succ i ih =>
    rw [unTo, partsTo, ih (by omega), sub_extract h (64 * i) 63 (by omega), marked_sector _ _ _ _ _ (by omega)]; rfl
theorem un_enc {s : ByteArray} {a q : Nat} {enc : ByteArray} {c d : UInt8} (h : s.extract a (a + 64 * q) = T (markedTo (four enc.size ++ enc.data.toList) [c] [d] q)) (hq : enc.size + 4 ≤ 63 * q) :
    (T (unTo s a q)).extract 4 (4 + enc.size) = enc := by
  rw [un_of h q (Nat.le_refl _), partsTo_eq, List.take_of_length_le (by rw [List.length_append]; show 4 + enc.size ≤ _; omega), T_extract, Nat.add_sub_cancel_left, List.append_assoc]
  rw [show List.drop 4 (four enc.size ++ (enc.data.toList ++ List.replicate (63 * q - (four enc.size ++ enc.data.toList).length) 0)) = enc.data.toList ++ List.replicate (63 * q - (four enc.size ++ enc.data.toList).length) 0 from rfl]
  rw [List.take_append_of_le_length (show enc.size ≤ enc.data.toList.length from Nat.le_refl _), List.take_of_length_le (show enc.data.toList.length ≤ enc.size from Nat.le_refl _), T_of]

/-- How many sectors an encoding of n bytes takes. -/
def secs (n : Nat) : Nat := (n + 4 + 62) / 63
/-- The record of this encoding begins at byte a. -/
def IsNode (s : ByteArray) (a : Nat) (enc : ByteArray) : Prop :=
  1 ≤ enc.size ∧ enc.size ≤ 4000 ∧ a + 64 * secs enc.size ≤ s.size ∧ s.extract a (a + 64 * secs enc.size) = nodeRec enc
/-- The record of this commit begins at byte a. -/
def IsCommit (s : ByteArray) (a : Nat) (v : Int) (root : ByteArray) : Prop :=
  1 ≤ v ∧ v ≤ 1000000 ∧ root.size ≤ 32 ∧ a + 64 ≤ s.size ∧ s.extract a (a + 64) = commitRec v root

theorem secs_eq (enc : ByteArray) : ((four enc.size ++ enc.data.toList).length + 62) / 63 = secs enc.size := by
  unfold secs; rw [List.length_append]; show (4 + enc.size + 62) / 63 = _; congr 1; omega
theorem IsNode.text {s : ByteArray} {a : Nat} {enc : ByteArray} (h : IsNode s a enc) : s.extract a (a + 64 * secs enc.size) = T (markedTo (four enc.size ++ enc.data.toList) [83] [77] (secs enc.size)) := by
  rw [h.2.2.2, nodeRec, if_pos ⟨h.1, h.2.1⟩, marked, secs_eq]
theorem IsNode.parts {s : ByteArray} {a : Nat} {enc : ByteArray} (h : IsNode s a enc) :
    a + 64 ≤ s.size ∧ (s.data.toList.getD (a + 63) 0) = 83 ∧ numAt s a = enc.size ∧ (T (unTo s a (secs (numAt s a)))).extract 4 (4 + numAt s a) = enc := by
  have ht := h.text
  have h1 := h.1
  have h2 := h.2.1
  have h3 := h.2.2.1
  have hq : 1 ≤ secs enc.size ∧ enc.size + 4 ≤ 63 * secs enc.size := by unfold secs; omega
  have hn : numAt s a = enc.size := num_of ht hq.1 (by omega) (by omega)
  refine ⟨by omega, ?_, hn, ?_⟩
  · rw [sub_getD ht 63 (by omega), marked_mark _ _ _ _ hq.1]
  · rw [hn]; exact un_enc ht hq.2

theorem commit_text {v : Int} {root : ByteArray} (h1 : 1 ≤ v) (h2 : v ≤ 1000000) (h3 : root.size ≤ 32) :
    commitRec v root = T (markedTo (four v.toNat ++ ([UInt8.ofNat root.size] ++ root.data.toList)) [67] [] 1) := by
  rw [commitRec, if_pos ⟨h1, h2, h3⟩, marked, List.append_assoc]
  congr 2
  rw [List.length_append, List.length_append]
  show (4 + (1 + root.size) + 62) / 63 = 1
  omega
theorem IsCommit.parts {s : ByteArray} {a : Nat} {v : Int} {root : ByteArray} (h : IsCommit s a v root) :
    (s.data.toList.getD (a + 63) 0) = 67 ∧ (numAt s a : Int) = v ∧ (s.data.toList.getD (a + 4) 0).toNat = root.size ∧ s.extract (a + 5) (a + 5 + root.size) = root := by
  obtain ⟨h1, h2, h3, h4, h5⟩ := h
  rw [commit_text h1 h2 h3] at h5
  refine ⟨?_, ?_, ?_, ?_⟩
  · rw [sub_getD h5 63 (by omega), marked_mark _ _ _ _ (Nat.le_refl _)]
  · rw [num_of h5 (Nat.le_refl _) (by omega) (by omega)]; omega
  · rw [sub_getD h5 4 (by omega), marked_low _ _ _ _ _ (Nat.le_refl _) (by omega)]
    show (UInt8.ofNat root.size).toNat = _
    exact UInt8.toNat_ofNat_of_lt' (by show _ < 256; omega)
  · obtain ⟨r, hr⟩ := markedTo_head (four v.toNat ++ ([UInt8.ofNat root.size] ++ root.data.toList)) [67] [] 1 (Nat.le_refl _)
    rw [sub_extract h5 5 root.size (by omega), hr]
    unfold part63
    have e : List.take 63 (four v.toNat ++ ([UInt8.ofNat root.size] ++ root.data.toList)) = four v.toNat ++ ([UInt8.ofNat root.size] ++ root.data.toList) :=
      List.take_of_length_le (by rw [List.length_append, List.length_append]; show 4 + (1 + root.size) ≤ 63; omega)
    rw [List.drop_zero, e, List.append_assoc]
    rw [show List.drop 5 (four v.toNat ++ ([UInt8.ofNat root.size] ++ root.data.toList) ++ (List.replicate (63 - ((four v.toNat ++ ([UInt8.ofNat root.size] ++ root.data.toList)).length - 0)) 0 ++ ([67] ++ r))) = root.data.toList ++ (List.replicate (63 - ((four v.toNat ++ ([UInt8.ofNat root.size] ++ root.data.toList)).length - 0)) 0 ++ ([67] ++ r)) from rfl]
    rw [List.take_append_of_le_length (show root.size ≤ root.data.toList.length from Nat.le_refl _), List.take_of_length_le (show root.data.toList.length ≤ root.size from Nat.le_refl _), T_of]
end Go.Proofs.YtliapnhckdimoacGreatDoor
namespace Go.Proofs.YtliapnhckdimoacGreatDoor
open Go.RowKit Go.Proofs.Sha

abbrev recV (k : Int) (enc : ByteArray) (v : Int) (root : ByteArray) (nx : Int) : Value := .agg #[.int .i64 k, .string enc, .int .i64 v, .string root, .int .i64 nx]
/-- What ReadRecord answers. -/
def readPost (s : ByteArray) (n : Int) (e : Ending) : Prop :=
  (∃ enc, 0 ≤ n ∧ IsNode s (64 * n.toNat) enc ∧ e = .returned (recV 1 enc 0 ⟨#[]⟩ (n + (secs enc.size : Int)))) ∨
  (∃ v root, 0 ≤ n ∧ IsCommit s (64 * n.toNat) v root ∧ e = .returned (recV 2 ⟨#[]⟩ v root (n + 1))) ∨
  ((0 ≤ n → (∀ enc, ¬ IsNode s (64 * n.toNat) enc) ∧ ∀ v root, ¬ IsCommit s (64 * n.toNat) v root) ∧ e = .returned (recV 0 ⟨#[]⟩ 0 ⟨#[]⟩ 0))

structure RecAt (w : World) (g : Nat) (k : Int) (enc : ByteArray) (v : Int) (root : ByteArray) (nx : Int) : Prop where
  c0 : w.cell? ⟨g, 0, none⟩ = some (.int .i64 k)
  c1 : w.cell? ⟨g, 1, none⟩ = some (.string enc)
  c2 : w.cell? ⟨g, 2, none⟩ = some (.int .i64 v)
  c3 : w.cell? ⟨g, 3, none⟩ = some (.string root)
  c4 : w.cell? ⟨g, 4, none⟩ = some (.int .i64 nx)
  f0 : w.frozen? ⟨g, 0, none⟩ = false
  f1 : w.frozen? ⟨g, 1, none⟩ = false
  f2 : w.frozen? ⟨g, 2, none⟩ = false
  f3 : w.frozen? ⟨g, 3, none⟩ = false
  f4 : w.frozen? ⟨g, 4, none⟩ = false
section
variable {w w' : World} {g B : Nat} {k v nx : Int} {enc root : ByteArray}
theorem RecAt.lt (h : RecAt w g k enc v root nx) : g < w.heap.size := World.block_lt_of_cell? w _ h.c0
theorem RecAt.below (h : RecAt w g k enc v root nx) (hb : Below B w w') (hg : g < B) : RecAt w' g k enc v root nx :=
  ⟨(hb.cell hg).trans h.c0, (hb.cell hg).trans h.c1, (hb.cell hg).trans h.c2, (hb.cell hg).trans h.c3, (hb.cell hg).trans h.c4, (hb.frozen hg).trans h.f0, (hb.frozen hg).trans h.f1, (hb.frozen hg).trans h.f2, (hb.frozen hg).trans h.f3, (hb.frozen hg).trans h.f4⟩
theorem RecAt.mk5 (w : World) (k : Int) (enc : ByteArray) (v : Int) (root : ByteArray) (nx : Int) : RecAt (w.alloc (.cells #[.int .i64 k, .string enc, .int .i64 v, .string root, .int .i64 nx] 31)) w.heap.size k enc v root nx := by
  constructor <;> simp
theorem RecAt.set5 (h : RecAt w g k enc v root nx) (k' : Int) (enc' : ByteArray) (v' : Int) (root' : ByteArray) (nx' : Int) :
    RecAt (((((w.setCell ⟨g, 0, none⟩ (.int .i64 k')).setCell ⟨g, 1, none⟩ (.string enc')).setCell ⟨g, 2, none⟩ (.int .i64 v')).setCell ⟨g, 3, none⟩ (.string root')).setCell ⟨g, 4, none⟩ (.int .i64 nx')) g k' enc' v' root' nx' := by
  have e0 : ∀ (w : World) (i j : Nat) (x : Value), j ≠ i → (w.setCell ⟨g, i, none⟩ x).cell? ⟨g, j, none⟩ = w.cell? ⟨g, j, none⟩ := fun w i j x hn => cell_set_ne w g i j x hn
  have s0 : (w.setCell ⟨g, 0, none⟩ (.int .i64 k')).cell? ⟨g, 0, none⟩ = some (.int .i64 k') := World.cell?_setCell_same _ _ _ h.c0
  have s1 : ((w.setCell ⟨g, 0, none⟩ (.int .i64 k')).setCell ⟨g, 1, none⟩ (.string enc')).cell? ⟨g, 1, none⟩ = some (.string enc') := World.cell?_setCell_same _ _ _ ((e0 _ _ _ _ (by omega)).trans h.c1)
  have s2 : (((w.setCell ⟨g, 0, none⟩ (.int .i64 k')).setCell ⟨g, 1, none⟩ (.string enc')).setCell ⟨g, 2, none⟩ (.int .i64 v')).cell? ⟨g, 2, none⟩ = some (.int .i64 v') :=
    World.cell?_setCell_same _ _ _ ((e0 _ _ _ _ (by omega)).trans ((e0 _ _ _ _ (by omega)).trans h.c2))
  have s3 : ((((w.setCell ⟨g, 0, none⟩ (.int .i64 k')).setCell ⟨g, 1, none⟩ (.string enc')).setCell ⟨g, 2, none⟩ (.int .i64 v')).setCell ⟨g, 3, none⟩ (.string root')).cell? ⟨g, 3, none⟩ = some (.string root') :=
    World.cell?_setCell_same _ _ _ ((e0 _ _ _ _ (by omega)).trans ((e0 _ _ _ _ (by omega)).trans ((e0 _ _ _ _ (by omega)).trans h.c3)))
  refine ⟨?_, ?_, ?_, ?_, World.cell?_setCell_same _ _ _ ((e0 _ _ _ _ (by omega)).trans ((e0 _ _ _ _ (by omega)).trans ((e0 _ _ _ _ (by omega)).trans ((e0 _ _ _ _ (by omega)).trans h.c4)))), ?_, ?_, ?_, ?_, ?_⟩
  · rw [e0 _ 4 0 _ (by omega), e0 _ 3 0 _ (by omega), e0 _ 2 0 _ (by omega), e0 _ 1 0 _ (by omega)]; exact s0
  · rw [e0 _ 4 1 _ (by omega), e0 _ 3 1 _ (by omega), e0 _ 2 1 _ (by omega)]; exact s1
  · rw [e0 _ 4 2 _ (by omega), e0 _ 3 2 _ (by omega)]; exact s2
  · rw [e0 _ 4 3 _ (by omega)]; exact s3
  all_goals rw [World.frozen?_setCell, World.frozen?_setCell, World.frozen?_setCell, World.frozen?_setCell, World.frozen?_setCell]
  · exact h.f0
  · exact h.f1
  · exact h.f2
  · exact h.f3
  · exact h.f4
theorem RecAt.ret (h : RecAt w g k enc v root nx) {a : Act} {R : Ending → World → Prop} (h4 : a.tmps.getD 4 undef = .pointer (some ⟨g, 0, none⟩)) (hd : a.defers = [])
    (hR : R (.returned (recV k enc v root nx)) w) : bodyPost Tryz.prog Tryz.f10 R .ret a w := by
  obtain ⟨c0, c1, c2, c3, c4, f0, f1, f2, f3, f4⟩ := h
  have h4' : a.tmps[4]?.getD undef = .pointer (some ⟨g, 0, none⟩) := by simpa using h4
  exact bodyPost_ret (v := recV k enc v root nx) (by simp [results, Tryz.results10, go_sem, h4', asAddr, c0, c1, c2, c3, c4]) hd hR
theorem below5 {W : World} (h : Below B W w) (hB : B ≤ g) (x0 x1 x2 x3 x4 : Value) : Below B W (((((w.setCell ⟨g, 0, none⟩ x0).setCell ⟨g, 1, none⟩ x1).setCell ⟨g, 2, none⟩ x2).setCell ⟨g, 3, none⟩ x3).setCell ⟨g, 4, none⟩ x4) :=
  ((((h.setCell hB _).setCell hB _).setCell hB _).setCell hB _).setCell hB _
end

set_option maxRecDepth 100000 in
set_option maxHeartbeats 400000 in
theorem read_no (s : ByteArray) (n : Int) (w : World) (hs : s.size ≤ 1048576) (h : n < 0 ∨ (s.size : Int) / 64 < n ∨ (s.size : Int) - 64 * n < 64) :
    Calls Tryz.prog 10 #[.string s, .int .i64 n] w fun e w' => readPost s n e ∧ Below w.heap.size w w' := by
  have HN : Hid (0 ≤ n → (∀ enc, ¬ IsNode s (64 * n.toNat) enc) ∧ ∀ v root, ¬ IsCommit s (64 * n.toNat) v root) := fun h0 => by
    have hno : ¬ 64 * n.toNat + 64 ≤ s.size := by omega
    exact ⟨fun enc h => hno h.parts.1, fun v root h => hno h.2.2.2.1⟩
  have hN := RecAt.mk5 w 0 ⟨#[]⟩ 0 ⟨#[]⟩ 0
  have hbw : Below w.heap.size w (w.alloc (.cells #[.int .i64 0, .string ⟨#[]⟩, .int .i64 0, .string ⟨#[]⟩, .int .i64 0] 31)) := (Below.refl _ _).alloc (Nat.le_refl _) _
  by_cases h0 : n < 0
  · have z0 : decide (n < 0) = true := by simpa using h0
    go_enter Tryz.func10, Tryz.ntmps10
    go_wp2_with fail
    exact hN.ret rfl rfl ⟨.inr (.inr ⟨HN.out, rfl⟩), hbw⟩
  by_cases h1 : (s.size : Int) / 64 < n
  · have z0 : decide (n < 0) = false := by simpa using h0
    have z1 : decide ((s.size : Int) / 64 < n) = true := by simpa using h1
    go_enter Tryz.func10, Tryz.ntmps10
    go_wp2_with fail
    exact hN.ret rfl rfl ⟨.inr (.inr ⟨HN.out, rfl⟩), hbw⟩
  · have z0 : decide (n < 0) = false := by simpa using h0
    have z1 : decide ((s.size : Int) / 64 < n) = false := by simpa using h1
    have z2 : IntKind.i64.wrap (n * 64) = n * 64 := wrap_i64_in _ (by omega) (by omega)
    have z3 : IntKind.i64.wrap ((s.size : Int) - n * 64) = (s.size : Int) - n * 64 := wrap_i64_in _ (by omega) (by omega)
    have z4 : decide ((s.size : Int) - n * 64 < 64) = true := by simp; omega
    go_enter Tryz.func10, Tryz.ntmps10
    go_wp2_with fail
    exact hN.ret rfl rfl ⟨.inr (.inr ⟨HN.out, rfl⟩), hbw⟩
end Go.Proofs.YtliapnhckdimoacGreatDoor
namespace Go.Proofs.YtliapnhckdimoacGreatDoor
open Go.RowKit Go.Proofs.Sha

theorem wrapI_in (x : Int) (h : -9223372036854775808 ≤ x ∧ x ≤ 9223372036854775807) : IntKind.i64.wrap x = x := by rw [IntKind.wrap_i64]; omega
theorem row_others {w w1 w4 w5 : World} {lb r base : Nat} {vA : Value} {o : Obj} {x : Nat} {v : Value} (h1 : w.grownBy w1 (some r)) (h4 : (w1.alloc o).grownBy w4 vA.ownBlock) (h5 : w5 = w4.setCell ⟨lb, x, none⟩ v) (hl : lb < base) (hr : r < base) :
    ∀ g, base ≤ g → g < w.heap.size → vA.ownBlock ≠ some g → w5.heap[g]? = w.heap[g]? := fun g hb hg hne => by
  have e1 := h1.block g hg (fun e => by have := Option.some.inj e; omega)
  have hg1 := Nat.lt_of_lt_of_le hg h1.size
  have e2 := Below.heap_alloc w1 o g hg1
  have e4 := h4.block g (by simp; omega) (fun e => hne e.symm)
  have e5 := (grownBy_setCell w4 lb x v).block g (by have := h4.size; simp at this; omega) (fun e => by have := Option.some.inj e; omega)
  rw [h5, e5, e4, e2, e1]
set_option maxRecDepth 100000 in
set_option maxHeartbeats 1000000 in
theorem putAside_any {K : World → Prop} (HH : Hid (HashSaid K)) (keep : Hid (∀ w1 w2, K w1 → Below w1.heap.size w1 w2 → K w2)) (lb r base wd : Nat) (st : SS) (aN : Option Addr) (cN : Nat) (aR : Option Addr) (cR : Nat) (aA : Option Addr) (cA : Nat) (enc : ByteArray) (w : World) (h : LogAt lb r base wd st aN cN aR cR aA cA w) (hK : K w) (hs : enc.size ≤ 1048576) (h1 : wd ≤ 32) (hlen : st.nodes.length + st.aside.length ≤ 100000) (x : Nat) :
    Calls Tryz.prog 17 #[.pointer (some ⟨lb, 0, none⟩), .string enc] w fun e w' => ∃ aA' cA', e = .returned (.tuple #[]) ∧ LogAt lb r base wd ⟨st.nodes, st.aside ++ [enc], st.roots, st.fin, x⟩ aN cN aR cR aA' cA' w' ∧ Turn lb r base w w' := by
  obtain ⟨F, hF⟩ : ∃ F, placesF wd (st.nodes ++ st.aside) (st.nodes ++ st.aside).length = F := ⟨_, rfl⟩
  have HF : Hid (placesF wd (st.nodes ++ (st.aside ++ [enc])) (st.nodes ++ (st.aside ++ [enc])).length = addF F (cutW wd (sha (78 :: enc.data.toList))) ((st.nodes.length : Int) + (st.aside.length : Int))) := by
    show _ = _
    rw [← List.append_assoc, placesF_snoc, hF, List.length_append, Int.natCast_add]
  obtain ⟨i0, hi0, hz0, hz1, hz2⟩ := info_parts info9
  have hM := h.map
  rw [hF] at hM
  have HAdd : Hid (∀ w', Below w.heap.size w w' → Calls Tryz.prog 30 #[.agg #[.int .i64 (wd : Int), .map (some r)], .string enc, .int .i64 ((st.nodes.length : Int) + (st.aside.length : Int))] w' fun e w'' => e = .returned (.tuple #[]) ∧ MapF (addF F (cutW wd (sha (78 :: enc.data.toList))) ((st.nodes.length : Int) + (st.aside.length : Int))) r w'' ∧ w'.grownBy w'' (some r)) := fun w' hb => add_any HH wd r F enc _ w' (hM.below hb) (keep.out _ _ hK hb) keep hs h1
  have hblk := h.blk
  have hlb := h.hl
  have hrb := h.hr
  have hne := h.hne
  have hbs := h.hb
  have oA := h.oA
  obtain ⟨n, hn⟩ : ∃ n, st.nodes.length = n := ⟨_, rfl⟩
  obtain ⟨m, hm⟩ : ∃ m, st.aside.length = m := ⟨_, rfl⟩
  have HX : Hid (∀ w5 g4 c4, w5.heap[lb]? = some (.cells #[.slice aN n cN, .slice aR st.roots.length cR, .int .i64 (st.fin : Int), .slice (some ⟨g4, 0, none⟩) (m + 1) c4, .int .i64 (wd : Int), .map (some r)] 41) →
      w5.ownsRow base 9 1 (.slice (some ⟨g4, 0, none⟩) (m + 1) c4) (m + 1) (st.aside.map Value.string ++ [.string enc]) → (∀ g, base ≤ g → g < w.heap.size → (Value.slice aA m cA).ownBlock ≠ some g → w5.heap[g]? = w.heap[g]?) → ((Value.slice aA m cA).ownBlock = some g4 ∨ w.heap.size ≤ g4) → MapF (addF F (cutW wd (sha (78 :: enc.data.toList))) ((n : Int) + (m : Int))) r w5 → base ≤ w5.heap.size →
      LogAt lb r base wd ⟨st.nodes, st.aside ++ [enc], st.roots, st.fin, x⟩ aN cN aR cR (some ⟨g4, 0, none⟩) c4 w5) := by
    intro w5 g4 c4 q1 q2 q3 q4 q5 q6
    have hl : (st.aside ++ [enc]).length = m + 1 := by rw [List.length_append, hm]; rfl
    have hno : ∀ {v : Value} {k : Nat} {xs : List Value}, w.ownsRow base 9 1 v k xs → (∀ g, v.ownBlock = some g → (Value.slice aA m cA).ownBlock ≠ some g) → w5.ownsRow base 9 1 v k xs ∧ ∀ g, v.ownBlock = some g → g ≠ g4 := fun ho hd => by
      refine ⟨own_kept ho (fun g hv hg => q3 g (own_cells ho hv).1 hg (hd g hv)), fun g hv e => ?_⟩
      subst e
      rcases q4 with q4 | q4
      · exact hd g hv q4
      · have := (own_cells ho hv).2.1; omega
    have hdNA := h.dNA
    have hdRA := h.dRA
    rw [hm] at hdNA hdRA
    have gN := hno h.oN hdNA
    have gR := hno h.oR hdRA
    refine ⟨?_, gN.1, gR.1, ?_, h.dNR, ?_, ?_, fun e => by simp at e, ?_, hlb, hrb, hne, q6⟩
    · show w5.heap[lb]? = some (.cells #[.slice aN st.nodes.length cN, .slice aR st.roots.length cR, .int .i64 (st.fin : Int), .slice (some ⟨g4, 0, none⟩) (st.aside ++ [enc]).length c4, .int .i64 (wd : Int), .map (some r)] 41)
      rw [hl, hn]; exact q1
    · show w5.ownsRow base 9 1 (.slice (some ⟨g4, 0, none⟩) (st.aside ++ [enc]).length c4) (st.aside ++ [enc]).length ((st.aside ++ [enc]).map Value.string)
      rw [hl, List.map_append]; exact q2
    · intro g hv e
      exact gN.2 g hv (Option.some.inj e).symm
    · intro g hv e
      exact gR.2 g hv (Option.some.inj e).symm
    · show MapF (placesF wd (st.nodes ++ (st.aside ++ [enc])) (st.nodes ++ (st.aside ++ [enc])).length) r w5
      rw [HF.out, hn, hm]; exact q5
  rw [hn, hm] at HAdd
  rw [hn, hm] at hblk
  rw [hm] at oA
  rw [hn, hm] at hlen
  obtain ⟨p, hp⟩ : ∃ p : Int, (n : Int) + (m : Int) = p := ⟨_, rfl⟩
  have hq : -9223372036854775808 ≤ p ∧ p ≤ 9223372036854775807 := by omega
  have y1 : wrap64 ((n : Int) + (m : Int)) = p := by rw [hp]; exact wr_in _ hq
  have y2 : IntKind.i64.wrap ((n : Int) + (m : Int)) = p := by rw [hp]; exact wrapI_in p hq
  clear hq
  rw [hp] at HX HAdd
  replace hp : Hid _ := hp
  generalize addF F (cutW wd (sha (78 :: enc.data.toList))) p = G at HX HAdd
  clear HF hM hF HH keep hK hs h1
  have HC : Hid (∀ W : World, W.heap[lb]? = w.heap[lb]? → W.cell? ⟨lb, 0, none⟩ = some (.slice aN n cN) ∧ W.cell? ⟨lb, 3, none⟩ = some (.slice aA m cA) ∧ W.cell? ⟨lb, 4, none⟩ = some (.int .i64 (wd : Int)) ∧ W.cell? ⟨lb, 5, none⟩ = some (.map (some r))) := fun W hW => by
    have hb := hW.trans hblk
    exact ⟨Lib.cell_of_heap hb 0, Lib.cell_of_heap hb 3, Lib.cell_of_heap hb 4, Lib.cell_of_heap hb 5⟩
  have hlt : lb < w.heap.size := by omega
  replace oA : Hid _ := oA
  replace hblk : Hid _ := hblk
  replace hi0 : Hid _ := hi0
  replace hz0 : Hid _ := hz0
  replace hz1 : Hid _ := hz1
  replace hz2 : Hid _ := hz2
  clear h hn hm
  go_enter Tryz.func17, Tryz.ntmps17
  go_wp2_with fail
  go_region_held3 (fun W => W.cell? ⟨lb, 0, none⟩ = some (.slice aN n cN) ∧ W.cell? ⟨lb, 3, none⟩ = some (.slice aA m cA) ∧ W.cell? ⟨lb, 4, none⟩ = some (.int .i64 (wd : Int)) ∧ W.cell? ⟨lb, 5, none⟩ = some (.map (some r))) (first | exact HC.out _ rfl | exact HC.out _ hlb1) (first | (go_at_call 30; refine (HAdd.out _ (Below.refl w.heap.size w).drew).mono ?_; rintro e w1 ⟨rfl, hM1, hg1'⟩; have hg1 : w.grownBy w1 (some r) := grownBy_trans (grownBy_of_below (Below.refl w.heap.size w).drew _) hg1'; have hlb1 : w1.heap[lb]? = w.heap[lb]? := hg1.block lb hlt (fun e => hne (Option.some.inj e)); clear hg1'))
  have hb1 : w1.heap[lb]? = some (.cells #[.slice aN n cN, .slice aR st.roots.length cR, .int .i64 (st.fin : Int), .slice aA m cA, .int .i64 (wd : Int), .map (some r)] 41) := hlb1.trans hblk.out
  have oA1 : w1.ownsRow base 9 1 (.slice aA m cA) m (st.aside.map Value.string) := own_kept oA.out (fun g hv hg => hg1.block g hg (fun e => by have := Option.some.inj e; have := (own_cells oA.out hv).1; omega))
  have hs1 := hg1.size
  have c3 := Lib.cell_of_heap hb1 3
  have hbA : Below w1.heap.size w1 (w1.alloc (.cells #[.string enc] 9)) := (Below.refl _ _).alloc (Nat.le_refl _) _
  clear HAdd HC
  go_wp2_with (first | (refine wpList_append_lies _ rfl (.tmp 26) (.tmp 28) 22 rfl base 9 i0 (.string ⟨#[]⟩) 1 16 Tryz.underlying22 hi0.out hz0.out hz1.out hz2.out rfl (by decide) _ m (st.aside.map Value.string) rfl (oA1.alloc _) ⟨w1.heap.size, 0, none⟩ 1 1 [.string enc] rfl rfl (World.news_of_block (heap_alloc_new w1 _)) (by simp [Value.oneCell']) (by decide) (by unfold maxLen; omega) (by omega) (by simp; omega) (w1.heap.size + 1) (by simp) ?_; intro g4 c4 w4 hown4 hgrow4 hat4 hlt4; have hb4 : w4.heap[lb]? = some (.cells #[.slice aN n cN, .slice aR st.roots.length cR, .int .i64 (st.fin : Int), .slice aA m cA, .int .i64 (wd : Int), .map (some r)] 41) := (hgrow4.block lb (by simp; omega) (fun e => by have := (own_cells oA1 e.symm).1; omega)).trans ((hbA.block lb (by omega)).trans hb1); have k3 := Lib.cell_of_heap hb4 3; have f3 : w4.frozen? ⟨lb, 3, none⟩ = false := by rw [World.frozen?, hb4]; rfl))
  go_end0
  obtain ⟨w5, hw5⟩ : ∃ w5, w5 = w4.setCell ⟨lb, 3, none⟩ (.slice (some ⟨g4, 0, none⟩) (m + 1) c4) := ⟨_, rfl⟩
  have hoth := row_others (vA := .slice aA m cA) hg1 hgrow4 hw5 hlb hrb
  have hs4 := hgrow4.size
  simp at hs4
  have hg5 := grownBy_setCell w4 lb 3 (.slice (some ⟨g4, 0, none⟩) (m + 1) c4)
  have hs5 := hg5.size
  have hg4b : base ≤ g4 := (own_cells hown4 rfl).1
  have t1 : Turn lb r base w w1 := Turn.of_grown hg1 hbs (fun g e => .inr (.inl (Option.some.inj e).symm)) (fun g o e hh _ => by exfalso; have := Option.some.inj e; omega)
  have t2 : Turn lb r base w1 (w1.alloc (.cells #[.string enc] 9)) := Turn.of_below hbA (by omega)
  have t4 : Turn lb r base (w1.alloc (.cells #[.string enc] 9)) w4 := Turn.of_grown hgrow4 (by simp; omega) (fun g e => .inr (.inr (own_cells oA1 e).1)) (fun g o e _ ho => by
    obtain ⟨_, hl1, cur, hc⟩ := own_cells oA1 e
    rw [hbA.block g hl1, hc] at ho
    cases ho; exact ⟨_, rfl⟩)
  have t5 := Turn.setCell (r := r) w4 3 (.slice (some ⟨g4, 0, none⟩) (m + 1) c4) (by omega) hlb
  rw [← hw5] at hg5 t5 hs5
  refine ⟨some ⟨g4, 0, none⟩, c4, rfl, ?_, ?_⟩
  · rw [← hw5]
    refine HX.out w5 g4 c4 (by rw [hw5]; exact heap_setCell_same w4 lb 3 _ 41 _ hb4) (own_kept hown4 (fun g hv hg => by have e : g4 = g := Option.some.inj hv; exact hg5.block g hg (fun e' => by have := Option.some.inj e'; omega))) hoth ?_ ?_ (by omega)
    · rcases hat4 with q | q
      · exact .inl q
      · right; omega
    · have hMa := hM1.below hbA
      have hMb : MapF G r w4 := by
        obtain ⟨es, cl, hh, q1, q2⟩ := hMa.is
        exact ⟨es, cl, (hgrow4.block r (Array.getElem?_eq_some_iff.1 hh).1 (fun e => by have := (own_cells oA1 e.symm).1; omega)).trans hh, q1, q2⟩
      exact hMb.kept hg5 (fun e => hne e.symm)
  · rw [← hw5]
    exact ((t1.trans t2).trans t4).trans t5
end Go.Proofs.YtliapnhckdimoacGreatDoor
namespace Go.Proofs.YtliapnhckdimoacGreatDoor
open Go.RowKit Go.Proofs.Sha

set_option maxRecDepth 100000 in
theorem find_no (wd : Nat) (r : Nat) (hash : ByteArray) (w : World) (h2 : hash.size ≠ wd) :
    Calls Tryz.prog 31 #[.agg #[.int .i64 (wd : Int), .map (some r)], .string hash] w fun e w' => e = .returned (.tuple #[.int .i64 0, .bool false]) ∧ Below w.heap.size w w' := by
  have z1 : ((hash.size : Int) != (wd : Int)) = true := by rw [bne_iff_ne]; omega
  have hfin : Below w.heap.size w (w.alloc (.cells #[.int .i64 (wd : Int), .map (some r)] 38)) := (Below.refl _ _).alloc (Nat.le_refl _) _
  go_enter Tryz.func31, Tryz.ntmps31
  go_wp2_with fail
  go_ret2
  exact ⟨rfl, hfin⟩
/-- What find answers, whatever the size. -/
theorem find_all (wd : Nat) (r : Nat) (F : List UInt8 → Option Int) (hash : ByteArray) (w : World) (h : MapF F r w) (h1 : wd ≤ 32) :
    Calls Tryz.prog 31 #[.agg #[.int .i64 (wd : Int), .map (some r)], .string hash] w fun e w' => ∃ i : Int, e = .returned (.tuple #[.int .i64 i, .bool (decide (hash.size = wd) && (F (cutW wd hash.data.toList)).isSome)]) ∧ Below w.heap.size w w' := by
  by_cases h2 : hash.size = wd
  · refine (find_any wd r F hash w h h1 h2).mono ?_
    rintro e w' ⟨rfl, hb⟩
    exact ⟨_, by rw [decide_eq_true h2, Bool.true_and], hb⟩
  · refine (find_no wd r hash w h2).mono ?_
    rintro e w' ⟨rfl, hb⟩
    exact ⟨_, by rw [decide_eq_false h2, Bool.false_and], hb⟩

set_option maxRecDepth 100000 in
set_option maxHeartbeats 1000000 in
theorem isGood_any (lb r base wd : Nat) (st : SS) (aN : Option Addr) (cN : Nat) (aR : Option Addr) (cR : Nat) (aA : Option Addr) (cA : Nat) (R : RecT) (w : World) (h : LogAt lb r base wd st aN cN aR cR aA cA w) (h1 : wd ≤ 32) (hlen : st.roots.length ≤ 100000) :
    Calls Tryz.prog 18 #[.pointer (some ⟨lb, 0, none⟩), recV R.k R.enc R.v R.root (R.nx : Int)] w fun e w' => e = .returned (.bool (goodC wd st R)) ∧ Below w.heap.size w w' := by
  rw [goodC_eq wd st R h1 _ rfl]
  have hblk := h.blk
  have hlt : lb < w.heap.size := Nat.lt_of_lt_of_le h.hl h.hb
  have hM := h.map
  generalize placesF wd (st.nodes ++ st.aside) (st.nodes ++ st.aside).length = F at hM ⊢
  obtain ⟨k, hk⟩ : ∃ k, st.roots.length = k := ⟨_, rfl⟩
  rw [hk] at hblk hlen
  rw [hk]
  clear h hk
  obtain ⟨rk, re, rv, rr, rn⟩ := R
  simp only
  obtain ⟨q, hq⟩ : ∃ q : Int, (k : Int) + 1 = q := ⟨_, rfl⟩
  have hq' : -9223372036854775808 ≤ q ∧ q ≤ 9223372036854775807 := by omega
  have y1 : wrap64 ((k : Int) + 1) = q := by rw [hq]; exact wr_in _ hq'
  have y2 : IntKind.i64.wrap ((k : Int) + 1) = q := by rw [hq]; exact wrapI_in q hq'
  rw [hq]
  clear hq' hq
  have hbA : Below w.heap.size w (w.alloc (.cells #[.int .i64 rk, .string re, .int .i64 rv, .string rr, .int .i64 (rn : Int)] 31)) := (Below.refl _ _).alloc (Nat.le_refl _) _
  have nA := heap_alloc_new w (.cells #[.int .i64 rk, .string re, .int .i64 rv, .string rr, .int .i64 (rn : Int)] 31)
  have hbl := (hbA.block lb hlt).trans hblk
  have HFd : Hid (∀ w', Below w.heap.size w w' → Calls Tryz.prog 31 #[.agg #[.int .i64 (wd : Int), .map (some r)], .string rr] w' fun e w'' => ∃ i : Int, e = .returned (.tuple #[.int .i64 i, .bool (decide (rr.size = wd) && (F (cutW wd rr.data.toList)).isSome)]) ∧ Below w'.heap.size w' w'') := fun w' hb => find_all wd r F rr w' (hM.below hb) h1
  generalize (decide (rr.size = wd) && (F (cutW wd rr.data.toList)).isSome) = fd at HFd ⊢
  obtain ⟨ga, hga⟩ : ∃ ga, w.heap.size = ga := ⟨_, rfl⟩
  rw [hga] at nA
  clear hM hblk
  obtain ⟨b, hb⟩ : ∃ b, (decide (rv = q) && (decide (rr.size = 0) || fd)) = b := ⟨_, rfl⟩
  rw [hb]
  replace hb : Hid _ := hb
  go_enter Tryz.func18, Tryz.ntmps18
  go_upto_region 1 with fail
  try rw [hga]
  generalize hw1 : w.alloc (.cells #[.int .i64 rk, .string re, .int .i64 rv, .string rr, .int .i64 (rn : Int)] 31) = w1 at hbA nA hbl ⊢
  have c1 := Lib.cell_of_heap hbl 1
  have n2 := Lib.cell_of_heap nA 2
  have n3 := Lib.cell_of_heap nA 3
  clear hw1
  by_cases hv : rv = q
  · have z1 : (rv != q) = false := by rw [hv]; simp
    replace hv : Hid _ := hv
    go_region
    by_cases hr : rr.size = 0
    · have z2 : (rr.toList == []) = true := by rw [beq_iff_eq]; exact List.eq_nil_of_length_eq_zero (by rw [ByteArray.toList_eq]; exact hr)
      replace hr : Hid _ := hr
      go_wp2_with fail
      go_ret
      exact ⟨by rw [← hb.out, decide_eq_true hv.out, decide_eq_true hr.out]; rfl, hbA.drew⟩
    · have z2 : (rr.toList == []) = false := by rw [beq_eq_false_iff_ne]; intro e; exact hr (by have := congrArg List.length e; rw [ByteArray.toList_eq] at this; exact this)
      replace hr : Hid _ := hr
      go_wp2_with fail
      have HC : Hid (∀ W : World, Below w1.heap.size w1 W → W.cell? ⟨lb, 4, none⟩ = some (.int .i64 (wd : Int)) ∧ W.cell? ⟨lb, 5, none⟩ = some (.map (some r)) ∧ W.cell? ⟨ga, 3, none⟩ = some (.string rr)) := fun W hW => by
        have e1 := (hW.block lb (Array.getElem?_eq_some_iff.1 hbl).1).trans hbl
        have e2 := (hW.block ga (Array.getElem?_eq_some_iff.1 nA).1).trans nA
        exact ⟨Lib.cell_of_heap e1 4, Lib.cell_of_heap e1 5, Lib.cell_of_heap e2 3⟩
      have hD1 : Below w1.heap.size w1 w1.drew := (Below.refl _ _).drew
      have hD2 : Below w.heap.size w w1.drew.drew := hbA.drew.drew
      go_region_held3 (fun W => W.cell? ⟨lb, 4, none⟩ = some (.int .i64 (wd : Int)) ∧ W.cell? ⟨lb, 5, none⟩ = some (.map (some r)) ∧ W.cell? ⟨ga, 3, none⟩ = some (.string rr)) (first | exact HC.out _ hD1 | exact HC.out _ (Below.refl _ _) | exact HC.out _ hD1.drew | exact HC.out _ hx5) (first | (go_at_call 31; refine (HFd.out _ (by first | exact hbA.drew | exact hD2)).mono ?_; rintro e w5 ⟨i5, rfl, hb5⟩; have hx5 : Below w1.heap.size w1 w5 := hD1.drew.trans hb5; clear hb5))
      go_wp2_with fail
      go_ret
      exact ⟨by rw [← hb.out, decide_eq_true hv.out, decide_eq_false hr.out]; rfl, hbA.trans (hx5.mono hbA.size)⟩
  · have z1 : (rv != q) = true := by rw [bne_iff_ne]; exact hv
    replace hv : Hid _ := hv
    go_region
    go_wp2_with fail
    go_ret
    exact ⟨by rw [← hb.out, decide_eq_false hv.out]; rfl, hbA.drew⟩
end Go.Proofs.YtliapnhckdimoacGreatDoor
