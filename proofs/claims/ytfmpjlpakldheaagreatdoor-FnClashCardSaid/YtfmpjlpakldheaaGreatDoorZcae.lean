import Derived.Test.YtfmpjlpakldheaaGreatDoorZcad
import Derived.Deep.QuietTactic
import Derived.BigQuiet
import Derived.OwnWalk
import Derived.Laws.StructEq
namespace Go.Proofs.YtfmpjlpakldheaaGreatDoor
open Go.RowKit Go.Proofs.Sha

theorem bget (p : ByteArray) (k : Nat) (h : k < p.size) : p[k] = p.data.toList.getD k 0 := by
  rw [List.getD_eq_getElem?_getD, List.getElem?_eq_getElem (by exact h)]; rfl
/-- The size that stands at a place of a text, in two bytes. -/
def szAt (s : ByteArray) (a : Nat) : Nat := (s.data.toList.getD a 0).toNat * 256 + (s.data.toList.getD (a + 1) 0).toNat
end Go.Proofs.YtfmpjlpakldheaaGreatDoor
namespace Go.Proofs.YtfmpjlpakldheaaGreatDoor
open Go.RowKit Go.Proofs.Sha

/-- The text is the encoding of this node at this width. -/
def IsEnc (s : ByteArray) (n : Int) (k v l r : ByteArray) : Prop :=
  nodeOk k.size v.size l.size r.size n = true ∧ s = T (encL k.data.toList v.data.toList l.data.toList r.data.toList)

theorem nodeOk_out {k v l r : Nat} {n : Int} (h : nodeOk k v l r n = true) : 1 ≤ n ∧ n ≤ 32 ∧ 1 ≤ k ∧ k ≤ 256 ∧ v ≤ 2000 ∧ (l = 0 ∨ (l : Int) = n) ∧ (r = 0 ∨ (r : Int) = n) := by
  simp only [nodeOk, hashOk, Bool.and_eq_true, Bool.or_eq_true, decide_eq_true_eq] at h
  omega

theorem T_extract (l : List UInt8) (a b : Nat) : (T l).extract a b = T ((l.drop a).take (b - a)) := ByteArray.extract_mk l a b
theorem T_list (l : List UInt8) : (T l).data.toList = l := rfl
theorem szAt_sized (P K Q : List UInt8) (hK : K.length < 65536) : szAt (T (P ++ (sized K ++ Q))) P.length = K.length := by
  unfold szAt sized
  rw [T_list, List.getD_eq_getElem?_getD, List.getD_eq_getElem?_getD, List.getElem?_append_right (Nat.le_refl _), List.getElem?_append_right (Nat.le_add_right P.length 1)]
  simp only [Nat.sub_self, Nat.add_sub_cancel_left, List.cons_append, List.getElem?_cons_zero, List.getElem?_cons_succ, Option.getD_some]
  rw [UInt8.toNat_ofNat_of_lt' (by show _ < 256; omega), UInt8.toNat_ofNat_of_lt' (by show _ < 256; omega)]
  omega

theorem piece_sized (P K Q : List UInt8) : (T (P ++ (sized K ++ Q))).extract (P.length + 2) (P.length + 2 + K.length) = T K := by
  rw [T_extract, ← List.drop_drop, List.drop_left]
  congr 1
  simp [sized]

theorem sized_length (K : List UInt8) : (sized K).length = K.length + 2 := rfl

theorem flag_odd (l r : Nat) : (UInt8.ofNat (flagOf l r)).toNat = flagOf l r := by
  unfold flagOf; rw [UInt8.toNat_ofNat_of_lt' (by show _ < 256; split <;> split <;> omega)]

/-- What a text that is an encoding shows where it is taken apart. -/
theorem IsEnc.parts {s : ByteArray} {n : Int} {k v l r : ByteArray} (h : IsEnc s n k v l r) :
    0 + 2 + szAt s 0 ≤ s.size ∧ k = s.extract (0 + 2) (0 + 2 + szAt s 0) ∧
    ∀ a, a = 0 + 2 + szAt s 0 → a + 2 + szAt s a < s.size ∧ v = s.extract (a + 2) (a + 2 + szAt s a) ∧
    ∀ b, b = a + 2 + szAt s a → (s.data.toList.getD b 0).toNat = flagOf l.size r.size ∧ s.extract (b + 1) s.size = l ++ r := by
  obtain ⟨hok, hs⟩ := h
  have ho := nodeOk_out hok
  have hkl : k.data.toList.length = k.size := rfl
  have hvl : v.data.toList.length = v.size := rfl
  have e0 : s = T ([] ++ (sized k.data.toList ++ (sized v.data.toList ++ ([UInt8.ofNat (flagOf l.size r.size)] ++ (l.data.toList ++ r.data.toList))))) := by
    rw [hs]; unfold encL; simp only [List.append_assoc, List.nil_append]; rfl
  have e1 : s = T (sized k.data.toList ++ (sized v.data.toList ++ ([UInt8.ofNat (flagOf l.size r.size)] ++ (l.data.toList ++ r.data.toList)))) := e0
  have e2 : s = T ((sized k.data.toList ++ sized v.data.toList) ++ (UInt8.ofNat (flagOf l.size r.size) :: (l.data.toList ++ r.data.toList))) := by
    rw [e1, List.append_assoc]; rfl
  have hz : s.size = 2 + k.size + (2 + v.size) + 1 + (l.size + r.size) := by
    rw [e1, T_size]; simp only [List.length_append, sized_length, List.length_cons, List.length_nil, hkl, hvl]
    show k.size + 2 + (v.size + 2 + (0 + 1 + (l.size + r.size))) = _
    omega
  have s0 : szAt s 0 = k.size := by rw [e0]; exact szAt_sized [] _ _ (by omega)
  refine ⟨by omega, ?_, ?_⟩
  · rw [s0]
    conv => rhs; rw [e0]
    exact ((piece_sized [] k.data.toList _).trans (T_of k)).symm
  · intro a ha
    have ha' : a = (sized k.data.toList).length := by rw [sized_length, hkl]; omega
    have s1 : szAt s a = v.size := by rw [ha', e1]; exact szAt_sized _ _ _ (by omega)
    refine ⟨by omega, ?_, ?_⟩
    · rw [s1, ha']
      conv => rhs; rw [e1]
      exact ((piece_sized (sized k.data.toList) v.data.toList _).trans (T_of v)).symm
    · intro b hb
      have hb' : b = (sized k.data.toList ++ sized v.data.toList).length := by rw [List.length_append, sized_length, sized_length, hkl, hvl]; omega
      constructor
      · conv => lhs; rw [e2]
        rw [T_list, hb', List.getD_eq_getElem?_getD, List.getElem?_append_right (Nat.le_refl _), Nat.sub_self]
        exact flag_odd _ _
      · rw [hz]
        conv => lhs; rw [e2]
        rw [T_extract, hb', ← List.drop_drop, List.drop_left, List.drop_succ_cons, List.drop_zero, List.take_of_length_le, ← T_append, T_of, T_of]
        rw [List.length_append, List.length_append, sized_length, sized_length, hkl, hvl]
        show l.size + r.size ≤ _
        omega

theorem flag_even (l r : Nat) : flagOf l r % 2 = 1 ↔ l ≠ 0 := by
  unfold flagOf; split <;> split <;> omega

theorem ext_left (a b : ByteArray) : (a ++ b).extract 0 a.size = a := by
  rw [← T_of a, ← T_of b, T_append, T_extract]
  congr 1
  rw [T_size]; simp
theorem ext_right (a b : ByteArray) : (a ++ b).extract a.size (a ++ b).size = b := by
  rw [← T_of a, ← T_of b, T_append, T_extract]
  congr 1
  rw [T_size, T_size, List.drop_left, List.take_of_length_le]
  rw [List.length_append]; omega

/-- The sides, as they are cut from what is behind the flag. -/
theorem IsEnc.sides {s : ByteArray} {n : Int} {k v l r : ByteArray} (h : IsEnc s n k v l r) {f : Nat} {q : ByteArray} (hf : f = flagOf l.size r.size) (hq : q = l ++ r) :
    (f % 2 = 1 → n ≤ q.size ∧ l = q.extract 0 n.toNat ∧ r = q.extract n.toNat q.size) ∧ (¬ f % 2 = 1 → l = ⟨#[]⟩ ∧ r = q) := by
  have ho := nodeOk_out h.1
  constructor
  · intro h1
    rw [hf, flag_even] at h1
    have hn : n.toNat = l.size := by omega
    refine ⟨?_, ?_, ?_⟩
    · rw [hq, ByteArray.size_append]; omega
    · rw [hn, hq, ext_left]
    · rw [hn, hq, ext_right]
  · intro h1
    rw [hf, flag_even] at h1
    have hl : l = ⟨#[]⟩ := by
      have : l.data.size = 0 := by show l.size = 0; omega
      apply ByteArray.ext
      exact Array.eq_empty_of_size_eq_zero this
    refine ⟨hl, ?_⟩
    rw [hq, hl]
    exact (ByteArray.empty_append).symm
end Go.Proofs.YtfmpjlpakldheaaGreatDoor
namespace Go.Proofs.YtfmpjlpakldheaaGreatDoor
open Go.RowKit Go.Proofs.Sha

abbrev nodeV (k v l r : ByteArray) : Value := .agg #[.string k, .string v, .string l, .string r]
end Go.Proofs.YtfmpjlpakldheaaGreatDoor
namespace Go.Proofs.YtfmpjlpakldheaaGreatDoor
open Go.RowKit Go.Proofs.Sha

/-- What EncodeNode answers. -/
def encS (k v l r : ByteArray) (n : Int) : ByteArray := if nodeOk k.size v.size l.size r.size n = true then T (encL k.data.toList v.data.toList l.data.toList r.data.toList) else ⟨#[]⟩
theorem enc_any (k v l r : ByteArray) (n : Int) (w : World) (hk : k.size ≤ 1048576) (hv : v.size ≤ 1048576) (hl : l.size ≤ 1048576) (hr : r.size ≤ 1048576) :
    Calls Tryz.prog 98 #[nodeV k v l r, .int .i64 n] w fun e w' => ∃ t, e = .returned (.string t) ∧ Hid (t = encS k v l r n) ∧ Below w.heap.size w w' := by
  by_cases h : nodeOk k.size v.size l.size r.size n = true
  · exact (enc_yes k v l r n w hk hv hl hr h).mono fun e w' ⟨he, hb⟩ => ⟨_, he, by show _ = encS k v l r n; rw [encS, if_pos h], hb⟩
  · exact (enc_no k v l r n w hk hv hl hr (by simpa using h)).mono fun e w' ⟨he, hb⟩ => ⟨_, he, by show _ = encS k v l r n; rw [encS, if_neg h], hb⟩
theorem str_ne {t s : ByteArray} (h : ¬ t = s) : (t.toList == s.toList) = false := by
  rw [ByteArray.toList_eq, ByteArray.toList_eq, beq_eq_false_iff_ne]
  intro e
  exact h ((T_of t).symm.trans ((congrArg T e).trans (T_of s)))
end Go.Proofs.YtfmpjlpakldheaaGreatDoor
namespace Go.Proofs.YtfmpjlpakldheaaGreatDoor
open Go.RowKit Go.Proofs.Sha

/-- A number in four bytes, the lowest first. -/
def four (n : Nat) : List UInt8 := [UInt8.ofNat (n % 256), UInt8.ofNat (n / 256 % 256), UInt8.ofNat (n / 65536 % 256), UInt8.ofNat (n / 16777216 % 256)]

set_option maxRecDepth 100000 in
set_option maxHeartbeats 400000 in
theorem four_any (n : Nat) (hn : n ≤ 1048576) (w : World) :
    Calls Tryz.prog 163 #[.int .i64 (n : Int)] w fun e w' => ∃ t : ByteArray, e = .returned (.string t) ∧ t.size ≤ 4 ∧ Hid (t = T (four n)) ∧ Below w.heap.size w w' := by
  go_enter Tryz.func163, Tryz.ntmps163
  go_wp2_with fail
  refine (byte_i _ (by omega) (by omega) _).mono ?_
  rintro e w1 ⟨t1, rfl, hz1, HT1, hb1⟩
  go_wp2_with fail
  refine (byte_i _ (by omega) (by omega) _).mono ?_
  rintro e w2 ⟨t2, rfl, hz2, HT2, hb2⟩
  go_wp2_with fail
  refine (byte_i _ (by omega) (by omega) _).mono ?_
  rintro e w3 ⟨t3, rfl, hz3, HT3, hb3⟩
  go_wp2_with fail
  refine (byte_i _ (by omega) (by omega) _).mono ?_
  rintro e w4 ⟨t4, rfl, hz4, HT4, hb4⟩
  have hf : ¬ (9223372036854775807 < t1.size + t2.size + t3.size + t4.size) := by omega
  go_wp2
  go_ret
  refine ⟨t1 ++ t2 ++ t3 ++ t4, rfl, by simp only [ByteArray.size_append]; omega, ?_, ((hb1.trans (hb2.mono hb1.size)).trans (hb3.mono (Nat.le_trans hb1.size hb2.size))).trans (hb4.mono (Nat.le_trans (Nat.le_trans hb1.size hb2.size) hb3.size))⟩
  show t1 ++ t2 ++ t3 ++ t4 = T (four n)
  rw [HT1.out, HT2.out, HT3.out, HT4.out, byteS_T, byteS_T, byteS_T, byteS_T, T_append, T_append, T_append]
  have e1 : ((n : Int) % 256).toNat = n % 256 := by omega
  have e2 : ((n : Int) / 256 % 256).toNat = n / 256 % 256 := by omega
  have e3 : ((n : Int) / 65536 % 256).toNat = n / 65536 % 256 := by omega
  have e4 : ((n : Int) / 16777216 % 256).toNat = n / 16777216 % 256 := by omega
  rw [e1, e2, e3, e4]; rfl

def reps (n : Nat) (c : UInt8) : ByteArray := T (List.replicate n c)
theorem reps_size (n : Nat) (c : UInt8) : (reps n c).size = n := by unfold reps; rw [T_size, List.length_replicate]
theorem reps_add (n m : Nat) (c : UInt8) : reps n c ++ reps m c = reps (n + m) c := by unfold reps; rw [T_append, List.replicate_append_replicate]

set_option maxRecDepth 100000 in
set_option maxHeartbeats 400000 in
theorem long_any (c : UInt8) (n : Nat) : ∀ (_hn : n ≤ 1048576) (w : World),
    Calls Tryz.prog 89 #[.int .i64 (n : Int), .string ⟨#[c]⟩] w fun e w' => ∃ t : ByteArray, e = .returned (.string t) ∧ t.size = n ∧ Hid (t = reps n c) ∧ Below w.heap.size w w' := by
  induction n using Nat.strongRecOn with
  | ind n ih =>
  intro hn w
  have hU : Hid ((⟨#[c]⟩ : ByteArray) = reps 1 c ∧ (⟨#[c]⟩ : ByteArray).size = 1) := ⟨rfl, rfl⟩
  by_cases h0 : 0 < n
  · have z0 : decide ((0 : Int) < (n : Int)) = true := by simp; omega
    have hu : (⟨#[c]⟩ : ByteArray).size = 1 := rfl
    obtain ⟨u, hu'⟩ : ∃ u : ByteArray, ⟨#[c]⟩ = u := ⟨_, rfl⟩
    rw [hu'] at hU hu ih ⊢
    clear hu'
    go_enter Tryz.func89, Tryz.ntmps89
    go_wp2_with fail
    go_loopw [5] (fun t wr => ∃ (m : Nat) (x : ByteArray), 1 ≤ m ∧ m ≤ n ∧ t = .string x ∧ x.size = m ∧ Hid (x = reps m c) ∧ wr = w) (fun t _ => n - (match t with | .string x => x.size | _ => 0))
    case atStart => exact ⟨1, u, by omega, by omega, rfl, hu, hU.out.1, rfl⟩
    case round =>
      obtain ⟨m, x, hm1, hm2, rfl, hx, HX, rfl⟩ := hrel
      by_cases h1 : 2 * m ≤ n
      · have z1 : decide ((x.size : Int) * 2 ≤ (n : Int)) = true := by simp; omega
        go_wp2_with fail
        refine ⟨⟨m + m, x ++ x, by omega, by omega, rfl, by rw [ByteArray.size_append, hx], ?_, trivial⟩, ?_⟩
        · show x ++ x = _
          rw [HX.out, reps_add]
        · show n - (x ++ x).size < n - x.size
          rw [ByteArray.size_append, hx]; omega
      · have z1 : decide ((x.size : Int) * 2 ≤ (n : Int)) = false := by simp; omega
        by_cases h2 : m < n
        · have z2 : decide ((x.size : Int) < (n : Int)) = true := by simp; omega
          have z3 : IntKind.i64.wrap ((n : Int) - (m : Int)) = ((n - m : Nat) : Int) := by rw [wrap_i64_in _ (by omega) (by omega)]; omega
          go_wp2_with fail
          refine (ih (n - m) (by omega) (by omega) _).mono ?_
          rintro e w1 ⟨t, rfl, ht, HT, hb⟩
          have z4 : ¬ (9223372036854775807 < x.size + t.size) := by omega
          go_wp2
          go_ret
          refine ⟨x ++ t, rfl, by rw [ByteArray.size_append]; omega, ?_, hb⟩
          show x ++ t = _
          rw [HX.out, HT.out, reps_add]
          congr 1
          omega
        · have z2 : decide ((x.size : Int) < (n : Int)) = false := by simp; omega
          go_wp2
          go_ret
          exact ⟨x, rfl, by omega, by show x = _; rw [HX.out]; congr 1; omega, Below.refl _ _⟩
  · have hn0 : n = 0 := by omega
    subst hn0
    clear ih
    go_enter Tryz.func89, Tryz.ntmps89
    go_wp2_with fail
    go_loopw [5] (fun t wr => t = .string ⟨#[]⟩ ∧ wr = w) (fun _ _ => 0)
    case atStart => exact ⟨rfl, rfl⟩
    case round =>
      obtain ⟨rfl, rfl⟩ := hrel
      go_wp2
      go_ret
      exact ⟨⟨#[]⟩, rfl, rfl, rfl, Below.refl _ _⟩
end Go.Proofs.YtfmpjlpakldheaaGreatDoor
namespace Go.Proofs.YtfmpjlpakldheaaGreatDoor
open Go.RowKit Go.Proofs.Sha

/-- 63 bytes from a place on, zeros behind the end. -/
def part63 (s : List UInt8) (a : Nat) : List UInt8 := (s.drop a).take 63 ++ List.replicate (63 - (s.length - a)) 0
theorem part63_length (s : List UInt8) (a : Nat) : (part63 s a).length = 63 := by
  unfold part63; rw [List.length_append, List.length_take, List.length_drop, List.length_replicate]; omega
/-- The first q sectors. -/
def markedTo (s f m : List UInt8) : Nat → List UInt8
  | 0 => []
  | q + 1 => markedTo s f m q ++ part63 s (63 * q) ++ (if q = 0 then f else m)
theorem markedTo_length (s f m : List UInt8) (hf : f.length ≤ 1) (hm : m.length ≤ 1) (q : Nat) : (markedTo s f m q).length ≤ 64 * q := by
  induction q with
  | zero => exact Nat.le_refl _
  | succ q ih =>
    rw [markedTo, List.length_append, List.length_append, part63_length]
    split <;> omega
def marked (s f m : List UInt8) : List UInt8 := markedTo s f m ((s.length + 62) / 63)

theorem full_part (s : ByteArray) (a : Nat) (h : a + 63 ≤ s.size) : s.extract a (a + 63) = T (part63 s.data.toList a) := by
  conv => lhs; rw [← T_of s, T_extract]
  have e : 63 - (s.data.toList.length - a) = 0 := by show 63 - (s.size - a) = 0; omega
  unfold part63
  rw [e, List.replicate_zero, List.append_nil, Nat.add_sub_cancel_left]
theorem last_part (s : ByteArray) (a n : Nat) (h : s.size < a + 63) (ha : a ≤ s.size) (hn : n = a + 63 - s.size) : s.extract a s.size ++ reps n 0 = T (part63 s.data.toList a) := by
  conv => lhs; rw [← T_of s, T_extract]
  unfold part63 reps
  rw [T_append]
  have e : 63 - (s.data.toList.length - a) = n := by show 63 - (s.size - a) = n; omega
  rw [e, List.take_of_length_le (by rw [List.length_drop, T_size]; exact Nat.le_refl _), List.take_of_length_le (by rw [List.length_drop]; show s.size - a ≤ 63; omega)]

theorem next_sector {s f m x p y : ByteArray} {q a : Nat} (ha : 63 * q = a) (hx : x = T (markedTo s.data.toList f.data.toList m.data.toList q)) (hp : p = T (part63 s.data.toList a)) (hy : y = if q = 0 then f else m) :
    x ++ p ++ y = T (markedTo s.data.toList f.data.toList m.data.toList (q + 1)) := by
  rw [hx, hp, markedTo, ← T_append, ← T_append, ha, hy]
  congr 1
  split
  · exact (T_of f).symm
  · exact (T_of m).symm

set_option maxRecDepth 100000 in
set_option maxHeartbeats 1000000 in
theorem marked_any (s f m : ByteArray) (w : World) (hs : s.size ≤ 1000000) (hf : f.size ≤ 1) (hm : m.size ≤ 1) :
    Calls Tryz.prog 162 #[.string s, .string f, .string m] w fun e w' => ∃ t : ByteArray, e = .returned (.string t) ∧ Hid (t = T (marked s.data.toList f.data.toList m.data.toList)) ∧ Below w.heap.size w w' := by
  have HL := markedTo_length s.data.toList f.data.toList m.data.toList hf hm
  go_enter Tryz.func162, Tryz.ntmps162
  go_wp2_with fail
  go_loopw [7, 8] (fun t7 t8 wr => ∃ (q : Nat) (x : ByteArray), q ≤ (s.size + 62) / 63 ∧ t7 = .string x ∧ t8 = .int .i64 ((63 * q : Nat) : Int) ∧ x.size ≤ 64 * q ∧ Hid (x = T (markedTo s.data.toList f.data.toList m.data.toList q)) ∧ Below w.heap.size w wr) (fun _ t8 _ => s.size + 63 - (intOf t8).toNat)
  case atStart => exact ⟨0, ⟨#[]⟩, by omega, rfl, rfl, Nat.le_refl _, rfl, Below.refl _ _⟩
  case round =>
    obtain ⟨q, x, hq, rfl, rfl, hx, HX, hb⟩ := hrel
    obtain ⟨a, ha⟩ : ∃ a, 63 * q = a := ⟨_, rfl⟩
    rw [ha]
    by_cases h1 : a < s.size
    · have z1 : decide ((a : Int) < (s.size : Int)) = true := by simp; omega
      have z2 : IntKind.i64.wrap ((a : Int) + 63) = (a : Int) + 63 := wrap_i64_in _ (by omega) (by omega)
      have z3 : (0 : Int) ≤ (a : Int) := by omega
      have z4 : (a : Int) ≤ (s.size : Int) := by omega
      by_cases h2 : a + 63 ≤ s.size
      · have y1 : decide ((a : Int) + 63 ≤ (s.size : Int)) = true := by simp; omega
        have y2 : (a : Int) ≤ (a : Int) + 63 := by omega
        have y3 : (a : Int) + 63 ≤ (s.size : Int) := by omega
        by_cases h3 : q = 0
        · have x1 : ((a : Int) == 0) = true := by rw [beq_iff_eq]; omega
          go_wp2_with fail
          have HE := next_sector (y := f) ha HX.out (full_part s a h2) (by rw [if_pos h3])
          refine ⟨⟨q + 1, _, by omega, rfl, congrArg (Value.int .i64) (by omega), ?_, HE, hb⟩, ?_⟩
          · rw [HE]; exact HL (q + 1)
          · show s.size + 63 - ((a : Int) + 63).toNat < s.size + 63 - ((a : Int)).toNat
            omega
        · have x1 : ((a : Int) == 0) = false := by rw [beq_eq_false_iff_ne]; omega
          go_wp2_with fail
          have HE := next_sector (y := m) ha HX.out (full_part s a h2) (by rw [if_neg h3])
          refine ⟨⟨q + 1, _, by omega, rfl, congrArg (Value.int .i64) (by omega), ?_, HE, hb⟩, ?_⟩
          · rw [HE]; exact HL (q + 1)
          · show s.size + 63 - ((a : Int) + 63).toNat < s.size + 63 - ((a : Int)).toNat
            omega
      · have y1 : decide ((a : Int) + 63 ≤ (s.size : Int)) = false := by simp; omega
        have y2 : IntKind.i64.wrap ((a : Int) + 63 - (s.size : Int)) = ((a + 63 - s.size : Nat) : Int) := by rw [wrap_i64_in _ (by omega) (by omega)]; omega
        go_wp2_with fail
        go_region_held3 (fun _ => True) (exact trivial)
          (first | (go_at_call 89; refine (long_any 0 (a + 63 - s.size) (by omega) _).mono ?_; rintro e wA ⟨t, rfl, zt, HT, hbA⟩; have fB : ¬ (9223372036854775807 < s.size - a + t.size) := (by omega); clear zt))
        have hP : s.extract a s.size ++ t = T (part63 s.data.toList a) := by rw [HT.out]; exact last_part s a _ (by omega) (by omega) rfl
        have hz : (s.extract a s.size ++ t).size = 63 := by rw [hP, T_size, part63_length]
        generalize s.extract a s.size ++ t = p at hP hz ⊢
        have HP : Hid (p = T (part63 s.data.toList a)) := hP
        have hz' : p.size ≤ 63 := by omega
        have hbB : Below w.heap.size w wA := hb.drew.trans (hbA.mono hb.size)
        clear hP hz hbA HT
        have v1 : ¬ (9223372036854775807 < x.size + p.size) := by omega
        have v2 : ¬ (9223372036854775807 < x.size + p.size + f.size) := by omega
        have v3 : ¬ (9223372036854775807 < x.size + p.size + m.size) := by omega
        by_cases h3 : q = 0
        · have x1 : ((a : Int) == 0) = true := by rw [beq_iff_eq]; omega
          go_wp2_with fail
          have HE := next_sector (y := f) ha HX.out HP.out (by rw [if_pos h3])
          refine ⟨⟨q + 1, _, by omega, rfl, congrArg (Value.int .i64) (by omega), ?_, HE, hbB⟩, ?_⟩
          · rw [HE]; exact HL (q + 1)
          · show s.size + 63 - ((a : Int) + 63).toNat < s.size + 63 - ((a : Int)).toNat
            omega
        · have x1 : ((a : Int) == 0) = false := by rw [beq_eq_false_iff_ne]; omega
          go_wp2_with fail
          have HE := next_sector (y := m) ha HX.out HP.out (by rw [if_neg h3])
          refine ⟨⟨q + 1, _, by omega, rfl, congrArg (Value.int .i64) (by omega), ?_, HE, hbB⟩, ?_⟩
          · rw [HE]; exact HL (q + 1)
          · show s.size + 63 - ((a : Int) + 63).toNat < s.size + 63 - ((a : Int)).toNat
            omega
    · have z1 : decide ((a : Int) < (s.size : Int)) = false := by simp; omega
      go_wp2
      go_ret
      refine ⟨x, rfl, ?_, hb⟩
      show x = _
      rw [HX.out, marked]
      congr 2
      show q = (s.size + 62) / 63
      omega
end Go.Proofs.YtfmpjlpakldheaaGreatDoor
