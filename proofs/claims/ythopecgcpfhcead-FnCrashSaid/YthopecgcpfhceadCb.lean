import Derived.Test.YthopecgcpfhceadCa
import Derived.Test.YthopecgcpfhceadEi
import Derived.Test.YthopecgcpfhceadDa
namespace Go.Proofs.Ythopecgcpfhcead
open Go.RowKit Go.Proofs.Sha

theorem marked_len1 (s : List UInt8) (c d : UInt8) (q : Nat) : (markedTo s [c] [d] q).length = 64 * q := by
  induction q with
  | zero => rfl
  | succ q ih =>
    rw [markedTo, List.length_append, List.length_append, ih, part63_length]
    split <;> (simp only [List.length_cons, List.length_nil]; omega)
theorem nodeRec_le (enc : ByteArray) (h : enc.size ≤ 2400) : (nodeRec enc).size ≤ 2560 := by
  unfold nodeRec
  split
  · rw [T_size]
    unfold marked
    rw [marked_len1]
    have : (four enc.size ++ enc.data.toList).length = 4 + enc.size := by rw [List.length_append]; rfl
    omega
  · exact Nat.zero_le _
theorem commitRec_le (v : Int) (root : ByteArray) : (commitRec v root).size ≤ 64 := by
  unfold commitRec
  split
  · rename_i h
    rw [T_size]
    have hl : (four v.toNat ++ [UInt8.ofNat root.size] ++ root.data.toList).length = 5 + root.size := by rw [List.length_append, List.length_append]; rfl
    unfold marked
    rw [show ((four v.toNat ++ [UInt8.ofNat root.size] ++ root.data.toList).length + 62) / 63 = 1 by omega, markedTo, markedTo, List.nil_append, if_pos rfl, List.length_append, part63_length]
    exact Nat.le_refl _
  · exact Nat.zero_le _
theorem long_d (c : UInt8) (m : Int) (n : Nat) (hm : m = (n : Int)) (h1 : n ≤ 1048576) (w : World) :
    Calls Try.prog 74 #[.int .i64 m, .string ⟨#[c]⟩] w fun e w' => e = .returned (.string (reps n c)) ∧ Below w.heap.size w w' := by
  subst hm
  exact (long_any c n h1 w).mono (by rintro e w' ⟨t, rfl, hz, HT, hb⟩; exact ⟨by rw [HT.out], hb⟩)
theorem byte_d (m : Int) (n : Nat) (hm : m = (n : Int)) (h1 : n ≤ 1048576) (w : World) :
    Calls Try.prog 46 #[.int .i64 m] w fun e w' => e = .returned (.string (byteS n)) ∧ Below w.heap.size w w' := by
  subst hm
  exact byte_any n h1 w
theorem commit_d (v : Int) (root : ByteArray) (hs : root.size ≤ 1048576) (w : World) :
    Calls Try.prog 63 #[.int .i64 v, .string root] w fun e w' => e = .returned (.string (commitRec v root)) ∧ Below w.heap.size w w' :=
  (commitRec_any v root w hs).mono (by rintro e w' ⟨t, rfl, HT, hb⟩; exact ⟨by rw [HT.out], hb⟩)

set_option maxRecDepth 100000 in
set_option maxHeartbeats 1000000 in
theorem key_det (a : Option Addr) (xs : List Nat) (cap : Nat) (p : Nat) (hX : Code8 xs) (hp : p ≤ 100000) :
    ∃ t : ByteArray, t.size ≤ 70 ∧ ∀ w, BL a xs w → Calls Try.prog 72 #[.slice a xs.length cap, .int .i64 (p : Int)] w fun e w' => e = .returned (.tuple #[.string t, .int .i64 ((p + 1 : Nat) : Int)]) ∧ Below w.heap.size w w' := by
  obtain ⟨x, hx, HT⟩ := take_det a xs cap p 24 hX hp (by omega) (by omega)
  replace HT : Hid _ := HT
  by_cases h1 : x < 20
  · have z1 : decide ((x : Int) < 20) = true := by simp; omega
    have y1 : IntKind.i64.wrap ((x : Int) + 1) = (x : Int) + 1 := wrap_i64_in _ (by omega) (by omega)
    have y2 : (x : Int) ≤ (x : Int) + 1 := by omega
    have y3 : (x : Int) + 1 ≤ 20 := by omega
    refine ⟨(⟨#[97, 98, 99, 100, 101, 102, 103, 104, 105, 106, 107, 108, 109, 110, 111, 112, 113, 114, 115, 116]⟩ : ByteArray).extract x (x + 1), by rw [ByteArray.size_extract]; omega, fun w h => ?_⟩
    go_enter Try.func72, Try.ntmps72
    go_wp2_with fail
    refine (HT.out w h).mono ?_
    rintro e w1 ⟨rfl, hb⟩
    go_wp2_with fail
    go_ret2
    exact ⟨rfl, hb⟩
  have z1 : decide ((x : Int) < 20) = false := by simp; omega
  by_cases h2 : x = 20
  · subst h2
    refine ⟨⟨#[97, 98]⟩, by decide, fun w h => ?_⟩
    go_enter Try.func72, Try.ntmps72
    go_wp2_with fail
    refine (HT.out w h).mono ?_
    rintro e w1 ⟨rfl, hb⟩
    go_wp2_with fail
    go_ret2
    exact ⟨rfl, hb⟩
  have z2 : ((x : Int) == 20) = false := by rw [beq_eq_false_iff_ne]; omega
  by_cases h3 : x = 21
  · subst h3
    refine ⟨⟨#[98, 0]⟩, by decide, fun w h => ?_⟩
    go_enter Try.func72, Try.ntmps72
    go_wp2_with fail
    refine (HT.out w h).mono ?_
    rintro e w1 ⟨rfl, hb⟩
    go_wp2_with fail
    go_ret2
    exact ⟨rfl, hb⟩
  have z3 : ((x : Int) == 21) = false := by rw [beq_eq_false_iff_ne]; omega
  by_cases h4 : x = 22
  · subst h4
    refine ⟨⟨#[255, 0, 107]⟩, by decide, fun w h => ?_⟩
    go_enter Try.func72, Try.ntmps72
    go_wp2_with fail
    refine (HT.out w h).mono ?_
    rintro e w1 ⟨rfl, hb⟩
    go_wp2_with fail
    go_ret2
    exact ⟨rfl, hb⟩
  have z4 : ((x : Int) == 22) = false := by rw [beq_eq_false_iff_ne]; omega
  refine ⟨reps 70 107, by rw [reps_size]; omega, fun w h => ?_⟩
  go_enter Try.func72, Try.ntmps72
  go_wp2_with fail
  refine (HT.out w h).mono ?_
  rintro e w1 ⟨rfl, hb⟩
  go_wp2_with fail
  refine (long_d _ 70 70 rfl (by omega) _).mono ?_
  rintro e w2 ⟨rfl, hb2⟩
  go_wp2_with fail
  go_ret2
  exact ⟨rfl, hb.trans (hb2.mono hb.size)⟩

set_option maxRecDepth 100000 in
set_option maxHeartbeats 1000000 in
theorem hash_det (a : Option Addr) (xs : List Nat) (cap : Nat) (p k : Nat) (hX : Code8 xs) (hp : p ≤ 90000) (h1 : 1 ≤ k) (h2 : k ≤ 32) :
    ∃ t : ByteArray, t.size ≤ 32 ∧ ∀ w, BL a xs w → Calls Try.prog 62 #[.slice a xs.length cap, .int .i64 (p : Int), .int .i64 (k : Int)] w fun e w' => e = .returned (.tuple #[.string t, .int .i64 ((p + 1 : Nat) : Int)]) ∧ Below w.heap.size w w' := by
  obtain ⟨x, hx, HT⟩ := take_det a xs cap p 64 hX (by omega) (by omega) (by omega)
  replace HT : Hid _ := HT
  by_cases g1 : x < 20
  · have z1 : decide ((x : Int) < 20) = true := by simp; omega
    refine ⟨⟨#[]⟩, by decide, fun w h => ?_⟩
    go_enter Try.func62, Try.ntmps62
    go_wp2_with fail
    refine (HT.out w h).mono ?_
    rintro e w1 ⟨rfl, hb⟩
    go_wp2_with fail
    go_ret2
    exact ⟨rfl, hb⟩
  have z1 : decide ((x : Int) < 20) = false := by simp; omega
  have HD : Hid (∀ w, Calls Try.prog 60 #[.string (byteS x), .int .i64 (k : Int)] w fun e w' => e = .returned (.string ⟨((sha (byteS x).data.toList).take k).toArray⟩) ∧ Below w.heap.size w w') := fun w => sdig_yes (byteS x) k w (show 1 ≤ 1048576 by omega) h1 h2
  obtain ⟨t, ht⟩ : ∃ t : ByteArray, (⟨((sha (byteS x).data.toList).take k).toArray⟩ : ByteArray) = t := ⟨_, rfl⟩
  rw [ht] at HD
  refine ⟨t, by rw [← ht]; show ((sha (byteS x).data.toList).take k).length ≤ 32; rw [List.length_take]; omega, fun w h => ?_⟩
  clear ht
  go_enter Try.func62, Try.ntmps62
  go_wp2_with fail
  refine (HT.out w h).mono ?_
  rintro e w1 ⟨rfl, hb⟩
  go_wp2_with fail
  refine (byte_d _ x rfl (by omega) _).mono ?_
  rintro e w3 ⟨rfl, hb3⟩
  have hB3 := hb.trans (hb3.mono hb.size)
  go_wp2_with fail
  refine (HD.out _).mono ?_
  rintro e w4 ⟨rfl, hb4⟩
  have hB4 := hB3.trans (hb4.mono hB3.size)
  go_wp2_with fail
  go_ret2
  exact ⟨rfl, hB4⟩

set_option maxRecDepth 100000 in
set_option maxHeartbeats 1000000 in
theorem val_det (a : Option Addr) (xs : List Nat) (cap : Nat) (p : Nat) (hX : Code8 xs) (hp : p ≤ 90000) :
    ∃ t : ByteArray, t.size ≤ 300 ∧ ∀ w, BL a xs w → Calls Try.prog 73 #[.slice a xs.length cap, .int .i64 (p : Int)] w fun e w' => e = .returned (.tuple #[.string t, .int .i64 ((p + 2 : Nat) : Int)]) ∧ Below w.heap.size w w' := by
  obtain ⟨x, hx, HT⟩ := take_det a xs cap p 16 hX (by omega) (by omega) (by omega)
  obtain ⟨y, hy, HT2⟩ := take_det a xs cap (p + 1) 120 hX (by omega) (by omega) (by omega)
  replace HT : Hid _ := HT
  replace HT2 : Hid _ := HT2
  obtain ⟨p1, hp1⟩ : ∃ p1, p + 1 = p1 := ⟨_, rfl⟩
  obtain ⟨p2, hp2⟩ : ∃ p2, p + 2 = p2 := ⟨_, rfl⟩
  rw [show p + 1 + 1 = p2 by omega] at HT2
  rw [hp1] at HT HT2
  rw [hp2]
  clear hp1 hp2
  by_cases h1 : x < 2
  · have z1 : decide ((x : Int) < 2) = true := by simp; omega
    refine ⟨⟨#[]⟩, by decide, fun w h => ?_⟩
    go_enter Try.func73, Try.ntmps73
    go_wp2_with fail
    refine (HT.out w h).mono ?_
    rintro e w1 ⟨rfl, hb1⟩
    go_wp2_with fail
    refine (HT2.out _ (h.below hb1)).mono ?_
    rintro e w2 ⟨rfl, hb2⟩
    have hb : Below w.heap.size w w2 := hb1.trans (hb2.mono hb1.size)
    go_wp2_with fail
    go_ret2
    exact ⟨rfl, hb⟩
  have z1 : decide ((x : Int) < 2) = false := by simp; omega
  by_cases h2 : x = 14
  · subst h2
    refine ⟨reps (y * 2) 118, by rw [reps_size]; omega, fun w h => ?_⟩
    go_enter Try.func73, Try.ntmps73
    go_wp2_with fail
    refine (HT.out w h).mono ?_
    rintro e w1 ⟨rfl, hb1⟩
    go_wp2_with fail
    refine (HT2.out _ (h.below hb1)).mono ?_
    rintro e w2 ⟨rfl, hb2⟩
    have hb : Below w.heap.size w w2 := hb1.trans (hb2.mono hb1.size)
    go_wp2_with fail
    refine (long_d _ _ (y * 2) (by omega) (by omega) _).mono ?_
    rintro e w3 ⟨rfl, hb3⟩
    go_wp2_with fail
    go_ret2
    exact ⟨rfl, hb.trans (hb3.mono hb.size)⟩
  have z2 : ((x : Int) == 14) = false := by rw [beq_eq_false_iff_ne]; omega
  by_cases h3 : x = 15
  · subst h3
    obtain ⟨t3, ht3⟩ : ∃ t, reps (y % 63) 0 = t := ⟨_, rfl⟩
    obtain ⟨t4, ht4⟩ : ∃ t, commitRec ((y % 4 + 1 : Nat) : Int) ⟨#[]⟩ = t := ⟨_, rfl⟩
    obtain ⟨t6, ht6⟩ : ∃ t, commitRec ((y % 3 + 1 : Nat) : Int) (reps 1 114) = t := ⟨_, rfl⟩
    have k3 : t3.size ≤ 63 := by rw [← ht3, reps_size]; omega
    have k4 : t4.size ≤ 64 := by rw [← ht4]; exact commitRec_le _ _
    have k6 : t6.size ≤ 64 := by rw [← ht6]; exact commitRec_le _ _
    have f1 : ¬ (9223372036854775807 < t3.size + t4.size) := by omega
    have f2 : ¬ (9223372036854775807 < t3.size + t4.size + t6.size) := by omega
    have H3 : Hid (∀ w m, m = ((y % 63 : Nat) : Int) → Calls Try.prog 74 #[.int .i64 m, .string ⟨#[0]⟩] w fun e w' => e = .returned (.string t3) ∧ Below w.heap.size w w') := fun w m hm => by rw [← ht3]; exact long_d 0 m (y % 63) hm (by omega) w
    have H4 : Hid (∀ w m, m = ((y % 4 + 1 : Nat) : Int) → Calls Try.prog 63 #[.int .i64 m, .string ⟨#[]⟩] w fun e w' => e = .returned (.string t4) ∧ Below w.heap.size w w') := fun w m hm => by rw [← ht4, hm]; exact commit_d _ _ (by decide) w
    have H6 : Hid (∀ w m, m = ((y % 3 + 1 : Nat) : Int) → Calls Try.prog 63 #[.int .i64 m, .string (reps 1 114)] w fun e w' => e = .returned (.string t6) ∧ Below w.heap.size w w') := fun w m hm => by rw [← ht6, hm]; exact commit_d _ _ (by rw [reps_size]; omega) w
    clear ht3 ht4 ht6
    refine ⟨t3 ++ t4 ++ t6, by rw [ByteArray.size_append, ByteArray.size_append]; omega, fun w h => ?_⟩
    go_enter Try.func73, Try.ntmps73
    go_wp2_with fail
    refine (HT.out w h).mono ?_
    rintro e w1 ⟨rfl, hb1⟩
    go_wp2_with fail
    refine (HT2.out _ (h.below hb1)).mono ?_
    rintro e w2 ⟨rfl, hb2⟩
    have hb : Below w.heap.size w w2 := hb1.trans (hb2.mono hb1.size)
    go_wp2_with fail
    refine (H3.out _ _ (by omega)).mono ?_
    rintro e w3 ⟨rfl, hb3⟩
    have hB3 := hb.trans (hb3.mono hb.size)
    go_wp2_with fail
    refine (H4.out _ _ (by omega)).mono ?_
    rintro e w4 ⟨rfl, hb4⟩
    have hB4 := hB3.trans (hb4.mono hB3.size)
    go_wp2_with fail
    refine (long_d _ _ 1 (by omega) (by omega) _).mono ?_
    rintro e w5 ⟨rfl, hb5⟩
    have hB5 := hB4.trans (hb5.mono hB4.size)
    go_wp2_with fail
    refine (H6.out _ _ (by omega)).mono ?_
    rintro e w6 ⟨rfl, hb6⟩
    have hB6 := hB5.trans (hb6.mono hB5.size)
    clear hb hb3 hb4 hb5 hb6 hB3 hB4 hB5
    go_wp2_with fail
    go_ret2
    exact ⟨rfl, hB6⟩
  have z3 : ((x : Int) == 15) = false := by rw [beq_eq_false_iff_ne]; omega
  refine ⟨⟨#[118]⟩ ++ byteS (48 + y % 10) ++ byteS (48 + y / 10), by rw [ByteArray.size_append, ByteArray.size_append]; show 1 + 1 + 1 ≤ 300; omega, fun w h => ?_⟩
  obtain ⟨t3, ht3⟩ : ∃ t, byteS (48 + y % 10) = t := ⟨_, rfl⟩
  obtain ⟨t4, ht4⟩ : ∃ t, byteS (48 + y / 10) = t := ⟨_, rfl⟩
  have k3 : t3.size = 1 := by rw [← ht3]; rfl
  have k4 : t4.size = 1 := by rw [← ht4]; rfl
  have H3 : Hid (∀ w m, m = ((48 + y % 10 : Nat) : Int) → Calls Try.prog 46 #[.int .i64 m] w fun e w' => e = .returned (.string t3) ∧ Below w.heap.size w w') := fun w m hm => by rw [← ht3]; exact byte_d m _ hm (by omega) w
  have H4 : Hid (∀ w m, m = ((48 + y / 10 : Nat) : Int) → Calls Try.prog 46 #[.int .i64 m] w fun e w' => e = .returned (.string t4) ∧ Below w.heap.size w w') := fun w m hm => by rw [← ht4]; exact byte_d m _ hm (by omega) w
  rw [ht3, ht4]
  clear ht3 ht4
  have f1 : ¬ (9223372036854775807 < 1 + t3.size) := by omega
  have f2 : ¬ (9223372036854775807 < 1 + t3.size + t4.size) := by omega
  go_enter Try.func73, Try.ntmps73
  go_wp2_with fail
  refine (HT.out w h).mono ?_
  rintro e w1 ⟨rfl, hb1⟩
  go_wp2_with fail
  refine (HT2.out _ (h.below hb1)).mono ?_
  rintro e w2 ⟨rfl, hb2⟩
  have hb : Below w.heap.size w w2 := hb1.trans (hb2.mono hb1.size)
  go_wp2_with fail
  refine (H3.out _ _ (by omega)).mono ?_
  rintro e w3 ⟨rfl, hb3⟩
  have hB3 := hb.trans (hb3.mono hb.size)
  go_wp2_with fail
  refine (H4.out _ _ (by omega)).mono ?_
  rintro e w4 ⟨rfl, hb4⟩
  have hB4 := hB3.trans (hb4.mono hB3.size)
  go_wp2_with fail
  go_ret2
  exact ⟨rfl, hB4⟩
end Go.Proofs.Ythopecgcpfhcead
