import Derived.Test.YtglpjoandgbngaaPf
namespace Go.Proofs.Ytglpjoandgbngaa
open Go.RowKit Go.Proofs.Sha

theorem four_numTo (n : Nat) : numTo 4 true n 4 = four n := by
  have e : ∀ x : Nat, UInt8.ofNat (x % 256) = UInt8.ofNat x := fun x => by apply UInt8.toNat.inj; simp
  simp only [numTo, numByte, four, e, List.nil_append, List.cons_append, if_true]
  simp
theorem pad63_size (s : List UInt8) : (pad63 s).length = 63 * ((s.length + 62) / 63) := by
  rw [pad63_length]; unfold gap; omega
theorem pad63_part (s : List UInt8) (q : Nat) (hq : q < (s.length + 62) / 63) : ((pad63 s).drop (63 * q)).take 63 = part63 s (63 * q) := by
  unfold pad63 part63
  rw [List.drop_append_of_le_length (by omega), List.take_append, List.length_drop, List.take_replicate]
  congr 2
  unfold gap; omega
theorem pad63_one (s : List UInt8) (h0 : 0 < s.length) (h : s.length ≤ 63) : pad63 s = part63 s 0 := by
  have := pad63_part s 0 (by omega)
  rw [← this, Nat.mul_zero, List.drop_zero, List.take_of_length_le (by rw [pad63_size]; omega)]
theorem marked_one (s f m : List UInt8) (h0 : 0 < s.length) (h : s.length ≤ 63) : marked s f m = pad63 s ++ f := by
  have e : (s.length + 62) / 63 = 1 := by omega
  rw [marked, e, markedTo, markedTo, pad63_one s h0 h]
  rfl
theorem extract_list (t : ByteArray) (a : Nat) : (t.extract a (a + 63)).data.toList = (t.data.toList.drop a).take 63 := by
  conv => lhs; rw [← T_of t, T_extract]
  rw [T_data, Nat.add_sub_cancel_left]
theorem wsec (c : UInt8) (b : Nat) (s : ByteArray) (p : List UInt8) (l : List UInt8) (w : World) (h : Bld b l w) (hl : l.length ≤ 70000) (hs : s.size ≤ 63) (hp : s.data.toList = p) :
    Calls Try.prog 36 #[.pointer (some ⟨b, 0, none⟩), .iface 67 (.agg #[.int .i64 (c.toNat : Int)]), .string s] w fun e w' => e = .returned (.tuple #[]) ∧ Put b (l ++ p ++ [c]) w w' := by
  have := wsector c.toNat b s l w (Nat.le_of_lt_succ c.toNat_lt) h (by omega)
  rw [hp] at this
  have e : UInt8.ofNat c.toNat = c := by simp
  rw [e] at this
  exact this

set_option maxRecDepth 100000 in
set_option maxHeartbeats 1000000 in
theorem nodeRec_put (b : Nat) (enc : ByteArray) (x0 x2 x3 x4 : Value) (l : List UInt8) (w : World) (h : Bld b l w) (hl : l.length ≤ 1000) (he : enc.size ≤ 4000) :
    Calls Try.prog 33 #[.agg #[], .pointer (some ⟨b, 0, none⟩), .agg #[x0, .string enc, x2, x3, x4]] w fun e w' => e = .returned (.tuple #[]) ∧ Put b (l ++ marked (four enc.size ++ enc.data.toList) [83] [77]) w w' := by
  obtain ⟨s, hs⟩ : ∃ s, four enc.size ++ enc.data.toList = s := ⟨_, rfl⟩
  have hsl : s.length = 4 + enc.size := by rw [← hs, List.length_append]; rfl
  obtain ⟨Q, hQ⟩ : ∃ Q, (s.length + 62) / 63 = Q := ⟨_, rfl⟩
  have hQ1 : 1 ≤ Q := by omega
  have hQ2 : Q ≤ 65 := by omega
  have HMK : Hid (marked s [83] [77] = markedTo s [83] [77] Q) := by show _ = _; rw [marked, hQ]
  have HW : Hid (∀ w', Calls Try.prog 34 #[.iface 63 (.agg #[.iface 72 (.agg #[.int .i64 4, .bool true])]), .string enc] w' fun e w'' => ∃ t : ByteArray, e = .returned (.string t) ∧ t.size = 63 * Q ∧ Hid (t.data.toList = pad63 s) ∧ Below w'.heap.size w' w'') := by
    intro w'
    refine (written_S _ enc (pad63 s) w' ?_).mono ?_
    · intro w'' h''
      have := wpadS 4 true w'.heap.size enc [] w'' (by omega) (by omega) h'' (by simp; omega)
      rw [List.nil_append, four_numTo, hs] at this
      exact this
    · rintro e w'' ⟨t, rfl, HT, hb⟩
      refine ⟨t, rfl, ?_, HT, hb⟩
      have e1 : t.data.toList.length = 63 * Q := by rw [HT.out, pad63_size, hQ]
      exact e1
  have HPT : Hid (∀ q, q < Q → ((pad63 s).drop (63 * q)).take 63 = part63 s (63 * q)) := fun q hq => pad63_part s q (by omega)
  have HLen : ∀ q, (markedTo s [83] [77] q).length ≤ 64 * q := markedTo_length s [83] [77] (by simp) (by simp)
  have HLn : Hid (∀ q, (markedTo s [83] [77] q).length ≤ 64 * q) := HLen
  rw [hs, HMK.out]
  clear hs hsl hQ HLen HMK
  have hlt := h.lt
  go_enter Try.func33, Try.ntmps33
  go_wp2_with fail
  obtain ⟨w1, hw1⟩ : ∃ w1, w1 = (w.alloc (.cells #[] 33)).alloc (.cells #[x0, .string enc, x2, x3, x4] 31) := ⟨_, rfl⟩
  have hp1 : Put b l w w1 := by rw [hw1]; exact ((Put.refl h).alloc _).alloc _
  have hn : w1.heap[w.heap.size + 1]? = some (.cells #[x0, .string enc, x2, x3, x4] 31) := by
    rw [hw1, show w.heap.size + 1 = (w.alloc (.cells #[] 33)).heap.size by simp]; exact heap_alloc_new _ _
  rw [← hw1]
  clear hw1
  have c1 : w1.cell? ⟨w.heap.size + 1, 1, none⟩ = some (.string enc) := Lib.cell_of_heap hn 1
  go_region_held3 (fun W => W.cell? ⟨w.heap.size + 1, 1, none⟩ = some (.string enc))
    (first | exact c1 | exact Lib.cell_of_heap hnA 1 | exact Lib.cell_of_heap hnB 1)
    (first | (go_at_call 35; refine (nodeBody_any _).mono ?_; rintro e wA ⟨rfl, hbA'⟩; have hbA : Below w1.heap.size w1 wA := (Below.refl w1.heap.size w1).drew.trans hbA'; have hnA := below_cells hbA hn) | (go_at_call 34; refine (HW.out _).mono ?_; rintro e wB ⟨t, rfl, hts, HT, hbB⟩; have hnB := below_cells hbB hnA))
  have hpB : Put b l w wB := (hp1.below hbA).below hbB
  have y1 : (63 : Int) ≤ (t.size : Int) := by omega
  have HSeg : Hid (∀ q, q < Q → (t.extract (63 * q) (63 * q + 63)).data.toList = part63 s (63 * q)) := fun q hq => by rw [extract_list, HT.out]; exact HPT.out q hq
  have hx0 : (t.extract 0 63).data.toList = part63 s (63 * 0) := HSeg.out 0 (by omega)
  have hs0 : (t.extract 0 63).size ≤ 63 := by
    have : (t.extract 0 63).data.toList.length = 63 := by rw [hx0, part63_length]
    exact Nat.le_of_eq this
  have HX : Hid (∀ w', Bld b l w' → Calls Try.prog 36 #[.pointer (some ⟨b, 0, none⟩), .iface 67 (.agg #[.int .i64 83]), .string (t.extract 0 63)] w' fun e w'' => e = .returned (.tuple #[]) ∧ Put b (l ++ markedTo s [83] [77] 1) w' w'') := fun w' h' => by
    have := wsec 83 b (t.extract 0 63) _ l w' h' (by omega) hs0 hx0
    rw [List.append_assoc] at this
    exact this
  clear hx0 hs0
  go_wp2_with (first | (go_at_call 36; refine (HX.out _ hpB.1).mono ?_; rintro e wC ⟨rfl, hpC⟩))
  have hpW := hpB.trans hpC
  clear hpC hpB hbB hnB hnA hbA hbA' hn hp1 c1 HX HPT HT HW
  go_loopw [7] (fun t7 wr => ∃ q : Nat, q ≤ Q ∧ 1 ≤ q ∧ t7 = .int .i64 ((63 * q : Nat) : Int) ∧ Put b (l ++ markedTo s [83] [77] q) w wr) (fun t7 _ => 63 * Q + 63 - (intOf t7).toNat)
  case atStart => exact ⟨1, hQ1, Nat.le_refl _, rfl, hpW⟩
  case round =>
    obtain ⟨q, hq, hq1, rfl, hp⟩ := hrel
    have hlq := HLn.out q
    by_cases h1 : q < Q
    · have hxq := HSeg.out q h1
      have hsq : (t.extract (63 * q) (63 * q + 63)).size ≤ 63 := by
        have : (t.extract (63 * q) (63 * q + 63)).data.toList.length = 63 := by rw [hxq, part63_length]
        exact Nat.le_of_eq this
      obtain ⟨a, ha⟩ : ∃ a, 63 * q = a := ⟨_, rfl⟩
      have HX : Hid (∀ w', Bld b (l ++ markedTo s [83] [77] q) w' → Calls Try.prog 36 #[.pointer (some ⟨b, 0, none⟩), .iface 67 (.agg #[.int .i64 77]), .string (t.extract a (a + 63))] w' fun e w'' => e = .returned (.tuple #[]) ∧ Put b (l ++ markedTo s [83] [77] (q + 1)) w' w'') := fun w' h' => by
        rw [← ha]
        have := wsec 77 b (t.extract (63 * q) (63 * q + 63)) _ (l ++ markedTo s [83] [77] q) w' h' (by rw [List.length_append]; omega) hsq hxq
        rw [markedTo, if_neg (by omega), ← List.append_assoc, ← List.append_assoc]
        exact this
      clear hxq hsq
      rw [ha]
      have z1 : decide ((a : Int) < (t.size : Int)) = true := by simp; omega
      have z2 : IntKind.i64.wrap ((a : Int) + 63) = (a : Int) + 63 := wrap_i64_in _ (by omega) (by omega)
      have z3 : (0 : Int) ≤ (a : Int) := by omega
      have z4 : (a : Int) + 63 ≤ (t.size : Int) := by omega
      have z5 : (a : Int) ≤ (a : Int) + 63 := by omega
      go_wp2_with (first | (go_at_call 36; refine (HX.out _ hp.1).mono ?_; rintro e wD ⟨rfl, hpD⟩))
      refine ⟨⟨q + 1, by omega, by omega, congrArg (Value.int .i64) (by omega), hp.trans hpD⟩, ?_⟩
      show 63 * Q + 63 - ((a : Int) + 63).toNat < 63 * Q + 63 - ((a : Int)).toNat
      omega
    · have e : q = Q := by omega
      subst e
      have z1 : decide (((63 * q : Nat) : Int) < (t.size : Int)) = false := by simp; omega
      obtain ⟨a, ha⟩ : ∃ a, 63 * q = a := ⟨_, rfl⟩
      rw [ha] at z1 ⊢
      go_wp2
      go_end0
      exact ⟨rfl, hp⟩
end Go.Proofs.Ytglpjoandgbngaa
