import Derived.Test.YtmfhfehemoeeeaaGreatDoorZsal
import Derived.WalkSpells
import Derived.WalkLawsBesides
import Derived.Deep.RegionHeld3
import Derived.Test.YtmfhfehemoeeeaaGreatDoorZsab
set_option maxRecDepth 100000
set_option maxHeartbeats 1000000
namespace Go.Proofs.YtmfhfehemoeeeaaGreatDoor
open Go.RowKit Go.Proofs.Sha

/-- The reader in block r. -/
def Rd (r : Nat) (s : ByteArray) (a : Nat) (f : Bool) (w : World) : Prop := w.heap[r]? = some (.cells #[.string s, .int .i64 (a : Int), .bool f] 140)
/-- Of what was there only block r may have turned. -/
structure Mv (r : Nat) (w w' : World) : Prop where
  os : w'.os = w.os
  tape : w'.tape = w.tape
  output : w'.output = w.output
  size : w.heap.size ≤ w'.heap.size
  block : ∀ k, k < w.heap.size → k ≠ r → w'.heap[k]? = w.heap[k]?
theorem Mv.refl (r : Nat) (w : World) : Mv r w w := ⟨rfl, rfl, rfl, Nat.le_refl _, fun _ _ _ => rfl⟩
theorem Mv.trans {r : Nat} {a b c : World} (h : Mv r a b) (k : Mv r b c) : Mv r a c :=
  ⟨k.os.trans h.os, k.tape.trans h.tape, k.output.trans h.output, Nat.le_trans h.size k.size, fun i hi hr => (k.block i (Nat.lt_of_lt_of_le hi h.size) hr).trans (h.block i hi hr)⟩
theorem Mv.of_below {w w' : World} (r : Nat) (h : Below w.heap.size w w') : Mv r w w' := ⟨h.os, h.tape, h.output, h.size, fun k hk _ => h.block k hk⟩
theorem Mv.to_below {r B : Nat} {w w' : World} (h : Mv r w w') (hB : B ≤ w.heap.size) (hr : B ≤ r) : Below B w w' := ⟨h.os, h.tape, h.output, h.size, fun k hk => h.block k (Nat.lt_of_lt_of_le hk hB) (by omega)⟩
theorem Mv.alloc {r : Nat} {a w : World} (h : Mv r a w) (o : Obj) : Mv r a (w.alloc o) := h.trans (Mv.of_below r ((Below.refl _ _).alloc (Nat.le_refl _) _))
theorem Mv.drew {r : Nat} {a w : World} (h : Mv r a w) : Mv r a w.drew := ⟨h.os, h.tape, h.output, h.size, h.block⟩
theorem Mv.setCell {r : Nat} {a w : World} (h : Mv r a w) (i : Nat) (v : Value) : Mv r a (w.setCell ⟨r, i, none⟩ v) :=
  ⟨h.os, h.tape, h.output, by rw [show (w.setCell ⟨r, i, none⟩ v).heap.size = w.heap.size by simp [World.setCell]]; exact h.size, fun k hk hr => (heap_setCell_other w ⟨r, i, none⟩ k v hr).trans (h.block k hk hr)⟩
theorem Mv.cells {r k : Nat} {w w' : World} {o : Obj} (h : Mv r w w') (hk : w.heap[k]? = some o) (hr : k ≠ r) : w'.heap[k]? = some o :=
  (h.block k (Array.getElem?_eq_some_iff.1 hk).1 hr).trans hk
theorem Rd.lt {r : Nat} {s : ByteArray} {a : Nat} {f : Bool} {w : World} (h : Rd r s a f w) : r < w.heap.size := (Array.getElem?_eq_some_iff.1 h).1
theorem Rd.below {r : Nat} {s : ByteArray} {a : Nat} {f : Bool} {w w' : World} (h : Rd r s a f w) (hb : Below w.heap.size w w') : Rd r s a f w' := below_cells hb h
theorem Rd.alloc {r : Nat} {s : ByteArray} {a : Nat} {f : Bool} {w : World} (h : Rd r s a f w) (o : Obj) : Rd r s a f (w.alloc o) := h.below ((Below.refl _ _).alloc (Nat.le_refl _) _)
theorem Rd.drew {r : Nat} {s : ByteArray} {a : Nat} {f : Bool} {w : World} (h : Rd r s a f w) : Rd r s a f w.drew := h
theorem Rd.setF {r : Nat} {s : ByteArray} {a : Nat} {f : Bool} {w : World} (h : Rd r s a f w) (g : Bool) : Rd r s a g (w.setCell ⟨r, 2, none⟩ (.bool g)) := heap_setCell_same w r 2 _ 140 _ h
theorem Rd.setA {r : Nat} {s : ByteArray} {a : Nat} {f : Bool} {w : World} (h : Rd r s a f w) (b : Nat) : Rd r s b f (w.setCell ⟨r, 1, none⟩ (.int .i64 (b : Int))) := heap_setCell_same w r 1 _ 140 _ h
theorem frozen_of_heap {w : World} {k j : Nat} {cs : Array Value} {t : TypeId} (h : w.heap[k]? = some (.cells cs t)) : w.frozen? ⟨k, j, none⟩ = false := by rw [World.frozen?, h]; rfl

theorem fail_any (r : Nat) (s : ByteArray) (a : Nat) (f : Bool) (w : World) (h : Rd r s a f w) :
    Calls Tryz.prog 97 #[.pointer (some ⟨r, 0, none⟩)] w fun e w' => e = .returned (.tuple #[]) ∧ Rd r s a true w' ∧ Mv r w w' := by
  have c2 : w.cell? ⟨r, 2, none⟩ = some (.bool f) := Lib.cell_of_heap h 2
  have f2 : w.frozen? ⟨r, 2, none⟩ = false := frozen_of_heap h
  go_enter Tryz.func97, Tryz.ntmps97
  go_wp2
  go_end0
  exact ⟨rfl, h.setF true, (Mv.refl r w).setCell 2 _⟩

/-- What 'next' answers and leaves. -/
def NX (s : ByteArray) (a : Nat) (f : Bool) (n : Nat) (t : ByteArray) (a' : Nat) (f' : Bool) : Prop :=
  (f = false ∧ a + n ≤ s.size ∧ t = s.extract a (a + n) ∧ a' = a + n ∧ f' = false) ∨ ((f = true ∨ ¬ a + n ≤ s.size) ∧ t = ⟨#[]⟩ ∧ a' = a ∧ f' = true)

theorem next_any (r : Nat) (s : ByteArray) (a : Nat) (f : Bool) (n : Nat) (w : World) (h : Rd r s a f w) (ha : a ≤ s.size) (hs : s.size ≤ 1048576) (hn : n ≤ 4294967296) :
    Calls Tryz.prog 162 #[.pointer (some ⟨r, 0, none⟩), .int .i64 (n : Int)] w fun e w' => ∃ t a' f', e = .returned (.string t) ∧ Hid (NX s a f n t a' f') ∧ a' ≤ s.size ∧ t.size ≤ s.size ∧ Rd r s a' f' w' ∧ Mv r w w' := by
  have c0 : w.cell? ⟨r, 0, none⟩ = some (.string s) := Lib.cell_of_heap h 0
  have c1 : w.cell? ⟨r, 1, none⟩ = some (.int .i64 (a : Int)) := Lib.cell_of_heap h 1
  have c2 : w.cell? ⟨r, 2, none⟩ = some (.bool f) := Lib.cell_of_heap h 2
  have f1 : w.frozen? ⟨r, 1, none⟩ = false := frozen_of_heap h
  cases f
  · by_cases h1 : a + n ≤ s.size
    · have z1 : decide ((s.size : Int) - (a : Int) < (n : Int)) = false := by simp; omega
      have z2 : IntKind.i64.wrap ((s.size : Int) - (a : Int)) = (s.size : Int) - (a : Int) := wrap_i64_in _ (by omega) (by omega)
      go_enter Tryz.func162, Tryz.ntmps162
      go_wp2_with fail
      go_region_held3 (fun W => W.cell? ⟨r, 0, none⟩ = some (.string s) ∧ W.cell? ⟨r, 1, none⟩ = some (.int .i64 (a : Int)) ∧ W.cell? ⟨r, 2, none⟩ = some (.bool false)) (exact ⟨c0, c1, c2⟩) (fail)
      go_wp2_with fail
      have z3 : IntKind.i64.wrap ((a : Int) + (n : Int)) = (a : Int) + (n : Int) := wrap_i64_in _ (by omega) (by omega)
      have y1 : (0 : Int) ≤ (a : Int) := by omega
      have y2 : (a : Int) ≤ (a : Int) + (n : Int) := by omega
      have y3 : (a : Int) + (n : Int) ≤ (s.size : Int) := by omega
      go_region_held3 (fun W => W.cell? ⟨r, 0, none⟩ = some (.string s) ∧ W.cell? ⟨r, 1, none⟩ = some (.int .i64 (a : Int))) (exact ⟨c0, c1⟩) (fail)
      go_wp2
      go_ret
      have e1 : ((a : Int) + (n : Int)).toNat = a + n := by omega
      have e2 : ((a : Int) + (n : Int)) = ((a + n : Nat) : Int) := by omega
      rw [e1, e2]
      refine ⟨_, a + n, false, rfl, .inl ⟨rfl, h1, rfl, rfl, rfl⟩, h1, ?_, h.setA (a + n), ((Mv.refl r w).setCell 1 _).drew.drew⟩
      rw [ByteArray.size_extract]; omega
    · have z1 : decide ((s.size : Int) - (a : Int) < (n : Int)) = true := by simp; omega
      have z2 : IntKind.i64.wrap ((s.size : Int) - (a : Int)) = (s.size : Int) - (a : Int) := wrap_i64_in _ (by omega) (by omega)
      go_enter Tryz.func162, Tryz.ntmps162
      go_wp2_with fail
      go_region_held3 (fun W => W.cell? ⟨r, 0, none⟩ = some (.string s) ∧ W.cell? ⟨r, 1, none⟩ = some (.int .i64 (a : Int)) ∧ W.cell? ⟨r, 2, none⟩ = some (.bool false)) (exact ⟨c0, c1, c2⟩) (fail)
      go_wp2_with (first | (go_at_call 97; refine (fail_any r s a false _ h.drew).mono ?_; rintro e w2 ⟨rfl, hr2, hm2⟩))
      go_ret
      exact ⟨_, _, _, rfl, .inr ⟨.inr h1, rfl, rfl, rfl⟩, ha, Nat.zero_le _, hr2, (Mv.refl r w).drew.trans hm2⟩
  · go_enter Tryz.func162, Tryz.ntmps162
    go_wp2_with fail
    go_region
    go_wp2_with (first | (go_at_call 97; refine (fail_any r s a true _ h.drew).mono ?_; rintro e w2 ⟨rfl, hr2, hm2⟩))
    go_ret
    exact ⟨_, _, _, rfl, .inr ⟨.inl rfl, rfl, rfl, rfl⟩, ha, Nat.zero_le _, hr2, (Mv.refl r w).drew.trans hm2⟩
theorem i64_or_nat (a b : Nat) (ha : a < 4294967296) (hb : b < 4294967296) : bits .or .i64 (a : Int) (b : Int) = ((a ||| b : Nat) : Int) := by
  have hx : a ||| b < 2 ^ 32 := Nat.or_lt_two_pow (by omega) (by omega)
  show IntKind.i64.wrap ((BitVec.ofInt 64 (a : Int) ||| BitVec.ofInt 64 (b : Int)).toNat : Int) = _
  rw [BitVec.toNat_or, ofInt_u64 a (by omega), ofInt_u64 b (by omega)]
  exact wrap_i64_in _ (by omega) (by omega)
/-- The number of the first i bytes of a text. -/
def valTo (z : Nat) (low : Bool) (b : Nat → Nat) : Nat → Nat
  | 0 => 0
  | i + 1 => valTo z low b i ||| b i * 2 ^ (8 * (if low then i else z - 1 - i))
theorem piece_lt (m k : Nat) (hm : m < 256) (hk : k ≤ 24) : m * 2 ^ k < 4294967296 := by
  have h1 : 2 ^ k ≤ 2 ^ 24 := Nat.pow_le_pow_right (by omega) hk
  have h2 : m * 2 ^ k ≤ 255 * 2 ^ 24 := Nat.mul_le_mul (by omega) h1
  have h3 : 255 * 2 ^ 24 < 4294967296 := by decide
  omega
theorem valTo_lt (z : Nat) (low : Bool) (b : Nat → Nat) (hb : ∀ i, b i < 256) (hz : z ≤ 4) : ∀ i, i ≤ z → valTo z low b i < 4294967296
  | 0, _ => by rw [valTo]; omega
  | i + 1, hi => by
    rw [valTo]
    have h1 := valTo_lt z low b hb hz i (by omega)
    have h2 := piece_lt (b i) (8 * (if low then i else z - 1 - i)) (hb i) (by split <;> omega)
    have := Nat.or_lt_two_pow (n := 32) (x := valTo z low b i) (y := b i * 2 ^ (8 * (if low then i else z - 1 - i))) (by omega) (by omega)
    omega
/-- The bytes of a text, zeros behind it. -/
def byteAt (t : ByteArray) (i : Nat) : Nat := (t.data.toList.getD i 0).toNat
theorem byteAt_lt (t : ByteArray) (i : Nat) : byteAt t i < 256 := UInt8.toNat_lt _

theorem ntake (z : Nat) (low : Bool) (r : Nat) (s : ByteArray) (a : Nat) (f : Bool) (w : World) (h : Rd r s a f w) (ha : a ≤ s.size) (hs : s.size ≤ 1048576) (hz : 0 < z) (hz4 : z ≤ 4) :
    Calls Tryz.prog 195 #[.agg #[.int .i64 (z : Int), .bool low], .pointer (some ⟨r, 0, none⟩)] w fun e w' => ∃ (v : Nat) (t : ByteArray) (a' : Nat) (f' : Bool), e = .returned (.int .i64 (v : Int)) ∧ Hid (NX s a f z t a' f') ∧ Hid (v = valTo z low (byteAt t) t.size) ∧ a' ≤ s.size ∧ v < 4294967296 ∧ Rd r s a' f' w' ∧ Mv r w w' := by
  have hlt := h.lt
  have HN : Hid (∀ w', Rd r s a f w' → Calls Tryz.prog 162 #[.pointer (some ⟨r, 0, none⟩), .int .i64 (z : Int)] w' fun e w'' => ∃ t a' f', e = .returned (.string t) ∧ Hid (NX s a f z t a' f') ∧ a' ≤ s.size ∧ t.size ≤ s.size ∧ Rd r s a' f' w'' ∧ Mv r w' w'') := fun w' h' => next_any r s a f z w' h' ha hs (by omega)
  go_enter Tryz.func195, Tryz.ntmps195
  go_wp2_with (first | (go_at_call 162; refine (HN.out _ (h.alloc _)).mono ?_; rintro e w1 ⟨t, a', f', rfl, HX, ha', ht, hr1, hm1⟩) | (refine wpList_bytes_row _ rfl (.tmp 11) 9 22 5 rfl t rfl Tryz.underlying9 Tryz.underlying22 Tryz.underlying5 ?_; intro g cap w2 hrow hb2))
  have hn1 := hm1.cells (heap_alloc_new w (.cells #[.int .i64 (z : Int), .bool low] 197)) (by omega)
  have hn2 := below_cells hb2 hn1
  have hr2 := hr1.below hb2
  have hm2 : Mv r w w2 := (((Mv.refl r w).alloc _).trans hm1).trans (Mv.of_below r hb2)
  have htz : t.size ≤ z := by
    rcases HX.out with ⟨_, h2, h3, _⟩ | ⟨_, h3, _⟩
    · rw [h3, ByteArray.size_extract]; omega
    · rw [h3]; exact Nat.zero_le _
  have HB := byteAt_lt t
  have HVL : Hid (∀ i, i ≤ z → valTo z low (byteAt t) i < 4294967296) := fun i hi => valTo_lt z low (byteAt t) HB hz4 i hi
  have HRow : Hid (∀ W, Below w2.heap.size w2 W → ∀ i, i < t.size → W.cell? ⟨g, i, none⟩ = some (.int .u8 (byteAt t i : Int))) := by
    intro W hW i hi
    rw [(hrow.below hW).cell i hi, List.getElem?_map, List.getElem?_eq_getElem (by exact hi)]
    unfold byteAt
    rw [List.getD_eq_getElem?_getD, List.getElem?_eq_getElem (by exact hi)]
    rfl
  clear hb2 hrow hn1 hm1 hr1 HN
  go_loopw [5, 14] (fun t5 t14 wr => ∃ i v : Nat, i ≤ t.size ∧ t5 = .int .i64 (v : Int) ∧ t14 = .int .i64 (i : Int) ∧ Hid (v = valTo z low (byteAt t) i) ∧ Below w2.heap.size w2 wr) (fun _ t14 _ => t.size - (intOf t14).toNat)
  case atStart => exact ⟨0, 0, Nat.zero_le _, rfl, rfl, rfl, Below.refl _ _⟩
  case round =>
    obtain ⟨i, v, hi, rfl, rfl, HV, hb⟩ := hrel
    by_cases h1 : i < t.size
    · have z1 : decide ((i : Int) < (t.size : Int)) = true := by simp; omega
      have y1 : (0 : Int) ≤ (i : Int) := by omega
      have y2 : (i : Int) < (t.size : Int) := by omega
      have cb := HRow.out wr hb i h1
      have hn := below_cells hb hn2
      have c0 : wr.cell? ⟨w.heap.size, 0, none⟩ = some (.int .i64 (z : Int)) := Lib.cell_of_heap hn 0
      have c1 : wr.cell? ⟨w.heap.size, 1, none⟩ = some (.bool low) := Lib.cell_of_heap hn 1
      obtain ⟨k, hk, hk24, hkb⟩ : ∃ k : Nat, sh z low i = (k : Int) ∧ k ≤ 24 ∧ k = 8 * (if low then i else z - 1 - i) := by
        unfold sh
        cases low
        · exact ⟨8 * (z - 1 - i), by simp only [Bool.false_eq_true, if_false]; omega, by omega, rfl⟩
        · exact ⟨8 * i, by simp only [if_true]; omega, by omega, rfl⟩
      have HC : Hid (∀ w', Calls Tryz.prog 194 #[.agg #[.int .i64 (z : Int), .bool low], .int .i64 (i : Int)] w' fun e w'' => e = .returned (.int .i64 (k : Int)) ∧ Below w'.heap.size w' w'') := fun w' => by rw [← hk]; exact shift_any _ _ _ w' (by omega) (by omega) (by omega) (by omega)
      have k0 : (0 : Int) ≤ (k : Int) := by omega
      obtain ⟨m, hm⟩ : ∃ m, byteAt t i = m := ⟨_, rfl⟩
      have hm256 : m < 256 := by rw [← hm]; exact HB i
      obtain ⟨q, hq⟩ : ∃ q, m * 2 ^ k = q := ⟨_, rfl⟩
      have hq32 : q < 4294967296 := by rw [← hq]; exact piece_lt m k hm256 hk24
      have hv32 : v < 4294967296 := by rw [HV.out]; exact HVL.out i (by omega)
      have hw : IntKind.i64.wrap ((m : Int) * 2 ^ k) = (q : Int) := by
        rw [← hq, wrap_i64_in]
        · rw [Int.natCast_mul, Int.natCast_pow]; rfl
        · have : (0 : Int) ≤ (m : Int) * 2 ^ k := Int.mul_nonneg (by omega) (Int.pow_nonneg (by omega))
          omega
        · have e : (m : Int) * 2 ^ k = (q : Int) := by rw [← hq, Int.natCast_mul, Int.natCast_pow]; rfl
          omega
      obtain ⟨v', hv'⟩ : ∃ v', v ||| q = v' := ⟨_, rfl⟩
      have hor : bits .or .i64 (v : Int) (q : Int) = (v' : Int) := by rw [← hv']; exact i64_or_nat v q hv32 hq32
      have HV' : Hid (v' = valTo z low (byteAt t) (i + 1)) := by show _ = _; rw [valTo, ← HV.out, hm, ← hkb, hq, hv']
      rw [hm] at cb
      clear hv' hq hkb hk hm
      go_wp2_with (first | (go_at_call 194; refine (HC.out _).mono ?_; rintro e w3 ⟨rfl, hb3⟩))
      refine ⟨⟨i + 1, v', by omega, rfl, congrArg (Value.int .i64) (by omega), HV', hb.trans (hb3.mono hb.size)⟩, ?_⟩
      show t.size - ((i : Int) + 1).toNat < t.size - ((i : Int)).toNat
      omega
    · have e : i = t.size := by omega
      have z1 : decide ((i : Int) < (t.size : Int)) = false := by simp; omega
      go_wp2_with fail
      go_ret
      have hv32 : v < 4294967296 := by rw [HV.out]; exact HVL.out i (by omega)
      subst e
      exact ⟨v, t, a', f', rfl, HX, HV, ha', hv32, hr2.below hb, hm2.trans (Mv.of_below r hb)⟩
theorem NX.fault {s : ByteArray} {a : Nat} {f : Bool} {n : Nat} {t : ByteArray} {a' : Nat} (h : NX s a f n t a' true) : t = ⟨#[]⟩ := by
  rcases h with ⟨_, _, _, _, h⟩ | ⟨_, h, _⟩
  · cases h
  · exact h

theorem rint (z : Nat) (low : Bool) (r : Nat) (s : ByteArray) (a : Nat) (f : Bool) (w : World) (h : Rd r s a f w) (ha : a ≤ s.size) (hs : s.size ≤ 1048576) (hz : 0 < z) (hz4 : z ≤ 4) :
    Calls Tryz.prog 137 #[.pointer (some ⟨r, 0, none⟩), .iface 197 (.agg #[.int .i64 (z : Int), .bool low])] w fun e w' => ∃ (v : Nat) (t : ByteArray) (a' : Nat) (f' : Bool), e = .returned (.int .i64 (v : Int)) ∧ Hid (NX s a f z t a' f') ∧ Hid (v = valTo z low (byteAt t) t.size) ∧ a' ≤ s.size ∧ v < 4294967296 ∧ Rd r s a' f' w' ∧ Mv r w w' := by
  have hmt : ∀ w : World, (method 356 197 (.agg #[.int .i64 (z : Int), .bool low]) "loop.example/s03048/impl.take").run Tryz.prog w = .ok (195, .agg #[.int .i64 (z : Int), .bool low]) w := fun _ => by kernel_rfl
  have HC := ntake z low r s a f w h ha hs hz hz4
  have HCh : Hid (Calls Tryz.prog 195 #[.agg #[.int .i64 (z : Int), .bool low], .pointer (some ⟨r, 0, none⟩)] w fun e w' => ∃ (v : Nat) (t : ByteArray) (a' : Nat) (f' : Bool), e = .returned (.int .i64 (v : Int)) ∧ Hid (NX s a f z t a' f') ∧ Hid (v = valTo z low (byteAt t) t.size) ∧ a' ≤ s.size ∧ v < 4294967296 ∧ Rd r s a' f' w' ∧ Mv r w w') := HC
  clear HC
  go_enter Tryz.func137, Tryz.ntmps137
  go_wp2_with (first | (go_at_call 195; refine HCh.out.mono ?_; rintro e w1 ⟨v, t, a', f', rfl, HX, HV, ha', hv, hr1, hm1⟩; have c2 : w1.cell? ⟨r, 2, none⟩ = some (.bool f') := Lib.cell_of_heap hr1 2))
  · rename_i hf
    go_ret
    subst hf
    have e := NX.fault HX.out
    exact ⟨0, t, a', true, rfl, HX, by show 0 = valTo z low (byteAt t) t.size; rw [e]; rfl, ha', by omega, hr1, hm1⟩
  · go_ret
    exact ⟨v, t, a', f', rfl, HX, HV, ha', hv, hr1, hm1⟩

theorem clone_any (t : ByteArray) (w : World) (ht : t.size ≤ 1048576) :
    Calls Tryz.prog 74 #[.string t] w fun e w' => e = .returned (.string t) ∧ Below w.heap.size w w' := by
  have HC : Hid (Calls Tryz.prog 91 #[.string t] w fun e w' => e = .returned (.string t) ∧ Below w.heap.size w w') := Tryz.stringslite_Clone t w (by omega)
  go_enter Tryz.func74, Tryz.ntmps74
  go_wp2_with (first | (go_at_call 91; refine HC.out.mono ?_; rintro e w1 ⟨rfl, hb1⟩))
  go_ret
  exact ⟨rfl, hb1⟩

theorem ptake (n : Nat) (r : Nat) (s : ByteArray) (a : Nat) (f : Bool) (w : World) (h : Rd r s a f w) (ha : a ≤ s.size) (hs : s.size ≤ 1048576) (hn : n ≤ 4294967296) :
    Calls Tryz.prog 204 #[.agg #[.int .i64 (n : Int)], .pointer (some ⟨r, 0, none⟩)] w fun e w' => ∃ (t : ByteArray) (a' : Nat) (f' : Bool), e = .returned (.string t) ∧ Hid (NX s a f n t a' f') ∧ a' ≤ s.size ∧ t.size ≤ s.size ∧ Rd r s a' f' w' ∧ Mv r w w' := by
  have HN : Hid (∀ w', Rd r s a f w' → Calls Tryz.prog 162 #[.pointer (some ⟨r, 0, none⟩), .int .i64 (n : Int)] w' fun e w'' => ∃ t a' f', e = .returned (.string t) ∧ Hid (NX s a f n t a' f') ∧ a' ≤ s.size ∧ t.size ≤ s.size ∧ Rd r s a' f' w'' ∧ Mv r w' w'') := fun w' h' => next_any r s a f n w' h' ha hs hn
  go_enter Tryz.func204, Tryz.ntmps204
  go_wp2_with (first | (go_at_call 162; refine (HN.out _ (h.alloc _)).mono ?_; rintro e w1 ⟨t, a', f', rfl, HX, ha', ht, hr1, hm1⟩) | (go_at_call 74; refine (clone_any t _ (by omega)).mono ?_; rintro e w2 ⟨rfl, hb2⟩))
  go_ret
  exact ⟨t, a', f', rfl, HX, ha', ht, hr1.below hb2, (((Mv.refl r w).alloc _).trans hm1).trans (Mv.of_below r hb2)⟩

theorem rplain (n : Nat) (r : Nat) (s : ByteArray) (a : Nat) (f : Bool) (w : World) (h : Rd r s a f w) (ha : a ≤ s.size) (hs : s.size ≤ 1048576) (hn : n ≤ 4294967296) :
    Calls Tryz.prog 136 #[.pointer (some ⟨r, 0, none⟩), .iface 226 (.agg #[.int .i64 (n : Int)])] w fun e w' => ∃ (t : ByteArray) (a' : Nat) (f' : Bool), e = .returned (.string t) ∧ Hid (NX s a f n t a' f') ∧ a' ≤ s.size ∧ t.size ≤ s.size ∧ Rd r s a' f' w' ∧ Mv r w w' := by
  have hmt : ∀ w : World, (method 356 226 (.agg #[.int .i64 (n : Int)]) "loop.example/s03048/impl.take").run Tryz.prog w = .ok (204, .agg #[.int .i64 (n : Int)]) w := fun _ => by kernel_rfl
  have HCh : Hid (Calls Tryz.prog 204 #[.agg #[.int .i64 (n : Int)], .pointer (some ⟨r, 0, none⟩)] w fun e w' => ∃ (t : ByteArray) (a' : Nat) (f' : Bool), e = .returned (.string t) ∧ Hid (NX s a f n t a' f') ∧ a' ≤ s.size ∧ t.size ≤ s.size ∧ Rd r s a' f' w' ∧ Mv r w w') := ptake n r s a f w h ha hs hn
  go_enter Tryz.func136, Tryz.ntmps136
  go_wp2_with (first | (go_at_call 204; refine HCh.out.mono ?_; rintro e w1 ⟨t, a', f', rfl, HX, ha', ht, hr1, hm1⟩; have c2 : w1.cell? ⟨r, 2, none⟩ = some (.bool f') := Lib.cell_of_heap hr1 2))
  · rename_i hf
    go_ret
    subst hf
    exact ⟨⟨#[]⟩, a', true, rfl, by rw [← NX.fault HX.out]; exact HX, ha', Nat.zero_le _, hr1, hm1⟩
  · go_ret
    exact ⟨t, a', f', rfl, HX, ha', ht, hr1, hm1⟩

/-- What a text with its size ahead answers and leaves. -/
def SX (z : Nat) (low : Bool) (s : ByteArray) (a : Nat) (f : Bool) (t : ByteArray) (a' : Nat) (f' : Bool) : Prop :=
  ∃ (t1 : ByteArray) (a1 : Nat) (f1 : Bool), NX s a f z t1 a1 f1 ∧ NX s a1 f1 (valTo z low (byteAt t1) t1.size) t a' f'

theorem stake (z : Nat) (low : Bool) (r : Nat) (s : ByteArray) (a : Nat) (f : Bool) (w : World) (h : Rd r s a f w) (ha : a ≤ s.size) (hs : s.size ≤ 1048576) (hz : 0 < z) (hz4 : z ≤ 4) :
    Calls Tryz.prog 198 #[.agg #[.int .i64 (z : Int), .bool low], .pointer (some ⟨r, 0, none⟩)] w fun e w' => ∃ (t : ByteArray) (a' : Nat) (f' : Bool), e = .returned (.string t) ∧ Hid (SX z low s a f t a' f') ∧ a' ≤ s.size ∧ t.size ≤ s.size ∧ Rd r s a' f' w' ∧ Mv r w w' := by
  have HI : Hid (∀ w', Rd r s a f w' → Calls Tryz.prog 137 #[.pointer (some ⟨r, 0, none⟩), .iface 197 (.agg #[.int .i64 (z : Int), .bool low])] w' fun e w'' => ∃ (v : Nat) (t : ByteArray) (a' : Nat) (f' : Bool), e = .returned (.int .i64 (v : Int)) ∧ Hid (NX s a f z t a' f') ∧ Hid (v = valTo z low (byteAt t) t.size) ∧ a' ≤ s.size ∧ v < 4294967296 ∧ Rd r s a' f' w'' ∧ Mv r w' w'') := fun w' h' => rint z low r s a f w' h' ha hs hz hz4
  go_enter Tryz.func198, Tryz.ntmps198
  go_wp2_with (first | (go_at_call 137; refine (HI.out _ (h.alloc _)).mono ?_; rintro e w1 ⟨v, t1, a1, f1, rfl, HX, HV, ha1, hv, hr1, hm1⟩) | (go_at_call 136; refine (rplain v r s a1 f1 _ hr1 ha1 hs (by omega)).mono ?_; rintro e w2 ⟨t, a', f', rfl, HY, ha', ht, hr2, hm2⟩))
  go_ret
  refine ⟨t, a', f', rfl, ⟨t1, a1, f1, HX.out, ?_⟩, ha', ht, hr2, (((Mv.refl r w).alloc _).trans hm1).trans hm2⟩
  rw [← HV.out]
  exact HY.out

theorem rsized (z : Nat) (low : Bool) (r : Nat) (s : ByteArray) (a : Nat) (f : Bool) (w : World) (h : Rd r s a f w) (ha : a ≤ s.size) (hs : s.size ≤ 1048576) (hz : 0 < z) (hz4 : z ≤ 4) :
    Calls Tryz.prog 136 #[.pointer (some ⟨r, 0, none⟩), .iface 206 (.agg #[.int .i64 (z : Int), .bool low])] w fun e w' => ∃ (t : ByteArray) (a' : Nat) (f' : Bool), e = .returned (.string t) ∧ Hid (SX z low s a f t a' f') ∧ a' ≤ s.size ∧ t.size ≤ s.size ∧ Rd r s a' f' w' ∧ Mv r w w' := by
  have hmt : ∀ w : World, (method 356 206 (.agg #[.int .i64 (z : Int), .bool low]) "loop.example/s03048/impl.take").run Tryz.prog w = .ok (198, .agg #[.int .i64 (z : Int), .bool low]) w := fun _ => by kernel_rfl
  have HCh : Hid (Calls Tryz.prog 198 #[.agg #[.int .i64 (z : Int), .bool low], .pointer (some ⟨r, 0, none⟩)] w fun e w' => ∃ (t : ByteArray) (a' : Nat) (f' : Bool), e = .returned (.string t) ∧ Hid (SX z low s a f t a' f') ∧ a' ≤ s.size ∧ t.size ≤ s.size ∧ Rd r s a' f' w' ∧ Mv r w w') := stake z low r s a f w h ha hs hz hz4
  go_enter Tryz.func136, Tryz.ntmps136
  go_wp2_with (first | (go_at_call 198; refine HCh.out.mono ?_; rintro e w1 ⟨t, a', f', rfl, HX, ha', ht, hr1, hm1⟩; have c2 : w1.cell? ⟨r, 2, none⟩ = some (.bool f') := Lib.cell_of_heap hr1 2))
  · rename_i hf
    go_ret
    subst hf
    obtain ⟨t1, a1, f1, h1, h2⟩ := HX.out
    exact ⟨⟨#[]⟩, a', true, rfl, ⟨t1, a1, f1, h1, by rw [← NX.fault h2]; exact h2⟩, ha', Nat.zero_le _, hr1, hm1⟩
  · go_ret
    exact ⟨t, a', f', rfl, HX, ha', ht, hr1, hm1⟩
end Go.Proofs.YtmfhfehemoeeeaaGreatDoor
