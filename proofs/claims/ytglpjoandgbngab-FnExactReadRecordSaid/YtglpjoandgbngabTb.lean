import Derived.Test.YtglpjoandgbngabTa
import Derived.Test.YtglpjoandgbngabPc
namespace Go.Proofs.Ytglpjoandgbngab
open Go.RowKit Go.Proofs.Sha

/-- All its bytes are zero. -/
def zeroT (t : ByteArray) : Bool := t.data.toList.all (· == 0)
theorem dw_empty (p : UInt8 → Bool) : ∀ l : List UInt8, (l.dropWhile p).isEmpty = l.all p
  | [] => rfl
  | a :: r => by
    rw [List.dropWhile_cons, List.all_cons]
    cases h : p a
    · rfl
    · simp [dw_empty p r]
theorem dw_all (p : UInt8 → Bool) : ∀ l : List UInt8, (l.dropWhile p).all p = l.all p
  | [] => rfl
  | a :: r => by
    rw [List.dropWhile_cons]
    cases h : p a
    · simp [h]
    · simp [h, dw_all p r]
theorem trim_zero (l : List UInt8) : (Lib.trimB l 0).isEmpty = l.all (· == 0) := by
  unfold Lib.trimB Lib.trimLeftB Lib.trimRightB
  rw [dw_empty, List.all_reverse, dw_all, List.all_reverse]
theorem trim_any (t : ByteArray) (w : World) (ht : t.size ≤ 1048576) :
    Calls Try.prog 101 #[.string t, .string ⟨#[0]⟩] w fun e w' => ∃ y : ByteArray, e = .returned (.string y) ∧ Hid (y.toList.isEmpty = zeroT t) ∧ Below w.heap.size w w' := by
  refine (Try.strings_Trim_one t 0 (by decide) w (by omega)).mono ?_
  rintro e w' ⟨rfl, hw⟩
  refine ⟨_, rfl, ?_, ?_⟩
  · show (_ : Bool) = _
    rw [ByteArray.toList_eq]
    exact trim_zero t.data.toList
  · rcases hw with rfl | rfl
    · exact Below.refl _ _
    · exact (Below.refl _ _).drew

/-- A text with its size in four bytes ahead and zeros behind is read. -/
def PX (s : ByteArray) (a : Nat) (f : Bool) (t : ByteArray) (a' : Nat) (f' : Bool) : Prop :=
  ∃ (a1 : Nat) (f1 : Bool) (t2 : ByteArray) (f2 : Bool), SX 4 true s a f t a1 f1 ∧ a1 ≤ s.size ∧ NX s a1 f1 (gap a1) t2 a' f2 ∧ f' = (f2 || !zeroT t2)

set_option maxRecDepth 100000 in
set_option maxHeartbeats 1000000 in
theorem padS_take (r : Nat) (s : ByteArray) (a : Nat) (f : Bool) (w : World) (h : Rd r s a f w) (ha : a ≤ s.size) (hs : s.size ≤ 90000) :
    Calls Try.prog 97 #[.agg #[.iface 95 (.agg #[.int .i64 4, .bool true])], .pointer (some ⟨r, 0, none⟩)] w fun e w' => ∃ (t : ByteArray) (a' : Nat) (f' : Bool), e = .returned (.string t) ∧ Hid (PX s a f t a' f') ∧ a' ≤ s.size ∧ t.size ≤ s.size ∧ Rd r s a' f' w' ∧ Mv r w w' := by
  have HS : Hid (∀ w', Rd r s a f w' → Calls Try.prog 64 #[.pointer (some ⟨r, 0, none⟩), .iface 95 (.agg #[.int .i64 4, .bool true])] w' fun e w'' => ∃ (t : ByteArray) (a' : Nat) (f' : Bool), e = .returned (.string t) ∧ Hid (SX 4 true s a f t a' f') ∧ a' ≤ s.size ∧ t.size ≤ s.size ∧ Rd r s a' f' w'' ∧ Mv r w' w'') := fun w' h' => rsized 4 true r s a f w' h' ha (by omega) (by omega) (by omega)
  have hlt := h.lt
  go_enter Try.func97, Try.ntmps97
  go_wp2_with fail
  refine (HS.out _ (h.alloc _)).mono ?_
  rintro e w1 ⟨t, a1, f1, rfl, HX, ha1, ht, hr1, hm1⟩
  have hmw : Mv r w w1 := ((Mv.refl r w).alloc _).trans hm1
  obtain ⟨g, hg⟩ : ∃ g, gap a1 = g := ⟨_, rfl⟩
  have g63 : g < 63 := by rw [← hg]; exact gap_lt _
  have HM : Hid (∀ w', Calls Try.prog 99 #[.int .i64 (a1 : Int)] w' fun e w'' => e = .returned (.int .i64 (g : Int)) ∧ w' = w'') := fun w' => by rw [← hg]; exact missing_any a1 w' (by omega)
  have HN : Hid (∀ w', Rd r s a1 f1 w' → Calls Try.prog 89 #[.pointer (some ⟨r, 0, none⟩), .int .i64 (g : Int)] w' fun e w'' => ∃ t a' f', e = .returned (.string t) ∧ Hid (NX s a1 f1 g t a' f') ∧ a' ≤ s.size ∧ t.size ≤ s.size ∧ Rd r s a' f' w'' ∧ Mv r w' w'') := fun w' h' => next_any r s a1 f1 g w' h' ha1 (by omega) (by omega)
  have HG : Hid (gap a1 = g) := hg
  have c1 : w1.cell? ⟨r, 1, none⟩ = some (.int .i64 (a1 : Int)) := Lib.cell_of_heap hr1 1
  clear hm1 HS hg
  go_wp2_with fail
  refine (HM.out _).mono ?_
  rintro e w2 ⟨rfl, rfl⟩
  go_wp2_with fail
  refine (HN.out _ hr1).mono ?_
  rintro e w2 ⟨t2, a2, f2, rfl, HX2, ha2, ht2, hr2, hm2⟩
  go_wp2_with fail
  refine (trim_any t2 _ (by omega)).mono ?_
  rintro e w3 ⟨y, rfl, HY, hb3⟩
  have hr3 := hr2.below hb3
  have hmw3 : Mv r w w3 := (hmw.trans hm2).trans (Mv.of_below r hb3)
  have HP : Hid (∀ f', f' = (f2 || !zeroT t2) → PX s a f t a2 f') := fun f' hf' => ⟨a1, f1, t2, f2, HX.out, ha1, by rw [HG.out]; exact HX2.out, hf'⟩
  clear hb3 hm2 hmw hr2 hr1 c1 HX HX2 HM HN
  obtain ⟨z, hz⟩ : ∃ z, zeroT t2 = z := ⟨_, rfl⟩
  have ye : y.toList.isEmpty = z := by rw [HY.out, hz]
  rw [hz] at HP
  clear HY hz
  cases z
  · go_wp2_with (first | (go_at_call 40; refine (fail_any r s a2 f2 _ hr3).mono ?_; rintro e w4 ⟨rfl, hr4, hm4⟩))
    go_ret
    exact ⟨t, a2, true, rfl, HP.out true (by simp), ha2, ht, hr4, hmw3.trans hm4⟩
  · go_wp2_with fail
    go_ret
    exact ⟨t, a2, f2, rfl, HP.out f2 (by simp), ha2, ht, hr3, hmw3⟩

set_option maxRecDepth 100000 in
theorem rpadS (r : Nat) (s : ByteArray) (a : Nat) (f : Bool) (w : World) (h : Rd r s a f w) (ha : a ≤ s.size) (hs : s.size ≤ 90000) :
    Calls Try.prog 64 #[.pointer (some ⟨r, 0, none⟩), .iface 113 (.agg #[.iface 95 (.agg #[.int .i64 4, .bool true])])] w fun e w' => ∃ (t t' : ByteArray) (a' : Nat) (f' : Bool), e = .returned (.string t') ∧ Hid (PX s a f t a' f') ∧ t' = (if f' = true then ⟨#[]⟩ else t) ∧ a' ≤ s.size ∧ t.size ≤ s.size ∧ Rd r s a' f' w' ∧ Mv r w w' := by
  have hmt : ∀ w : World, (method 269 113 (.agg #[.iface 95 (.agg #[.int .i64 4, .bool true])]) "loop.example/s03048/impl.take").run Try.prog w = .ok (97, .agg #[.iface 95 (.agg #[.int .i64 4, .bool true])]) w := fun _ => by kernel_rfl
  have HCh : Hid (Calls Try.prog 97 #[.agg #[.iface 95 (.agg #[.int .i64 4, .bool true])], .pointer (some ⟨r, 0, none⟩)] w fun e w' => ∃ (t : ByteArray) (a' : Nat) (f' : Bool), e = .returned (.string t) ∧ Hid (PX s a f t a' f') ∧ a' ≤ s.size ∧ t.size ≤ s.size ∧ Rd r s a' f' w' ∧ Mv r w w') := padS_take r s a f w h ha hs
  go_enter Try.func64, Try.ntmps64
  go_wp2_with (first | (go_at_call 97; refine HCh.out.mono ?_; rintro e w1 ⟨t, a', f', rfl, HX, ha', ht, hr1, hm1⟩; have c2 : w1.cell? ⟨r, 2, none⟩ = some (.bool f') := Lib.cell_of_heap hr1 2))
  · rename_i hf
    go_ret
    subst hf
    exact ⟨t, ⟨#[]⟩, a', true, rfl, HX, rfl, ha', ht, hr1, hm1⟩
  · rename_i hf
    go_ret
    refine ⟨t, t, a', f', rfl, HX, ?_, ha', ht, hr1, hm1⟩
    rw [if_neg (by simpa using hf)]

set_option maxRecDepth 100000 in
theorem whole_S (s : ByteArray) (w : World) (hs : s.size ≤ 90000) :
    Calls Try.prog 75 #[.string s, .iface 113 (.agg #[.iface 95 (.agg #[.int .i64 4, .bool true])])] w fun e w' => ∃ (t t' : ByteArray) (a' : Nat) (f' b : Bool), e = .returned (.tuple #[.string t', .bool b]) ∧ Hid (PX s 0 false t a' f') ∧ Hid (b = decide (f' = false ∧ a' = s.size)) ∧ t' = (if b = true then t else ⟨#[]⟩) ∧ a' ≤ s.size ∧ t.size ≤ s.size ∧ Below w.heap.size w w' := by
  obtain ⟨fb, hfb⟩ : ∃ fb, w.heap.size = fb := ⟨_, rfl⟩
  go_enter Try.func75, Try.ntmps75
  go_wp2_with fail
  have hr0 : Rd fb s 0 false (w.alloc (.cells #[.string s, .int .i64 0, .bool false] 52)) := by unfold Rd; rw [← hfb]; exact heap_alloc_new _ _
  refine (rpadS fb s 0 false _ hr0 (by omega) hs).mono ?_
  rintro e w1 ⟨t, t', a', f', rfl, HX, ht', ha', ht, hr1, hm1⟩
  have hbw : Below w.heap.size w w1 := ((Below.refl _ w).alloc (Nat.le_refl _) _).trans (hm1.to_below (by simp) (by omega))
  have c1 : w1.cell? ⟨fb, 1, none⟩ = some (.int .i64 (a' : Int)) := Lib.cell_of_heap hr1 1
  have c2 : w1.cell? ⟨fb, 2, none⟩ = some (.bool f') := Lib.cell_of_heap hr1 2
  clear hr1 hm1 hr0
  cases f'
  · have ht2 : t' = t := by rw [ht', if_neg (by simp)]
    subst ht2
    clear ht'
    by_cases hlt : a' < s.size
    · have z1 : decide ((a' : Int) < (s.size : Int)) = true := by simp; omega
      go_wp2_with fail
      go_ret2
      exact ⟨t', ⟨#[]⟩, a', false, false, rfl, HX, by show false = _; rw [decide_eq_false (by omega)], rfl, ha', ht, hbw⟩
    · have z1 : decide ((a' : Int) < (s.size : Int)) = false := by simp; omega
      go_wp2_with fail
      go_ret2
      exact ⟨t', t', a', false, true, rfl, HX, by show true = _; rw [decide_eq_true ⟨rfl, by omega⟩], rfl, ha', ht, hbw⟩
  · clear ht'
    go_wp2_with fail
    go_ret2
    exact ⟨t, ⟨#[]⟩, a', true, false, rfl, HX, by show false = _; rw [decide_eq_false (by simp)], rfl, ha', ht, hbw⟩
end Go.Proofs.Ytglpjoandgbngab
