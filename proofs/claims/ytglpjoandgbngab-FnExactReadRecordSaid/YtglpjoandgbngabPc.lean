import Derived.Test.YtglpjoandgbngabPb
namespace Go.Proofs.Ytglpjoandgbngab
open Go.RowKit Go.Proofs.Sha

def gap (n : Nat) : Nat := (n + 62) / 63 * 63 - n
def pad63 (l : List UInt8) : List UInt8 := l ++ List.replicate (gap l.length) 0
theorem gap_lt (n : Nat) : gap n < 63 := by unfold gap; omega
theorem pad63_length (l : List UInt8) : (pad63 l).length = l.length + gap l.length := by rw [pad63, List.length_append, List.length_replicate]

theorem missing_any (n : Nat) (w : World) (hn : n ≤ 100000) :
    Calls Try.prog 99 #[.int .i64 (n : Int)] w fun e w' => e = .returned (.int .i64 (gap n : Int)) ∧ w = w' := by
  go_enter Try.func99, Try.ntmps99
  go_wp2
  go_ret
  exact ⟨congrArg Ending.returned (congrArg (Value.int .i64) (by unfold gap; omega)), rfl⟩

theorem repeatL_zero (n : Nat) : Lib.repeatL [0] n = List.replicate n 0 := by
  induction n with
  | zero => rfl
  | succ n ih => rw [Lib.repeatL, ih]; rfl
theorem repeat_any (n : Nat) (w : World) (hn : n ≤ 63) :
    Calls Try.prog 98 #[.string ⟨#[0]⟩, .int .i64 (n : Int)] w fun e w' => ∃ t : ByteArray, e = .returned (.string t) ∧ t.size = n ∧ Hid (t.data.toList = List.replicate n 0) ∧ Below w.heap.size w w' := by
  refine (Try.strings_Repeat ⟨#[0]⟩ n w (by omega) (by show 1 * n ≤ _; omega)).mono ?_
  rintro e w' ⟨rfl, hb⟩
  have e1 : Lib.repeatL (⟨#[0]⟩ : ByteArray).data.toList n = List.replicate n 0 := repeatL_zero n
  refine ⟨_, rfl, ?_, ?_, hb⟩
  · show ((Lib.repeatL (⟨#[0]⟩ : ByteArray).data.toList n).toArray).size = n
    rw [e1]; simp
  · show ((Lib.repeatL (⟨#[0]⟩ : ByteArray).data.toList n).toArray).toList = _
    rw [e1]
theorem len_any (b : Nat) (l : List UInt8) (w : World) (h : Bld b l w) :
    Calls Try.prog 100 #[.pointer (some ⟨b, 0, none⟩)] w fun e w' => e = .returned (.int .i64 (l.length : Int)) ∧ w = w' := by
  refine (Try.Builder_Len_f b b _ w h).mono ?_
  rintro e w' ⟨rfl, rfl⟩
  rw [Lib.byteCells_length]
  exact ⟨rfl, rfl⟩

set_option maxRecDepth 100000 in
set_option maxHeartbeats 1000000 in
theorem padS_put (z : Nat) (low : Bool) (b : Nat) (s : ByteArray) (l : List UInt8) (w : World) (hz : 0 < z) (hz4 : z ≤ 7) (h : Bld b l w) (hl : l.length + s.size ≤ 70000) :
    Calls Try.prog 96 #[.agg #[.iface 95 (.agg #[.int .i64 (z : Int), .bool low])], .pointer (some ⟨b, 0, none⟩), .string s] w fun e w' => e = .returned (.tuple #[]) ∧ Put b (pad63 (l ++ numTo z low s.size z ++ s.data.toList)) w w' := by
  obtain ⟨m, hm⟩ : ∃ m, l ++ numTo z low s.size z ++ s.data.toList = m := ⟨_, rfl⟩
  have hm2 : m.length ≤ 71000 := by rw [← hm, List.length_append, List.length_append, numTo_length]; show l.length + z + s.size ≤ _; omega
  have HW : Hid (∀ w', Bld b l w' → Calls Try.prog 61 #[.pointer (some ⟨b, 0, none⟩), .iface 95 (.agg #[.int .i64 (z : Int), .bool low]), .string s] w' fun e w'' => e = .returned (.tuple #[]) ∧ Put b m w' w'') := by
    intro w' h'
    have := wsized z low b s l w' hz hz4 h' (by omega)
    rw [hm] at this
    exact this
  rw [hm]
  clear hm
  obtain ⟨g, hg⟩ : ∃ g, gap m.length = g := ⟨_, rfl⟩
  have g63 : g < 63 := by rw [← hg]; exact gap_lt _
  have HM : Hid (∀ w', Calls Try.prog 99 #[.int .i64 (m.length : Int)] w' fun e w'' => e = .returned (.int .i64 (g : Int)) ∧ w' = w'') := by
    intro w'
    rw [← hg]
    exact missing_any _ _ (by omega)
  have HP : Hid (pad63 m = m ++ List.replicate g 0) := by show _ = _; rw [← hg]; rfl
  obtain ⟨q, hq⟩ : ∃ q, pad63 m = q := ⟨_, rfl⟩
  rw [hq] at HP ⊢
  clear hg hq
  go_enter Try.func96, Try.ntmps96
  go_wp2_with (first | (go_at_call 61; refine (HW.out _ (h.alloc _)).mono ?_; rintro e w2 ⟨rfl, hp2⟩) | (go_at_call 100; refine (len_any b m _ hp2.1).mono ?_; rintro e w3 ⟨rfl, rfl⟩) | (go_at_call 99; refine (HM.out _).mono ?_; rintro e w4 ⟨rfl, rfl⟩) | (go_at_call 98; refine (repeat_any g _ (by omega)).mono ?_; rintro e w5 ⟨t, rfl, ht, HT, hb5⟩) | (go_at_call 73; refine (ws_any b m t _ (hp2.1.below hb5) (by omega)).mono ?_; rintro e w6 ⟨rfl, hp6⟩))
  go_end0
  refine ⟨rfl, ?_⟩
  rw [HT.out, ← HP.out] at hp6
  exact (((Put.refl h).alloc _).trans (hp2.below hb5)).trans hp6
end Go.Proofs.Ytglpjoandgbngab
