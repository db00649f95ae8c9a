import Derived.Test.YthopecgcpfhceadEa
namespace Go.Proofs.Ythopecgcpfhcead
open Go.RowKit Go.Proofs.Sha

theorem sized_b (s : ByteArray) (_hs : s.size ≤ 2097152) (hs' : s.size ≤ 1048576) (w : World) :
    Calls Try.prog 45 #[.string s] w fun e w' => ∃ t : ByteArray, e = .returned (.string t) ∧ t.size ≤ s.size + 2 ∧ Hid (t = T (sized s.data.toList)) ∧ Below w.heap.size w w' := by
  have := sized_any s.data.toList hs' w
  rw [T_of] at this
  exact this.mono fun e w' ⟨he, hb⟩ => ⟨_, he, Nat.le_refl _, rfl, hb⟩

def flagOf (l r : Nat) : Nat := (if l = 0 then 0 else 1) + (if r = 0 then 0 else 2)
def encL (k v l r : List UInt8) : List UInt8 := sized k ++ sized v ++ [UInt8.ofNat (flagOf l.length r.length)] ++ l ++ r

set_option maxRecDepth 100000 in
set_option maxHeartbeats 400000 in
theorem enc_no (k v l r : ByteArray) (n : Int) (w : World) (hk : k.size ≤ 1048576) (hv : v.size ≤ 1048576) (hl : l.size ≤ 1048576) (hr : r.size ≤ 1048576) (hok : nodeOk k.size v.size l.size r.size n = false) :
    Calls Try.prog 23 #[.agg #[.string k, .string v, .string l, .string r], .int .i64 n] w fun e w' => e = .returned (.string ⟨#[]⟩) ∧ Below w.heap.size w w' := by
  have HC : Hid (∀ w', Calls Try.prog 44 #[.agg #[.string k, .string v, .string l, .string r], .int .i64 n] w' fun e w'' => e = .returned (.bool false) ∧ Below w'.heap.size w' w'') := fun w' => by
    have := nodeOk_any k v l r n w' hk hv hl hr
    rw [hok] at this; exact this
  clear hok
  go_enter Try.func23, Try.ntmps23
  go_wp2_with fail
  refine (HC.out _).mono ?_
  rintro e w1 ⟨rfl, hb1⟩
  go_wp2
  go_ret
  exact ⟨rfl, ((Below.refl _ _).alloc (Nat.le_refl _) _).trans (hb1.mono (by simp))⟩

set_option maxRecDepth 100000 in
set_option maxHeartbeats 800000 in
theorem enc_yes (k v l r : ByteArray) (n : Int) (w : World) (hk : k.size ≤ 1048576) (hv : v.size ≤ 1048576) (hl : l.size ≤ 1048576) (hr : r.size ≤ 1048576) (hok : nodeOk k.size v.size l.size r.size n = true) :
    Calls Try.prog 23 #[.agg #[.string k, .string v, .string l, .string r], .int .i64 n] w fun e w' => e = .returned (.string (T (encL k.data.toList v.data.toList l.data.toList r.data.toList))) ∧ Below w.heap.size w w' := by
  have HC : Hid (∀ w', Calls Try.prog 44 #[.agg #[.string k, .string v, .string l, .string r], .int .i64 n] w' fun e w'' => e = .returned (.bool true) ∧ Below w'.heap.size w' w'') := fun w' => by
    have := nodeOk_any k v l r n w' hk hv hl hr
    rw [hok] at this; exact this
  clear hok
  by_cases h1 : l.size = 0
  all_goals by_cases h2 : r.size = 0
  all_goals
    have HF : Hid (flagOf l.data.toList.length r.data.toList.length = flagOf l.size r.size) := rfl
    have H12 : Hid ((l.size = 0 ↔ ¬ 0 < l.size) ∧ (r.size = 0 ↔ ¬ 0 < r.size)) := ⟨by omega, by omega⟩
    go_enter Try.func23, Try.ntmps23
    go_wp2_with fail
    refine (HC.out _).mono ?_
    rintro e w1 ⟨rfl, hb1⟩
    have hs1 : w.heap.size < w1.heap.size := by have := hb1.size; simp at this; omega
    have c0 : w1.cell? ⟨w.heap.size, 0, none⟩ = some (.string k) := (hb1.cell (by simp)).trans (by simp)
    have c1 : w1.cell? ⟨w.heap.size, 1, none⟩ = some (.string v) := (hb1.cell (by simp)).trans (by simp)
    have c2 : w1.cell? ⟨w.heap.size, 2, none⟩ = some (.string l) := (hb1.cell (by simp)).trans (by simp)
    have c3 : w1.cell? ⟨w.heap.size, 3, none⟩ = some (.string r) := (hb1.cell (by simp)).trans (by simp)
    have hbw : Below w.heap.size w w1 := ((Below.refl _ _).alloc (Nat.le_refl _) _).trans (hb1.mono (by simp))
    clear hb1
    go_wp2_with fail
    go_region_held3 (fun w' => w.heap.size < w'.heap.size ∧ w'.cell? ⟨w.heap.size, 0, none⟩ = some (.string k) ∧ w'.cell? ⟨w.heap.size, 1, none⟩ = some (.string v) ∧ w'.cell? ⟨w.heap.size, 2, none⟩ = some (.string l) ∧ w'.cell? ⟨w.heap.size, 3, none⟩ = some (.string r))
      (first | exact ⟨hs1, c0, c1, c2, c3⟩ | (go_split_ands; refine ⟨Nat.lt_of_lt_of_le (by assumption) hbC.size, ?_, ?_, ?_, ?_⟩ <;> (rw [hbC.cell (by assumption)]; assumption)) | (go_split_ands; refine ⟨Nat.lt_of_lt_of_le (by assumption) hbB.size, ?_, ?_, ?_, ?_⟩ <;> (rw [hbB.cell (by assumption)]; assumption)) | (go_split_ands; refine ⟨Nat.lt_of_lt_of_le (by assumption) hbA.size, ?_, ?_, ?_, ?_⟩ <;> (rw [hbA.cell (by assumption)]; assumption)))
      (first | (go_at_call_of 45 (Value.string k); refine (sized_b k (by omega) hk _).mono ?_; rintro e wA ⟨tA, rfl, zA, HA, hbA⟩) | (go_at_call_of 45 (Value.string v); refine (sized_b v (by omega) hv _).mono ?_; rintro e wB ⟨tB, rfl, zB, HB, hbB⟩; have fB : ¬ (9223372036854775807 < tA.size + tB.size) := (by omega)) | (go_at_call 46; refine (byte_i _ (by omega) (by omega) _).mono ?_; rintro e wC ⟨tC, rfl, zC, HCC, hbC⟩; have fC : ¬ (9223372036854775807 < tA.size + tB.size + tC.size) := (by omega); have fD : ¬ (9223372036854775807 < tA.size + tB.size + tC.size + l.size) := (by omega); have fE : ¬ (9223372036854775807 < tA.size + tB.size + tC.size + l.size + r.size) := (by omega); have fF : ¬ (9223372036854775807 < tA.size + tB.size + tC.size + r.size) := (by omega)))
    go_wp2
    go_ret
    refine ⟨congrArg (fun z => Ending.returned (.string z)) ?_, ?_⟩
    · show tA ++ tB ++ tC ++ l ++ r = _
      rw [HA.out, HB.out, HCC.out, byteS_T]
      conv => lhs; rw [← T_of l, ← T_of r]
      rw [T_append, T_append, T_append, T_append]
      unfold encL
      rw [HF.out]
      unfold flagOf
      simp [h1, h2]
    · exact hbw.trans ((((Below.refl _ w1).drew.trans hbA).trans (hbB.mono hbA.size)).trans (hbC.mono (Nat.le_trans hbA.size hbB.size)) |>.mono (Nat.le_of_lt hs1))
end Go.Proofs.Ythopecgcpfhcead
