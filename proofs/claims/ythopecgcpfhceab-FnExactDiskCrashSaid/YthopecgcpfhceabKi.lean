import Derived.Test.YthopecgcpfhceabKg
import Derived.Test.YthopecgcpfhceabKh
import Derived.Test.YthopecgcpfhceabYa
namespace Go.Proofs.Ythopecgcpfhceab
open Go.RowKit Go.Proofs.Sha Go.Proofs.Disk

/-- A slice of numbers that was handed in. -/
structure IArg (a : Option Addr) (xs : List Int) (w : World) : Prop where
  le : xs.length ≤ 1048576
  at_ : 0 < xs.length → ∃ b off : Nat, a = some ⟨b, off, none⟩ ∧ b < w.heap.size ∧ ∀ j, j < xs.length → w.cell? ⟨b, off + j, none⟩ = some (.int .i64 (xs.getD j 0))
theorem IArg.below {a : Option Addr} {xs : List Int} {w w' : World} (h : IArg a xs w) (hb : Below w.heap.size w w') : IArg a xs w' := by
  refine ⟨h.le, fun hn => ?_⟩
  obtain ⟨b, off, ha, hlt, hc⟩ := h.at_ hn
  exact ⟨b, off, ha, Nat.lt_of_lt_of_le hlt hb.size, fun j hj => (hb.cell hlt).trans (hc j hj)⟩

set_option maxRecDepth 100000 in
theorem kept_any (st now : ByteArray) (cap : Int) (a : Option Addr) (xs : List Int) (c : Nat) (i : Nat) (w : World) (h : IArg a xs w) (h1 : st.size ≤ i) (h2 : i ≤ 1048576) :
    Calls Try.prog 30 #[.agg #[.string st, .string now, .int .i64 cap], .slice a xs.length c, .int .i64 (i : Int)] w fun e w' => e = .returned (.bool (keptB st.size xs i)) ∧ Below w.heap.size w w' := by
  have hfin : Below w.heap.size w (w.alloc (.cells #[.string st, .string now, .int .i64 cap] 33)) := (Below.refl _ _).alloc (Nat.le_refl _) _
  have hn := h.le
  obtain ⟨p, hp⟩ : ∃ p, i / 64 = p := ⟨_, rfl⟩
  obtain ⟨q, hq⟩ : ∃ q, st.size / 64 = q := ⟨_, rfl⟩
  have u1 : (i : Int) / 64 = (p : Int) := by omega
  have u2 : (st.size : Int) / 64 = (q : Int) := by omega
  have hqp : q ≤ p := by omega
  have u3 : IntKind.i64.wrap ((p : Int) - (q : Int)) = ((p - q : Nat) : Int) := by rw [wrap_i64_in _ (by omega) (by omega)]; omega
  have u3' : (p : Int) - (q : Int) = ((p - q : Nat) : Int) := by omega
  obtain ⟨j, hj⟩ : ∃ j, p - q = j := ⟨_, rfl⟩
  have u4 : (p : Int) - (q : Int) = (j : Int) := by omega
  rw [hj] at u3
  have HK : Hid (keptB st.size xs i = (decide (j < xs.length) && decide (((i - max (p * 64) st.size : Nat) : Int) < xs.getD j 0))) := by
    show keptB _ _ _ = _
    unfold keptB; rw [hp, hq, hj]
  have hpi : p * 64 ≤ i := by omega
  clear hp hq u3'
  by_cases hl : j < xs.length
  · have z1 : decide ((xs.length : Int) ≤ (j : Int)) = false := by simp; omega
    obtain ⟨b, off, rfl, hlt, hc⟩ := h.at_ (by omega)
    have hcj := (hfin.cell hlt).trans (hc j hl)
    have hxi : ∃ x, xs.getD j 0 = x := ⟨_, rfl⟩
    obtain ⟨x, hx⟩ := hxi
    rw [hx] at hcj
    by_cases hb : p * 64 < st.size
    · have z2 : decide ((p : Int) * 64 < (st.size : Int)) = true := by simp; omega
      have hr : keptB st.size xs i = decide ((i : Int) - (st.size : Int) < x) := by
        rw [HK.out, decide_eq_true hl, Bool.true_and, hx, show max (p * 64) st.size = st.size by omega, show ((i - st.size : Nat) : Int) = (i : Int) - (st.size : Int) by omega]
      rw [hr]
      clear hr HK hx
      go_enter Try.func30, Try.ntmps30
      go_wp2_with fail
      go_ret
      exact ⟨rfl, hfin⟩
    · have z2 : decide ((p : Int) * 64 < (st.size : Int)) = false := by simp; omega
      have hr : keptB st.size xs i = decide ((i : Int) - (p : Int) * 64 < x) := by
        rw [HK.out, decide_eq_true hl, Bool.true_and, hx, show max (p * 64) st.size = p * 64 by omega, show ((i - p * 64 : Nat) : Int) = (i : Int) - (p : Int) * 64 by omega]
      rw [hr]
      clear hr HK hx
      go_enter Try.func30, Try.ntmps30
      go_wp2_with fail
      go_ret
      exact ⟨rfl, hfin⟩
  · have z1 : decide ((xs.length : Int) ≤ (j : Int)) = true := by simp; omega
    have hr : keptB st.size xs i = false := by rw [HK.out, decide_eq_false hl, Bool.false_and]
    rw [hr]
    clear hr HK
    go_enter Try.func30, Try.ntmps30
    go_wp2_with fail
    go_ret
    exact ⟨rfl, hfin⟩
end Go.Proofs.Ythopecgcpfhceab
