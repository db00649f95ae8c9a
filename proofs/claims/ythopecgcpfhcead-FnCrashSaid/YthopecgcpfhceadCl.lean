import Derived.Test.YthopecgcpfhceadCk
namespace Go.Proofs.Ythopecgcpfhcead
open Go.RowKit Go.Proofs.Sha

theorem u8_wf {x : Int} (h : (Lit.int .u8 x).wf = true) : 0 ≤ x ∧ x < 256 := by
  have e1 : IntKind.u8.min = 0 := rfl
  have e2 : IntKind.u8.max = 255 := rfl
  unfold Lit.wf at h
  rw [Bool.and_eq_true, decide_eq_true_eq, decide_eq_true_eq, e1, e2] at h
  omega
theorem getD_map (xs : List Int) (j : Nat) : (xs.map Int.toNat).getD j 0 = (xs.getD j 0).toNat := by
  rw [List.getD_eq_getElem?_getD, List.getD_eq_getElem?_getD, List.getElem?_map]
  cases xs[j]? <;> rfl
theorem getD_wf {xs : List Int} (hw : ∀ x ∈ xs, (Lit.int .u8 x).wf = true) (j : Nat) : 0 ≤ xs.getD j 0 ∧ xs.getD j 0 < 256 := by
  rw [List.getD_eq_getElem?_getD]
  by_cases hj : j < xs.length
  · rw [List.getElem?_eq_getElem hj]
    exact u8_wf (hw _ (List.getElem_mem hj))
  · rw [List.getElem?_eq_none (by omega)]
    exact ⟨by decide, by decide⟩

set_option maxRecDepth 100000 in
theorem law_crash_h (a : Option Addr) (xs : List Int) (c : Nat) (w : World) (_hl : xs.length ≤ maxLen) (hw : ∀ x ∈ xs, (Lit.int .u8 x).wf = true)
    (h : 0 < xs.length → ∃ b off : Nat, a = some ⟨b, off, none⟩ ∧ b < w.heap.size ∧ ∀ j, j < xs.length → w.cell? ⟨b, off + j, none⟩ = some (.int .u8 (xs.getD j 0))) :
    Calls Try.prog 5 #[.slice a xs.length c] w fun e w' => e = .returned (.bool true) ∧ Below w.heap.size w w' := by
  by_cases g1 : 1048576 < xs.length
  · have z1 : decide ((1048576 : Int) < (xs.length : Int)) = true := by simp; omega
    clear hw h
    go_enter Try.func5, Try.ntmps5
    go_wp2_with fail
    go_ret
    exact ⟨rfl, Below.refl _ _⟩
  have hlen : (xs.map Int.toNat).length = xs.length := List.length_map _
  have hX : Code8 (xs.map Int.toNat) := ⟨by rw [hlen]; omega, fun j => by rw [getD_map]; have := getD_wf hw j; omega⟩
  have hB : BL a (xs.map Int.toNat) w := by
    refine ⟨fun hp => ?_⟩
    rw [hlen] at hp
    obtain ⟨b, off, ha, hlt, hc⟩ := h hp
    refine ⟨b, off, ha, hlt, fun j hj => ?_⟩
    rw [hlen] at hj
    rw [hc j hj, getD_map, Int.toNat_of_nonneg (getD_wf hw j).1]
  have := law_crash a (xs.map Int.toNat) c w hX hB
  rw [hlen] at this
  exact this
end Go.Proofs.Ythopecgcpfhcead
