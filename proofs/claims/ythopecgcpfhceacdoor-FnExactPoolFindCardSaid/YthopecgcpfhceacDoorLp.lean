import Derived.ProofKit
import Derived.OpenShut
import Derived.ChangeSlices
import Derived.Deep.Strs
import Derived.Lib.SmallJoins
namespace Go.Proofs.Pools
open Go Go.ChangeShapes Go.WideShapes Go.ChangeAt Go.RowKit

/-- A struct of a number and a slice of texts that is handed in: what it holds, and that it reads so in every world in which what was there is as it was. -/
theorem open_pool {P : Program} {H : Type} {enc : TypeId × Value → H} {W : World} {b0 : Nat} {t e : TypeId} {f0 f1 : Field} {v : Value} {d : DataW H} {p : List MemPlace} (hs : P.underlying t = some (.struct #[f0, f1])) (hone : Go.Deep.oneCellFields P #[f0, f1] = true) (hC : P.cellsOf t = 2)
    (h0 : P.underlying f0.type = some (.int .i64)) (ht : P.underlying f1.type = some (.slice e)) (he : P.underlying e = some .string) (hc : P.cellsOf e = 1)
    (hv : Value.okWide P W .any b0 t v) (h : DataW.Trod enc P W 0 (fun _ => true) true t v d p) :
    ∃ (n : Int) (a : Option Addr) (c : Nat) (ss : List ByteArray), v = .agg #[.int .i64 n, .slice a ss.length c] ∧ ss.length ≤ maxLen ∧ (∀ j, (ss.getD j ⟨#[]⟩).size ≤ maxLen) ∧
      (0 < ss.length → ∃ b off : Nat, a = some ⟨b, off, none⟩ ∧ b < W.heap.size ∧ ∀ j, j < ss.length → W.cell? ⟨b, off + j, none⟩ = some (.string (ss.getD j ⟨#[]⟩))) ∧
      (∀ W' : World, Below W.heap.size W W' → DataW.Trod enc P W' 0 (fun b => decide (b < W.heap.size)) true t v d p) := by
  obtain ⟨v0, v1, y0, y1, m, rfl, rfl, rfl, hy0, hy1⟩ := Joins.open_agg2 hs hone hC hv h
  obtain ⟨n, e0, rfl, wn⟩ := DataW.trod_int h0 hy0
  simp only [List.cons.injEq, and_true] at e0
  subst e0
  rcases Deep.open_strs ht he hc hy1 with ⟨hc0, rfl⟩ | ⟨a, len, cap, q, Sx, hcs, _, hl, hm, hq, rfl, hx⟩
  · simp only [List.cons.injEq, and_true] at hc0
    subst hc0
    refine ⟨n, none, 0, [], rfl, Nat.zero_le _, fun _ => Nat.zero_le _, fun hx => absurd hx (Nat.lt_irrefl 0), fun W' _ => ?_⟩
    exact Joins.shut_agg2 hs hone hC (shut_int h0 wn) (shut_slice_nil ht)
  · simp only [List.cons.injEq, and_true] at hcs
    subst hcs
    simp only [if_true] at hq
    subst hq
    obtain ⟨b, off, spot⟩ := a
    have hcells : 0 < q → spot = none ∧ b < W.heap.size := fun h => by
      have h1 := (hx 0 (by omega)).1
      have hsp : spot = none := by simpa [Addr.add] using World.cell?_spot h1
      subst hsp
      rw [add_plain] at h1
      exact ⟨rfl, World.block_lt_of_cell? _ _ h1⟩
    have hlen : ((List.range len).map Sx).length = len := by rw [List.length_map, List.length_range]
    have hget : ∀ j, j < len → ((List.range len).map Sx).getD j ⟨#[]⟩ = Sx j := fun j hj => by
      rw [List.getD_eq_getElem?_getD, List.getElem?_map, List.getElem?_range hj]
      rfl
    refine ⟨n, some ⟨b, off, spot⟩, q, (List.range len).map Sx, by rw [hlen], by rw [hlen]; omega, fun j => ?_, fun hpos => ?_, fun W' hb => ?_⟩
    · by_cases hj : j < len
      · rw [hget j hj]; exact (hx j (by omega)).2
      · rw [List.getD_eq_getElem?_getD, List.getElem?_eq_none (by rw [hlen]; omega)]; exact Nat.zero_le _
    · rw [hlen] at hpos
      obtain ⟨rfl, hlt⟩ := hcells (by omega)
      refine ⟨b, off, rfl, hlt, fun j hj => ?_⟩
      rw [hlen] at hj
      rw [hget j hj, ← add_plain]
      exact (hx j (by omega)).1
    · refine Joins.shut_agg2 hs hone hC (shut_int h0 wn) ?_
      by_cases h0 : 0 < q
      · obtain ⟨rfl, hlt⟩ := hcells h0
        refine Deep.shut_strs_whole ht he hc (Nat.zero_le _) hl hm (by simpa using hlt) Sx (fun i hi => ?_) (fun i hi => (hx i hi).2)
        rw [hb.cell hlt, ← add_plain]
        exact (hx i hi).1
      · obtain rfl : q = 0 := by omega
        obtain rfl : len = 0 := by omega
        by_cases hlt : b < W.heap.size
        · have := Deep.shut_slice_whole_cells (enc := enc) (w := W') (base := 0) (spare := fun b => decide (b < W.heap.size)) (held := true) (a := ⟨b, off, spot⟩) (len := 0) (cap := 0) ht (Nat.zero_le _) hl hm (by simpa using hlt) (fun i => .lit (.string (Sx i).data.toList)) (fun _ => []) (fun i hi => absurd hi (Nat.not_lt_zero i))
          rwa [hc, Nat.mul_one, Deep.flatMap_nils, List.append_nil] at this
        · have := Deep.shut_slice_cells (enc := enc) (w := W') (base := 0) (spare := fun b => decide (b < W.heap.size)) (held := true) (a := ⟨b, off, spot⟩) (len := 0) (cap := 0) ht (Nat.zero_le _) hl hm (by simpa using hlt) (fun i => .lit (.string (Sx i).data.toList)) (fun _ => []) (fun i hi => absurd hi (Nat.not_lt_zero i))
          rwa [hc, Nat.mul_one, Deep.flatMap_nils, List.append_nil] at this
end Go.Proofs.Pools
