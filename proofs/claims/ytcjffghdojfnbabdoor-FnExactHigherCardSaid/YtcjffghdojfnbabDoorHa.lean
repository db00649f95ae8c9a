/-
  Arrays of bytes compared; a struct boxed; the order of texts.
-/
import Derived.Test.YtcjffghdojfnbabDoorQ
import Derived.ChangeKeysEq
namespace Go.Proofs.Sha
open Go Go.RowKit

section
variable {P : Program} (w : World)

theorem eqItems_b (dp : Nat) (X Y : List UInt8) (e : TypeId) (he : P.underlying e = some (.int .u8)) (hc : P.cellsOf e = 1) (n : Nat) (hX : X.length = n) (hY : Y.length = n) : ∀ is : List Nat, (∀ i ∈ is, i < n) →
    ∃ r : Bool, (Op.eqItems (dp + 1) e (P.cellsOf e) (X.map B).toArray (Y.map B).toArray is).run P w = .ok r w ∧ (r = true ↔ ∀ i ∈ is, X.getD i 0 = Y.getD i 0)
  | [], _ => ⟨true, by simp [Op.eqItems], by simp⟩
  | i :: is, h => by
    obtain ⟨r, hr, hiff⟩ := eqItems_b dp X Y e he hc n hX hY is (fun j hj => h j (List.mem_cons_of_mem _ hj))
    have hi : i < n := h i (List.mem_cons_self ..)
    have hagg : (isAgg e).run P w = .ok false w := by
      unfold isAgg
      rw [Sem.run_bind, run_underlying he w]; rfl
    have hpart : ∀ L : List UInt8, L.length = n → (part e (L.map B).toArray (i * P.cellsOf e)).run P w = .ok (.int .u8 ((L.getD i 0).toNat : Int)) w := fun L hL => by
      unfold part
      rw [Sem.run_bind, hagg, hc, Nat.mul_one]
      have : (L.map B).toArray[i]? = some (.int .u8 ((L.getD i 0).toNat : Int)) := by
        rw [List.getElem?_toArray, List.getElem?_map, List.getD_eq_getElem?_getD, List.getElem?_eq_getElem (by omega)]; rfl
      rw [this]; rfl
    have heq : ∀ a b : Int, (Op.equalIn (dp + 1) e (.int .u8 a) (.int .u8 b)).run P w = .ok (a == b) w := fun a b => by
      simp [Op.equalIn, run_underlying he]
    have hne : ∀ a b : UInt8, ((a.toNat : Int) == (b.toNat : Int)) = decide (a = b) := fun a b => by
      rw [Bool.eq_iff_iff]
      simp only [beq_iff_eq, decide_eq_true_eq]
      exact ⟨fun h => UInt8.toNat_inj.1 (by omega), fun h => by rw [h]⟩
    rw [Op.eqItems]
    simp only [Sem.run_bind, hpart X hX, hpart Y hY, heq, hne, Result.andThen_ok]
    by_cases hxy : X.getD i 0 = Y.getD i 0
    · refine ⟨r, by rw [decide_eq_true hxy]; simpa using hr, ?_⟩
      rw [hiff]
      exact ⟨fun g j hj => by rcases List.mem_cons.1 hj with rfl | hj; exact hxy; exact g j hj, fun g j hj => g j (List.mem_cons_of_mem _ hj)⟩
    · refine ⟨false, by rw [decide_eq_false hxy]; simp, ?_⟩
      exact ⟨fun h => (by cases h), fun g => absurd (g i (List.mem_cons_self ..)) hxy⟩

theorem run_eql_b (X Y : List UInt8) (t e : TypeId) (n : Nat) (i : TypeInfo) (hu : P.underlying t = some (.array n e)) (he : P.underlying e = some (.int .u8)) (hi : P.info? e = some i) (hc : P.cellsOf e = 1) (hX : X.length = n) (hY : Y.length = n) :
    (binOp .eql t (.agg (X.map B).toArray) (.agg (Y.map B).toArray)).run P w = .ok (.bool (decide (X = Y))) w := by
  obtain ⟨r, hr, hiff⟩ := eqItems_b w 9998 X Y e he hc n hX hY (List.range n) (fun j hj => List.mem_range.1 hj)
  rw [run_eql_struct, run_equalIn_array w 9999 _ _ hu hi, hr]
  have : r = decide (X = Y) := by
    rw [Bool.eq_iff_iff, hiff, decide_eq_true_eq]
    constructor
    · intro g
      apply List.ext_getElem (by omega)
      intro j h1 h2
      have := g j (List.mem_range.2 (by omega))
      simpa [List.getD_eq_getElem?_getD, List.getElem?_eq_getElem h1, List.getElem?_eq_getElem h2] using this
    · intro e j _; rw [e]
  rw [this]; rfl
end

/-- The order of texts, from place i on. -/
theorem less_eq (p q : List UInt8) (i : Nat) (h1 : i < p.length) (h2 : i < q.length) (he : p.getD i 0 = q.getD i 0) : Op.bytesLess (p.drop i) (q.drop i) = Op.bytesLess (p.drop (i + 1)) (q.drop (i + 1)) := by
  rw [List.drop_eq_getElem_cons h1, List.drop_eq_getElem_cons h2, Op.bytesLess]
  have e1 : p[i] = q[i] := by simpa [List.getD_eq_getElem?_getD, List.getElem?_eq_getElem h1, List.getElem?_eq_getElem h2] using he
  rw [e1]; simp
theorem less_ne (p q : List UInt8) (i : Nat) (h1 : i < p.length) (h2 : i < q.length) (he : p.getD i 0 ≠ q.getD i 0) : Op.bytesLess (p.drop i) (q.drop i) = decide (((p.getD i 0).toNat : Int) < ((q.getD i 0).toNat : Int)) := by
  rw [List.drop_eq_getElem_cons h1, List.drop_eq_getElem_cons h2, Op.bytesLess]
  have e1 : p.getD i 0 = p[i] := by simp [List.getD_eq_getElem?_getD, List.getElem?_eq_getElem h1]
  have e2 : q.getD i 0 = q[i] := by simp [List.getD_eq_getElem?_getD, List.getElem?_eq_getElem h2]
  rw [e1, e2] at he
  rw [e1, e2]
  have e3 : (p[i] == q[i]) = false := by rw [beq_eq_false_iff_ne]; exact he
  rw [e3, Bool.false_and, Bool.or_false]
  rw [Bool.eq_iff_iff]; simp [UInt8.lt_iff_toNat_lt]
theorem less_end (p q : List UInt8) (i : Nat) (h : p.length ≤ i ∨ q.length ≤ i) (hi : i ≤ p.length) (hj : i ≤ q.length) : Op.bytesLess (p.drop i) (q.drop i) = decide ((p.length : Int) < (q.length : Int)) := by
  rcases Nat.lt_or_ge i q.length with hq | hq
  · have : p.drop i = [] := List.drop_of_length_le (by omega)
    rw [this, List.drop_eq_getElem_cons hq, Op.bytesLess]
    symm; simp; omega
  · have : q.drop i = [] := List.drop_of_length_le hq
    rw [this, Op.bytesLess]
    symm; simp; omega

end Go.Proofs.Sha
