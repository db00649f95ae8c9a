import Derived.Test.YtibjhkpgaaapaaaGreatDoorZkaj
import Derived.Test.YtibjhkpgaaapaaaGreatDoorZkar
import Derived.Test.YtibjhkpgaaapaaaGreatDoorZkab
import Derived.LaidEql
namespace Go.Proofs.YtibjhkpgaaapaaaGreatDoor
open Go.RowKit Go.Proofs.Sha

/-- A key's rank, as cells. -/
def rkL (k : ByteArray) : List Value := (sha k.data.toList).map B ++ [Value.string k]
theorem rkL_len (k : ByteArray) : (rkL k).length = 33 := by unfold rkL; rw [List.length_append, List.length_map]; unfold sha; rw [outTo_length]; rfl
theorem rkL_last (k : ByteArray) : (rkL k)[32]? = some (.string k) := by
  unfold rkL
  have : ((sha k.data.toList).map B).length = 32 := by rw [List.length_map]; unfold sha; rw [outTo_length]
  rw [List.getElem?_append_right (by omega), this]; rfl
/-- A rank in its block. -/
def RKb (g : Nat) (k : ByteArray) (w : World) : Prop := w.heap[g]? = some (.cells (rkL k).toArray 249)
theorem RKb.c32 {g : Nat} {k : ByteArray} {w : World} (h : RKb g k w) : w.cell? ⟨g, 32, none⟩ = some (.string k) := (Lib.cell_of_heap h 32).trans (by simpa using rkL_last k)
theorem RKb.range {g : Nat} {k : ByteArray} {w : World} (h : RKb g k w) : w.rangeAt g 0 (rkL k) := fun j u hj => (Lib.cell_of_heap h (0 + j)).trans (by simpa using hj)
set_option maxRecDepth 100000 in
theorem leftOf_any (over under key : ByteArray) (par : Option Addr) (w : World) : Calls Tryz.prog 172 #[.agg #[.string over, .string under, .pointer par], .agg (rkL key).toArray] w fun e w' => (∃ g, e = .returned (.agg #[.string over, .string key, .pointer (some ⟨g, 0, none⟩)]) ∧ w.heap.size ≤ g ∧ RKb g key w') ∧ Below w.heap.size w w' := by
  obtain ⟨W, hW⟩ : ∃ W, (w.alloc (.cells #[.string over, .string under, .pointer par] 144)).alloc (.cells (rkL key).toArray 249) = W := ⟨_, rfl⟩
  have hb : Below w.heap.size w W := by rw [← hW]; exact ((Below.refl _ _).alloc (Nat.le_refl _) _).alloc (by simp) _
  have n0 : W.heap[w.heap.size]? = some (.cells #[.string over, .string under, .pointer par] 144) := by rw [← hW, Below.heap_alloc _ _ _ (by simp)]; exact heap_alloc_new w _
  have n1 : W.heap[w.heap.size + 1]? = some (.cells (rkL key).toArray 249) := by
    have := heap_alloc_new (w.alloc (.cells #[.string over, .string under, .pointer par] 144)) (.cells (rkL key).toArray 249)
    rw [← hW]; simpa using this
  have hsz : W.heap.size = w.heap.size + 1 + 1 := by rw [← hW]; simp
  have ca : W.cell? ⟨w.heap.size, 0, none⟩ = some (.string over) := Lib.cell_of_heap n0 0
  have cb : W.cell? ⟨w.heap.size + 1, 32, none⟩ = some (.string key) := RKb.c32 n1
  have hbz : Below w.heap.size w (W.alloc (.cells #[.string over, .string key, .pointer (some ⟨w.heap.size + 1, 0, none⟩)] 144)) := hb.alloc hb.size _
  have nz : RKb (w.heap.size + 1) key (W.alloc (.cells #[.string over, .string key, .pointer (some ⟨w.heap.size + 1, 0, none⟩)] 144)) := (Below.heap_alloc W _ _ (by omega)).trans n1
  have nR := heap_alloc_new W (.cells #[.string over, .string key, .pointer (some ⟨w.heap.size + 1, 0, none⟩)] 144)
  rw [hsz] at nR
  generalize (rkL key).toArray = cs at hW n1
  obtain ⟨ga, hga⟩ : ∃ ga, w.heap.size = ga := ⟨_, rfl⟩
  go_enter Tryz.func172, Tryz.ntmps172
  rw [hga] at ca cb hsz hbz nz nR
  have q0 := Lib.cell_of_heap nR 0
  have q1 := Lib.cell_of_heap nR 1
  have q2 := Lib.cell_of_heap nR 2
  go_wp2_with fail
  exact bodyPost_ret (v := .agg #[.string over, .string key, .pointer (some ⟨ga + 1, 0, none⟩)]) (by simp [results, Tryz.results172, go_sem, q0, q1, q2]) rfl ⟨⟨ga + 1, rfl, by omega, nz⟩, by rw [hga]; exact hbz⟩
set_option maxRecDepth 100000 in
theorem rightOf_any (over under key : ByteArray) (par : Option Addr) (w : World) : Calls Tryz.prog 173 #[.agg #[.string over, .string under, .pointer par], .agg (rkL key).toArray] w fun e w' => (∃ g, e = .returned (.agg #[.string key, .string under, .pointer (some ⟨g, 0, none⟩)]) ∧ w.heap.size ≤ g ∧ RKb g key w') ∧ Below w.heap.size w w' := by
  obtain ⟨W, hW⟩ : ∃ W, (w.alloc (.cells #[.string over, .string under, .pointer par] 144)).alloc (.cells (rkL key).toArray 249) = W := ⟨_, rfl⟩
  have hb : Below w.heap.size w W := by rw [← hW]; exact ((Below.refl _ _).alloc (Nat.le_refl _) _).alloc (by simp) _
  have n0 : W.heap[w.heap.size]? = some (.cells #[.string over, .string under, .pointer par] 144) := by rw [← hW, Below.heap_alloc _ _ _ (by simp)]; exact heap_alloc_new w _
  have n1 : W.heap[w.heap.size + 1]? = some (.cells (rkL key).toArray 249) := by
    have := heap_alloc_new (w.alloc (.cells #[.string over, .string under, .pointer par] 144)) (.cells (rkL key).toArray 249)
    rw [← hW]; simpa using this
  have hsz : W.heap.size = w.heap.size + 1 + 1 := by rw [← hW]; simp
  have ca : W.cell? ⟨w.heap.size, 1, none⟩ = some (.string under) := Lib.cell_of_heap n0 1
  have cb : W.cell? ⟨w.heap.size + 1, 32, none⟩ = some (.string key) := RKb.c32 n1
  have hbz : Below w.heap.size w (W.alloc (.cells #[.string key, .string under, .pointer (some ⟨w.heap.size + 1, 0, none⟩)] 144)) := hb.alloc hb.size _
  have nz : RKb (w.heap.size + 1) key (W.alloc (.cells #[.string key, .string under, .pointer (some ⟨w.heap.size + 1, 0, none⟩)] 144)) := (Below.heap_alloc W _ _ (by omega)).trans n1
  have nR := heap_alloc_new W (.cells #[.string key, .string under, .pointer (some ⟨w.heap.size + 1, 0, none⟩)] 144)
  rw [hsz] at nR
  generalize (rkL key).toArray = cs at hW n1
  obtain ⟨ga, hga⟩ : ∃ ga, w.heap.size = ga := ⟨_, rfl⟩
  go_enter Tryz.func173, Tryz.ntmps173
  rw [hga] at ca cb hsz hbz nz nR
  have q0 := Lib.cell_of_heap nR 0
  have q1 := Lib.cell_of_heap nR 1
  have q2 := Lib.cell_of_heap nR 2
  go_wp2_with fail
  exact bodyPost_ret (v := .agg #[.string key, .string under, .pointer (some ⟨ga + 1, 0, none⟩)]) (by simp [results, Tryz.results173, go_sem, q0, q1, q2]) rfl ⟨⟨ga + 1, rfl, by omega, nz⟩, by rw [hga]; exact hbz⟩
end Go.Proofs.YtibjhkpgaaapaaaGreatDoor
namespace Go.Proofs.YtibjhkpgaaapaaaGreatDoor
open Go.RowKit Go.Proofs.Sha

theorem lessB_tri (a b : ByteArray) : lessB a b = !(lessB b a || (b.toList == a.toList)) := less_tri _ _
/-- 'canW' as the program asks it. -/
theorem canW_eq (over under lo hi : ByteArray) : canW over under lo hi = (if (!hi.toList.isEmpty && ((Op.bytesLess hi.toList lo.toList || (hi.toList == lo.toList)) || (Op.bytesLess hi.toList over.toList || (hi.toList == over.toList)))) = true then false else (under.toList.isEmpty || (!Op.bytesLess under.toList lo.toList && !(under.toList == lo.toList)))) := by
  unfold canW
  rw [lessB_tri lo hi, lessB_tri over hi, lessB_tri lo under, emp_iff, emp_iff]
  unfold lessB
  cases emp hi <;> cases emp under <;> cases Op.bytesLess hi.toList lo.toList <;> cases (hi.toList == lo.toList) <;> cases Op.bytesLess hi.toList over.toList <;> cases (hi.toList == over.toList) <;> simp
theorem hasW_eq (lo hi key : ByteArray) : hasW lo hi key = ((Op.bytesLess lo.toList key.toList || (lo.toList == key.toList)) && (hi.toList.isEmpty || Op.bytesLess key.toList hi.toList)) := by
  unfold hasW
  rw [lessB_tri key lo, emp_iff]
  unfold lessB
  simp
theorem can_any (lo hi over under : ByteArray) (par : Option Addr) (w : World) : Calls Tryz.prog 142 #[.agg #[.string lo, .string hi], .agg #[.string over, .string under, .pointer par]] w fun e w' => e = .returned (.bool (canW over under lo hi)) ∧ Below w.heap.size w w' := by
  have hb : Below w.heap.size w ((w.alloc (.cells #[.string lo, .string hi] 75)).alloc (.cells #[.string over, .string under, .pointer par] 144)) := ((Below.refl _ _).alloc (Nat.le_refl _) _).alloc (by simp) _
  have HR := canW_eq over under lo hi
  cases h1 : hi.toList.isEmpty with
  | false =>
    cases a1 : Op.bytesLess hi.toList lo.toList with
    | false =>
      cases a2 : (hi.toList == lo.toList) with
      | false =>
        cases a3 : Op.bytesLess hi.toList over.toList with
        | false =>
          cases a4 : (hi.toList == over.toList) with
          | false =>
            cases h2 : under.toList.isEmpty with
            | false =>
              rw [h1, a1, a2, a3, a4, h2] at HR
              have HR2 : Hid _ := HR
              clear HR
              go_enter Tryz.func142, Tryz.ntmps142
              go_wp2_with fail
              go_ret
              exact ⟨by rw [HR2.out]; rfl, hb⟩
            | true =>
              rw [h1, a1, a2, a3, a4, h2] at HR
              have HR2 : Hid _ := HR
              clear HR
              go_enter Tryz.func142, Tryz.ntmps142
              go_wp2_with fail
              go_ret
              exact ⟨by rw [HR2.out]; rfl, hb⟩
          | true =>
            rw [h1, a1, a2, a3, a4] at HR
            have HR2 : Hid _ := HR
            clear HR
            go_enter Tryz.func142, Tryz.ntmps142
            go_wp2_with fail
            go_ret
            exact ⟨by rw [HR2.out]; rfl, hb⟩
        | true =>
          rw [h1, a1, a2, a3] at HR
          have HR2 : Hid _ := HR
          clear HR
          go_enter Tryz.func142, Tryz.ntmps142
          go_wp2_with fail
          go_ret
          exact ⟨by rw [HR2.out]; rfl, hb⟩
      | true =>
        rw [h1, a1, a2] at HR
        have HR2 : Hid _ := HR
        clear HR
        go_enter Tryz.func142, Tryz.ntmps142
        go_wp2_with fail
        go_ret
        exact ⟨by rw [HR2.out]; rfl, hb⟩
    | true =>
      rw [h1, a1] at HR
      have HR2 : Hid _ := HR
      clear HR
      go_enter Tryz.func142, Tryz.ntmps142
      go_wp2_with fail
      go_ret
      exact ⟨by rw [HR2.out]; rfl, hb⟩
  | true =>
    cases h2 : under.toList.isEmpty with
    | false =>
      rw [h1, h2] at HR
      have HR2 : Hid _ := HR
      clear HR
      go_enter Tryz.func142, Tryz.ntmps142
      go_wp2_with fail
      go_ret
      exact ⟨by rw [HR2.out]; rfl, hb⟩
    | true =>
      rw [h1, h2] at HR
      have HR2 : Hid _ := HR
      clear HR
      go_enter Tryz.func142, Tryz.ntmps142
      go_wp2_with fail
      go_ret
      exact ⟨by rw [HR2.out]; rfl, hb⟩
theorem has_any (lo hi key : ByteArray) (w : World) : Calls Tryz.prog 101 #[.agg #[.string lo, .string hi], .string key] w fun e w' => e = .returned (.bool (hasW lo hi key)) ∧ Below w.heap.size w w' := by
  have hb : Below w.heap.size w (w.alloc (.cells #[.string lo, .string hi] 75)) := (Below.refl _ _).alloc (Nat.le_refl _) _
  have HR := hasW_eq lo hi key
  cases a1 : Op.bytesLess lo.toList key.toList with
  | false =>
    cases a2 : (lo.toList == key.toList) with
    | false =>
      rw [a1, a2] at HR
      have HR2 : Hid _ := HR
      clear HR
      go_enter Tryz.func101, Tryz.ntmps101
      go_wp2_with fail
      go_ret
      exact ⟨by rw [HR2.out]; rfl, hb⟩
    | true =>
      cases h1 : hi.toList.isEmpty with
      | false =>
        rw [a1, a2, h1] at HR
        have HR2 : Hid _ := HR
        clear HR
        go_enter Tryz.func101, Tryz.ntmps101
        go_wp2_with fail
        go_ret
        exact ⟨by rw [HR2.out]; rfl, hb⟩
      | true =>
        rw [a1, a2, h1] at HR
        have HR2 : Hid _ := HR
        clear HR
        go_enter Tryz.func101, Tryz.ntmps101
        go_wp2_with fail
        go_ret
        exact ⟨by rw [HR2.out]; rfl, hb⟩
  | true =>
    cases h1 : hi.toList.isEmpty with
    | false =>
      rw [a1, h1] at HR
      have HR2 : Hid _ := HR
      clear HR
      go_enter Tryz.func101, Tryz.ntmps101
      go_wp2_with fail
      go_ret
      exact ⟨by rw [HR2.out]; rfl, hb⟩
    | true =>
      rw [a1, h1] at HR
      have HR2 : Hid _ := HR
      clear HR
      go_enter Tryz.func101, Tryz.ntmps101
      go_wp2_with fail
      go_ret
      exact ⟨by rw [HR2.out]; rfl, hb⟩
end Go.Proofs.YtibjhkpgaaapaaaGreatDoor
namespace Go.Proofs.Sha
open Go Go.RowKit

/-- Pointers to blocks of cells, or none, are equal just where they are the same. -/
theorem run_equalIn_ptr {P : Program} (d : Nat) (t te : TypeId) (j : TypeInfo) (hu : P.underlying t = some (.pointer te)) (hj : P.info? te = some j) (hz : j.size ≠ 0) (a b : Option Addr) (w : World)
    (ha : a = none ∨ ∃ (x : Nat) (cs : Array Value) (u : TypeId), a = some ⟨x, 0, none⟩ ∧ w.heap[x]? = some (.cells cs u (0, 0))) (hb : b = none ∨ ∃ (x : Nat) (cs : Array Value) (u : TypeId), b = some ⟨x, 0, none⟩ ∧ w.heap[x]? = some (.cells cs u (0, 0))) :
    (Op.equalIn (d + 1) t (.pointer a) (.pointer b)).run P w = .ok (decide (a = b)) w := by
  rcases ha with rfl | ⟨x, cs, u, rfl, hx⟩ <;> rcases hb with rfl | ⟨y, ds, v, rfl, hy⟩
  · simp [Op.equalIn, run_underlying hu]
  · simp [Op.equalIn, run_underlying hu]
  · simp [Op.equalIn, run_underlying hu]
  · by_cases e : x = y
    · subst e
      simp [Op.equalIn, run_underlying hu, sizeOf, typeInfo, hj, run_sameAddr_same]
    · have hne : (⟨x, 0, none⟩ : Addr) ≠ ⟨y, 0, none⟩ := fun q => e (congrArg Addr.block q)
      simp [Op.equalIn, run_underlying hu, sizeOf, typeInfo, hj, hz, run_sameAddr_other w hne hx hy]
theorem run_eql_ptr {P : Program} (t te : TypeId) (j : TypeInfo) (hu : P.underlying t = some (.pointer te)) (hj : P.info? te = some j) (hz : j.size ≠ 0) (a b : Option Addr) (w : World)
    (ha : a = none ∨ ∃ (x : Nat) (cs : Array Value) (u : TypeId), a = some ⟨x, 0, none⟩ ∧ w.heap[x]? = some (.cells cs u (0, 0))) (hb : b = none ∨ ∃ (x : Nat) (cs : Array Value) (u : TypeId), b = some ⟨x, 0, none⟩ ∧ w.heap[x]? = some (.cells cs u (0, 0))) :
    (binOp .eql t (.pointer a) (.pointer b)).run P w = .ok (.bool (decide (a = b))) w := by
  have key : (Op.equal t (.pointer a) (.pointer b)).run P w = .ok (decide (a = b)) w := run_equalIn_ptr 9999 t te j hu hj hz a b w ha hb
  simp only [binOp]
  simp [key]
end Go.Proofs.Sha
