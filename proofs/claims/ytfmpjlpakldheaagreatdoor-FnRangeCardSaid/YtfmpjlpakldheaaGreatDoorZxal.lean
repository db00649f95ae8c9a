import Derived.Test.YtfmpjlpakldheaaGreatDoorZxak
import Derived.Test.YtfmpjlpakldheaaGreatDoorZxaj
import Derived.Laws.MakeOwn
import Derived.Laws.OwnMore
import Derived.Deep.QuietTactic
import Derived.BigQuiet
namespace Go.Proofs.YtfmpjlpakldheaaGreatDoor
open Go.RowKit Go.Proofs.Sha

/-- A key's rank, as cells. -/
def rkL (k : ByteArray) : List Value := (sha k.data.toList).map B ++ [Value.string k]
theorem rkL_len (k : ByteArray) : (rkL k).length = 33 := by unfold rkL; rw [List.length_append, List.length_map]; unfold sha; rw [outTo_length]; rfl
theorem rkL_last (k : ByteArray) : (rkL k)[32]? = some (.string k) := by
  unfold rkL
  have : ((sha k.data.toList).map B).length = 32 := by rw [List.length_map]; unfold sha; rw [outTo_length]
  rw [List.getElem?_append_right (by omega), this]; rfl
/-- A rank in its block. -/
def RKb (g : Nat) (k : ByteArray) (w : World) : Prop := w.heap[g]? = some (.cells (rkL k).toArray 131)
theorem RKb.c32 {g : Nat} {k : ByteArray} {w : World} (h : RKb g k w) : w.cell? ⟨g, 32, none⟩ = some (.string k) := (Lib.cell_of_heap h 32).trans (by simpa using rkL_last k)
theorem RKb.range {g : Nat} {k : ByteArray} {w : World} (h : RKb g k w) : w.rangeAt g 0 (rkL k) := fun j u hj => (Lib.cell_of_heap h (0 + j)).trans (by simpa using hj)
set_option maxRecDepth 100000 in
theorem leftOf_any (over under key : ByteArray) (par : Option Addr) (w : World) : Calls Tryz.prog 182 #[.agg #[.string over, .string under, .pointer par], .agg (rkL key).toArray] w fun e w' => (∃ g, e = .returned (.agg #[.string over, .string key, .pointer (some ⟨g, 0, none⟩)]) ∧ w.heap.size ≤ g ∧ RKb g key w') ∧ Below w.heap.size w w' := by
  obtain ⟨W, hW⟩ : ∃ W, (w.alloc (.cells #[.string over, .string under, .pointer par] 164)).alloc (.cells (rkL key).toArray 131) = W := ⟨_, rfl⟩
  have hb : Below w.heap.size w W := by rw [← hW]; exact ((Below.refl _ _).alloc (Nat.le_refl _) _).alloc (by simp) _
  have n0 : W.heap[w.heap.size]? = some (.cells #[.string over, .string under, .pointer par] 164) := by rw [← hW, Below.heap_alloc _ _ _ (by simp)]; exact heap_alloc_new w _
  have n1 : W.heap[w.heap.size + 1]? = some (.cells (rkL key).toArray 131) := by
    have := heap_alloc_new (w.alloc (.cells #[.string over, .string under, .pointer par] 164)) (.cells (rkL key).toArray 131)
    rw [← hW]; simpa using this
  have hsz : W.heap.size = w.heap.size + 1 + 1 := by rw [← hW]; simp
  have ca : W.cell? ⟨w.heap.size, 0, none⟩ = some (.string over) := Lib.cell_of_heap n0 0
  have cb : W.cell? ⟨w.heap.size + 1, 32, none⟩ = some (.string key) := RKb.c32 n1
  have hbz : Below w.heap.size w (W.alloc (.cells #[.string over, .string key, .pointer (some ⟨w.heap.size + 1, 0, none⟩)] 164)) := hb.alloc hb.size _
  have nz : RKb (w.heap.size + 1) key (W.alloc (.cells #[.string over, .string key, .pointer (some ⟨w.heap.size + 1, 0, none⟩)] 164)) := (Below.heap_alloc W _ _ (by omega)).trans n1
  have nR := heap_alloc_new W (.cells #[.string over, .string key, .pointer (some ⟨w.heap.size + 1, 0, none⟩)] 164)
  rw [hsz] at nR
  generalize (rkL key).toArray = cs at hW n1
  obtain ⟨ga, hga⟩ : ∃ ga, w.heap.size = ga := ⟨_, rfl⟩
  go_enter Tryz.func182, Tryz.ntmps182
  rw [hga] at ca cb hsz hbz nz nR
  have q0 := Lib.cell_of_heap nR 0
  have q1 := Lib.cell_of_heap nR 1
  have q2 := Lib.cell_of_heap nR 2
  go_wp2_with fail
  exact bodyPost_ret (v := .agg #[.string over, .string key, .pointer (some ⟨ga + 1, 0, none⟩)]) (by simp [results, Tryz.results182, go_sem, q0, q1, q2]) rfl ⟨⟨ga + 1, rfl, by omega, nz⟩, by rw [hga]; exact hbz⟩
set_option maxRecDepth 100000 in
theorem rightOf_any (over under key : ByteArray) (par : Option Addr) (w : World) : Calls Tryz.prog 183 #[.agg #[.string over, .string under, .pointer par], .agg (rkL key).toArray] w fun e w' => (∃ g, e = .returned (.agg #[.string key, .string under, .pointer (some ⟨g, 0, none⟩)]) ∧ w.heap.size ≤ g ∧ RKb g key w') ∧ Below w.heap.size w w' := by
  obtain ⟨W, hW⟩ : ∃ W, (w.alloc (.cells #[.string over, .string under, .pointer par] 164)).alloc (.cells (rkL key).toArray 131) = W := ⟨_, rfl⟩
  have hb : Below w.heap.size w W := by rw [← hW]; exact ((Below.refl _ _).alloc (Nat.le_refl _) _).alloc (by simp) _
  have n0 : W.heap[w.heap.size]? = some (.cells #[.string over, .string under, .pointer par] 164) := by rw [← hW, Below.heap_alloc _ _ _ (by simp)]; exact heap_alloc_new w _
  have n1 : W.heap[w.heap.size + 1]? = some (.cells (rkL key).toArray 131) := by
    have := heap_alloc_new (w.alloc (.cells #[.string over, .string under, .pointer par] 164)) (.cells (rkL key).toArray 131)
    rw [← hW]; simpa using this
  have hsz : W.heap.size = w.heap.size + 1 + 1 := by rw [← hW]; simp
  have ca : W.cell? ⟨w.heap.size, 1, none⟩ = some (.string under) := Lib.cell_of_heap n0 1
  have cb : W.cell? ⟨w.heap.size + 1, 32, none⟩ = some (.string key) := RKb.c32 n1
  have hbz : Below w.heap.size w (W.alloc (.cells #[.string key, .string under, .pointer (some ⟨w.heap.size + 1, 0, none⟩)] 164)) := hb.alloc hb.size _
  have nz : RKb (w.heap.size + 1) key (W.alloc (.cells #[.string key, .string under, .pointer (some ⟨w.heap.size + 1, 0, none⟩)] 164)) := (Below.heap_alloc W _ _ (by omega)).trans n1
  have nR := heap_alloc_new W (.cells #[.string key, .string under, .pointer (some ⟨w.heap.size + 1, 0, none⟩)] 164)
  rw [hsz] at nR
  generalize (rkL key).toArray = cs at hW n1
  obtain ⟨ga, hga⟩ : ∃ ga, w.heap.size = ga := ⟨_, rfl⟩
  go_enter Tryz.func183, Tryz.ntmps183
  rw [hga] at ca cb hsz hbz nz nR
  have q0 := Lib.cell_of_heap nR 0
  have q1 := Lib.cell_of_heap nR 1
  have q2 := Lib.cell_of_heap nR 2
  go_wp2_with fail
  exact bodyPost_ret (v := .agg #[.string key, .string under, .pointer (some ⟨ga + 1, 0, none⟩)]) (by simp [results, Tryz.results183, go_sem, q0, q1, q2]) rfl ⟨⟨ga + 1, rfl, by omega, nz⟩, by rw [hga]; exact hbz⟩
end Go.Proofs.YtfmpjlpakldheaaGreatDoor
namespace Go.Proofs.YtfmpjlpakldheaaGreatDoor
open Go.RowKit Go.Proofs.Sha

theorem lessB_tri (a b : ByteArray) : lessB a b = !(lessB b a || (b.toList == a.toList)) := less_tri _ _
/-- 'canW' as the program asks it. -/
theorem canW_eq (over under lo hi : ByteArray) : canW over under lo hi = (if (!hi.toList.isEmpty && ((Op.bytesLess hi.toList lo.toList || (hi.toList == lo.toList)) || (Op.bytesLess hi.toList over.toList || (hi.toList == over.toList)))) = true then false else (under.toList.isEmpty || (!Op.bytesLess under.toList lo.toList && !(under.toList == lo.toList)))) := by
  unfold canW
  rw [lessB_tri lo hi, lessB_tri over hi, lessB_tri lo under, emp_iff, emp_iff]
  unfold lessB
  cases emp hi <;> cases emp under <;> cases Op.bytesLess hi.toList lo.toList <;> cases (hi.toList == lo.toList) <;> cases Op.bytesLess hi.toList over.toList <;> cases (hi.toList == over.toList) <;> simp
theorem hasW_eq (lo hi key : ByteArray) : hasW lo hi key = ((Op.bytesLess lo.toList key.toList || (lo.toList == key.toList)) && (hi.toList.isEmpty || Op.bytesLess key.toList hi.toList)) := by
  unfold hasW
  rw [lessB_tri key lo, emp_iff]
  unfold lessB
  simp
theorem can_any (lo hi over under : ByteArray) (par : Option Addr) (w : World) : Calls Tryz.prog 154 #[.agg #[.string lo, .string hi], .agg #[.string over, .string under, .pointer par]] w fun e w' => e = .returned (.bool (canW over under lo hi)) ∧ Below w.heap.size w w' := by
  have hb : Below w.heap.size w ((w.alloc (.cells #[.string lo, .string hi] 109)).alloc (.cells #[.string over, .string under, .pointer par] 164)) := ((Below.refl _ _).alloc (Nat.le_refl _) _).alloc (by simp) _
  have HR := canW_eq over under lo hi
  cases h1 : hi.toList.isEmpty with
  | false =>
    cases a1 : Op.bytesLess hi.toList lo.toList with
    | false =>
      cases a2 : (hi.toList == lo.toList) with
      | false =>
        cases a3 : Op.bytesLess hi.toList over.toList with
        | false =>
          cases a4 : (hi.toList == over.toList) with
          | false =>
            cases h2 : under.toList.isEmpty with
            | false =>
              rw [h1, a1, a2, a3, a4, h2] at HR
              have HR2 : Hid _ := HR
              clear HR
              go_enter Tryz.func154, Tryz.ntmps154
              go_wp2_with fail
              go_ret
              exact ⟨by rw [HR2.out]; rfl, hb⟩
            | true =>
              rw [h1, a1, a2, a3, a4, h2] at HR
              have HR2 : Hid _ := HR
              clear HR
              go_enter Tryz.func154, Tryz.ntmps154
              go_wp2_with fail
              go_ret
              exact ⟨by rw [HR2.out]; rfl, hb⟩
          | true =>
            rw [h1, a1, a2, a3, a4] at HR
            have HR2 : Hid _ := HR
            clear HR
            go_enter Tryz.func154, Tryz.ntmps154
            go_wp2_with fail
            go_ret
            exact ⟨by rw [HR2.out]; rfl, hb⟩
        | true =>
          rw [h1, a1, a2, a3] at HR
          have HR2 : Hid _ := HR
          clear HR
          go_enter Tryz.func154, Tryz.ntmps154
          go_wp2_with fail
          go_ret
          exact ⟨by rw [HR2.out]; rfl, hb⟩
      | true =>
        rw [h1, a1, a2] at HR
        have HR2 : Hid _ := HR
        clear HR
        go_enter Tryz.func154, Tryz.ntmps154
        go_wp2_with fail
        go_ret
        exact ⟨by rw [HR2.out]; rfl, hb⟩
    | true =>
      rw [h1, a1] at HR
      have HR2 : Hid _ := HR
      clear HR
      go_enter Tryz.func154, Tryz.ntmps154
      go_wp2_with fail
      go_ret
      exact ⟨by rw [HR2.out]; rfl, hb⟩
  | true =>
    cases h2 : under.toList.isEmpty with
    | false =>
      rw [h1, h2] at HR
      have HR2 : Hid _ := HR
      clear HR
      go_enter Tryz.func154, Tryz.ntmps154
      go_wp2_with fail
      go_ret
      exact ⟨by rw [HR2.out]; rfl, hb⟩
    | true =>
      rw [h1, h2] at HR
      have HR2 : Hid _ := HR
      clear HR
      go_enter Tryz.func154, Tryz.ntmps154
      go_wp2_with fail
      go_ret
      exact ⟨by rw [HR2.out]; rfl, hb⟩
theorem has_any (lo hi key : ByteArray) (w : World) : Calls Tryz.prog 121 #[.agg #[.string lo, .string hi], .string key] w fun e w' => e = .returned (.bool (hasW lo hi key)) ∧ Below w.heap.size w w' := by
  have hb : Below w.heap.size w (w.alloc (.cells #[.string lo, .string hi] 109)) := (Below.refl _ _).alloc (Nat.le_refl _) _
  have HR := hasW_eq lo hi key
  cases a1 : Op.bytesLess lo.toList key.toList with
  | false =>
    cases a2 : (lo.toList == key.toList) with
    | false =>
      rw [a1, a2] at HR
      have HR2 : Hid _ := HR
      clear HR
      go_enter Tryz.func121, Tryz.ntmps121
      go_wp2_with fail
      go_ret
      exact ⟨by rw [HR2.out]; rfl, hb⟩
    | true =>
      cases h1 : hi.toList.isEmpty with
      | false =>
        rw [a1, a2, h1] at HR
        have HR2 : Hid _ := HR
        clear HR
        go_enter Tryz.func121, Tryz.ntmps121
        go_wp2_with fail
        go_ret
        exact ⟨by rw [HR2.out]; rfl, hb⟩
      | true =>
        rw [a1, a2, h1] at HR
        have HR2 : Hid _ := HR
        clear HR
        go_enter Tryz.func121, Tryz.ntmps121
        go_wp2_with fail
        go_ret
        exact ⟨by rw [HR2.out]; rfl, hb⟩
  | true =>
    cases h1 : hi.toList.isEmpty with
    | false =>
      rw [a1, h1] at HR
      have HR2 : Hid _ := HR
      clear HR
      go_enter Tryz.func121, Tryz.ntmps121
      go_wp2_with fail
      go_ret
      exact ⟨by rw [HR2.out]; rfl, hb⟩
    | true =>
      rw [a1, h1] at HR
      have HR2 : Hid _ := HR
      clear HR
      go_enter Tryz.func121, Tryz.ntmps121
      go_wp2_with fail
      go_ret
      exact ⟨by rw [HR2.out]; rfl, hb⟩
end Go.Proofs.YtfmpjlpakldheaaGreatDoor
namespace Go.Proofs.YtfmpjlpakldheaaGreatDoor
open Go.RowKit Go.Proofs.Sha

/-- Keys that grow. -/
def KeysUp : List ByteArray → Prop
  | [] => True
  | k :: ks => (∀ x ∈ ks, lessB k x = true) ∧ KeysUp ks
theorem bl_tr : ∀ (a b c : List UInt8), Op.bytesLess a b = true → Op.bytesLess b c = true → Op.bytesLess a c = true
  | [], [], _, h, _ => by simp [Op.bytesLess] at h
  | [], _ :: _, [], _, k => by simp [Op.bytesLess] at k
  | [], _ :: _, _ :: _, _, _ => by simp [Op.bytesLess]
  | _ :: _, [], _, h, _ => by simp [Op.bytesLess] at h
  | _ :: _, _ :: _, [], _, k => by simp [Op.bytesLess] at k
  | x :: xs, y :: ys, z :: zs, h, k => by
    rw [Op.bytesLess] at h k ⊢
    simp only [Bool.or_eq_true, Bool.and_eq_true, decide_eq_true_eq, beq_iff_eq] at h k ⊢
    rcases h with h | ⟨rfl, h⟩
    · rcases k with k | ⟨rfl, k⟩
      · exact .inl (by rw [UInt8.lt_iff_toNat_lt] at *; omega)
      · exact .inl h
    · rcases k with k | ⟨rfl, k⟩
      · exact .inl k
      · exact .inr ⟨rfl, bl_tr xs ys zs h k⟩
theorem lessB_tr {a b c : ByteArray} (h : lessB a b = true) (k : lessB b c = true) : lessB a c = true := bl_tr _ _ _ h k
theorem lessB_or (a b : ByteArray) (h : lessB a b = false) (hne : a ≠ b) : lessB b a = true := by
  rw [lessB_tri] at h
  rcases (Bool.or_eq_true _ _).mp (by cases hq : (lessB b a || (b.toList == a.toList)) with | true => rfl | false => rw [hq] at h; cases h) with h | h
  · exact h
  · have e : b.toList = a.toList := by simpa using h
    rw [ByteArray.toList_eq, ByteArray.toList_eq] at e
    exact absurd (ByteArray.ext (Array.toList_inj.1 e.symm)) hne
/-- The pairs but one key's. -/
def wout (ps : List PairT) (k : ByteArray) : List PairT := ps.filter fun p => decide (p.1 ≠ k)
/-- The pairs with a key set, where the rest grows. -/
def ins (k v : ByteArray) : List PairT → List PairT
  | [] => [(k, v)]
  | p :: ps => if lessB k p.1 = true then (k, v) :: p :: ps else p :: ins k v ps
def wth (ps : List PairT) (k v : ByteArray) : List PairT := ins k v (wout ps k)
abbrev keys (ps : List PairT) : List ByteArray := ps.map Prod.fst
theorem ku_wout {ps : List PairT} (h : KeysUp (keys ps)) (k : ByteArray) : KeysUp (keys (wout ps k)) := by
  induction ps with
  | nil => exact h
  | cons p ps ih =>
    unfold wout at ih ⊢
    rw [List.filter_cons]
    split
    · refine ⟨fun x hx => ?_, ih h.2⟩
      obtain ⟨y, hy, rfl⟩ := List.mem_map.1 hx
      exact h.1 _ (List.mem_map.2 ⟨y, (List.mem_filter.1 hy).1, rfl⟩)
    · exact ih h.2
theorem mem_wout {ps : List PairT} {k x : ByteArray} : x ∈ keys (wout ps k) ↔ x ∈ keys ps ∧ x ≠ k := by
  unfold wout
  constructor
  · intro h
    obtain ⟨y, hy, rfl⟩ := List.mem_map.1 h
    obtain ⟨h1, h2⟩ := List.mem_filter.1 hy
    exact ⟨List.mem_map.2 ⟨y, h1, rfl⟩, by simpa using h2⟩
  · rintro ⟨h, hn⟩
    obtain ⟨y, hy, rfl⟩ := List.mem_map.1 h
    exact List.mem_map.2 ⟨y, List.mem_filter.2 ⟨hy, by simpa using hn⟩, rfl⟩
theorem mem_ins {k v x : ByteArray} : ∀ {ps : List PairT}, x ∈ keys (ins k v ps) ↔ x = k ∨ x ∈ keys ps
  | [] => by simp [ins]
  | p :: ps => by
    rw [ins]
    split
    · simp
    · have ih := mem_ins (k := k) (v := v) (x := x) (ps := ps)
      simp only [keys, List.map_cons, List.mem_cons] at ih ⊢
      rw [ih]
      constructor
      · rintro (h | h | h)
        · exact .inr (.inl h)
        · exact .inl h
        · exact .inr (.inr h)
      · rintro (h | h | h)
        · exact .inr (.inl h)
        · exact .inl h
        · exact .inr (.inr h)
theorem ku_ins {k v : ByteArray} : ∀ {ps : List PairT}, KeysUp (keys ps) → (∀ x ∈ keys ps, x ≠ k) → KeysUp (keys (ins k v ps))
  | [], _, _ => ⟨fun _ h => by simp at h, trivial⟩
  | p :: ps, h, hn => by
    rw [ins]
    split
    · rename_i hl
      refine ⟨fun x hx => ?_, h⟩
      rcases List.mem_cons.1 hx with e | hx
      · rw [e]; exact hl
      · exact lessB_tr hl (h.1 x hx)
    · rename_i hl
      refine ⟨fun x hx => ?_, ku_ins h.2 (fun x hx => hn x (List.mem_cons_of_mem _ hx))⟩
      rcases mem_ins.1 hx with e | hx
      · rw [e]
        exact lessB_or _ _ (by simpa using hl) (fun e => hn p.1 List.mem_cons_self e.symm)
      · exact h.1 x hx
theorem ku_wth {ps : List PairT} (h : KeysUp (keys ps)) (k v : ByteArray) : KeysUp (keys (wth ps k v)) := ku_ins (ku_wout h k) (fun _ hx => (mem_wout.1 hx).2)
theorem mem_wth {ps : List PairT} {k v x : ByteArray} : x ∈ keys (wth ps k v) ↔ x = k ∨ x ∈ keys ps := by
  unfold wth
  rw [mem_ins, mem_wout]
  constructor
  · rintro (h | h)
    · exact .inl h
    · exact .inr h.1
  · rintro (h | h)
    · exact .inl h
    · by_cases e : x = k
      · exact .inl e
      · exact .inr ⟨h, e⟩
end Go.Proofs.YtfmpjlpakldheaaGreatDoor
namespace Go.Proofs.YtfmpjlpakldheaaGreatDoor
open Go.RowKit Go.Proofs.Sha

end Go.Proofs.YtfmpjlpakldheaaGreatDoor
namespace Go.Proofs.YtfmpjlpakldheaaGreatDoor
open Go.RowKit Go.Proofs.Sha

theorem wr_in64 (n : Int) (h : -9223372036854775808 ≤ n ∧ n ≤ 9223372036854775807) : wrap64 n = n := by unfold wrap64; omega
/-- Within the law's bound. -/
def SmallP (ps : List PairT) : Prop := ps.length ≤ 1048576 ∧ ∀ j, (ps.getD j noPair).1.size ≤ 1048576 ∧ (ps.getD j noPair).2.size ≤ 1048576
theorem pget_out (ps : List PairT) (j : Nat) (h : ps.length ≤ j) : ps.getD j noPair = noPair := by
  rw [List.getD_eq_getElem?_getD, List.getElem?_eq_none h]; rfl
end Go.Proofs.YtfmpjlpakldheaaGreatDoor
namespace Go.Proofs.YtfmpjlpakldheaaGreatDoor
open Go.RowKit Go.Proofs.Sha

/-- Pairs as cells. -/
def flatP : List PairT → List Value
  | [] => []
  | p :: l => .string p.1 :: .string p.2 :: flatP l
theorem flatP_len : ∀ l : List PairT, (flatP l).length = l.length * 2
  | [] => rfl
  | p :: l => by simp only [flatP, List.length_cons, flatP_len l]; omega
theorem flatP_app : ∀ l m : List PairT, flatP (l ++ m) = flatP l ++ flatP m
  | [], m => rfl
  | p :: l, m => by simp only [List.cons_append, flatP, flatP_app l m]
theorem flatP_get : ∀ (l : List PairT) (j : Nat), j < l.length → (flatP l)[j * 2]? = some (.string (l.getD j noPair).1) ∧ (flatP l)[j * 2 + 1]? = some (.string (l.getD j noPair).2)
  | [], j, h => absurd h (Nat.not_lt_zero _)
  | p :: l, 0, _ => ⟨rfl, rfl⟩
  | p :: l, j + 1, h => by
    have := flatP_get l j (by simpa using h)
    rw [show (j + 1) * 2 = j * 2 + 2 by omega]
    simpa [flatP] using this
theorem Row.parg {w : World} {base g c n : Nat} {ps : List PairT} (h : Row w base g n c (flatP ps)) (hs : SmallP ps) : PArg (some ⟨g, 0, none⟩) ps w := by
  refine ⟨hs.1, hs.2, fun _ => ⟨g, 0, rfl, h.lt, fun j hj => ?_⟩⟩
  have hn := h.len
  rw [flatP_len] at hn
  obtain ⟨e0, e1⟩ := flatP_get ps j hj
  rw [Nat.zero_add]
  exact ⟨(h.cell _ (by omega)).trans e0, (h.cell _ (by omega)).trans e1⟩
theorem info37 : (Tryz.prog.info? 34).map (fun i => (i.zero, i.size, i.bytes)) = some (some (.agg #[.string ⟨#[]⟩, .string ⟨#[]⟩]), 2, 32) := by kernel_rfl
theorem info_parts2 {i : Option TypeInfo} {a : Option Value} {b c : Nat} (h : i.map (fun i => (i.zero, i.size, i.bytes)) = some (a, b, c)) : ∃ j, i = some j ∧ j.zero = a ∧ j.size = b ∧ j.bytes = c := by
  cases i with
  | none => cases h
  | some j => simp only [Option.map_some, Option.some.injEq, Prod.mk.injEq] at h; exact ⟨j, rfl, h.1, h.2.1, h.2.2⟩
end Go.Proofs.YtfmpjlpakldheaaGreatDoor
namespace Go.Proofs.YtfmpjlpakldheaaGreatDoor
open Go.RowKit Go.Proofs.Sha

set_option maxRecDepth 100000 in
set_option maxHeartbeats 400000 in
theorem shigher_any (a b : ByteArray) (w : World) (ha : a.size ≤ 1048576) (hb : b.size ≤ 1048576) :
    Calls Tryz.prog 96 #[.string a, .string b] w fun e w' => e = .returned (.bool (rk (sha a.data.toList) (sha b.data.toList) a.data.toList b.data.toList)) ∧ Below w.heap.size w w' := by
  have hla : (sha a.data.toList).length = 32 := by unfold sha; rw [outTo_length]
  have hlb : (sha b.data.toList).length = 32 := by unfold sha; rw [outTo_length]
  have H1 := fun w' => spec_any a w' ha
  have H2 := fun w' => spec_any b w' hb
  have HR1 : Hid (sha a.data.toList = sha b.data.toList → rk (sha a.data.toList) (sha b.data.toList) a.data.toList b.data.toList = Op.bytesLess a.data.toList b.data.toList) := fun h => if_pos h
  have HR2 : Hid (sha a.data.toList ≠ sha b.data.toList → rk (sha a.data.toList) (sha b.data.toList) a.data.toList b.data.toList = Op.bytesLess (sha b.data.toList) (sha a.data.toList)) := fun h => if_neg h
  obtain ⟨X, hX⟩ : ∃ X, sha a.data.toList = X := ⟨_, rfl⟩
  obtain ⟨Y, hY⟩ : ∃ Y, sha b.data.toList = Y := ⟨_, rfl⟩
  rw [hX] at hla H1
  rw [hY] at hlb H2
  rw [hX, hY] at HR1 HR2
  rw [hX, hY]
  obtain ⟨SX, hSX⟩ : ∃ S : ByteArray, S = ⟨X.toArray⟩ := ⟨_, rfl⟩
  obtain ⟨SY, hSY⟩ : ∃ S : ByteArray, S = ⟨Y.toArray⟩ := ⟨_, rfl⟩
  have dX : SX.data.toList = X := by rw [hSX]
  have dY : SY.data.toList = Y := by rw [hSY]
  have zX : SX.size ≤ 1048576 := by rw [hSX]; show X.length ≤ _; omega
  have zY : SY.size ≤ 1048576 := by rw [hSY]; show Y.length ≤ _; omega
  rw [← hSX] at H1
  rw [← hSY] at H2
  have L1 := fun w' => less_any SY SX w' zY zX
  have L2 := fun w' => less_any a b w' ha hb
  rw [dX, dY] at L1
  have K1 : Hid (∀ w', Calls Tryz.prog 59 #[.string a] w' fun e w'' => e = .returned (.string SX) ∧ Below w'.heap.size w' w'') := H1
  have K2 : Hid (∀ w', Calls Tryz.prog 59 #[.string b] w' fun e w'' => e = .returned (.string SY) ∧ Below w'.heap.size w' w'') := H2
  have K3 : Hid (∀ w', Calls Tryz.prog 95 #[.string SY, .string SX] w' fun e w'' => e = .returned (.bool (Op.bytesLess Y X)) ∧ Below w'.heap.size w' w'') := L1
  have K4 : Hid (∀ w', Calls Tryz.prog 95 #[.string a, .string b] w' fun e w'' => e = .returned (.bool (Op.bytesLess a.data.toList b.data.toList)) ∧ Below w'.heap.size w' w'') := L2
  have tX : SX.toList = X := by rw [ByteArray.toList_eq, dX]
  have tY : SY.toList = Y := by rw [ByteArray.toList_eq, dY]
  have TXY : Hid (SX.toList = X ∧ SY.toList = Y) := ⟨tX, tY⟩
  clear hX hY H1 H2 L1 L2 hSX hSY dX dY zX zY hla hlb tX tY
  by_cases hXY : X = Y
  · have c1 : (SX.toList == SY.toList) = true := by rw [TXY.out.1, TXY.out.2, hXY]; simp
    have HR := HR1.out hXY
    have HR' : Hid (rk X Y a.data.toList b.data.toList = Op.bytesLess a.data.toList b.data.toList) := HR
    clear HR HR1 HR2 hXY
    go_enter Tryz.func96, Tryz.ntmps96
    go_wp2_with fail
    refine (K1.out _).mono ?_
    rintro e w1 ⟨rfl, hb1⟩
    go_wp2_with fail
    refine (K2.out _).mono ?_
    rintro e w2 ⟨rfl, hb2⟩
    go_wp2_with fail
    refine (K4.out _).mono ?_
    rintro e w3 ⟨rfl, hb3⟩
    go_wp2
    go_ret
    exact ⟨by rw [HR'.out]; rfl, (hb1.trans (hb2.mono hb1.size)).trans (hb3.mono (Nat.le_trans hb1.size hb2.size))⟩
  · have c1 : (SX.toList == SY.toList) = false := by rw [TXY.out.1, TXY.out.2]; exact beq_eq_false_iff_ne.2 hXY
    have HR' : Hid (rk X Y a.data.toList b.data.toList = Op.bytesLess Y X) := HR2.out hXY
    clear HR1 HR2 hXY
    go_enter Tryz.func96, Tryz.ntmps96
    go_wp2_with fail
    refine (K1.out _).mono ?_
    rintro e w1 ⟨rfl, hb1⟩
    go_wp2_with fail
    refine (K2.out _).mono ?_
    rintro e w2 ⟨rfl, hb2⟩
    go_wp2_with fail
    refine (K3.out _).mono ?_
    rintro e w3 ⟨rfl, hb3⟩
    go_wp2
    go_ret
    exact ⟨by rw [HR'.out]; rfl, (hb1.trans (hb2.mono hb1.size)).trans (hb3.mono (Nat.le_trans hb1.size hb2.size))⟩

end Go.Proofs.YtfmpjlpakldheaaGreatDoor
namespace Go.Proofs.YtfmpjlpakldheaaGreatDoor
open Go.RowKit Go.Proofs.Sha

theorem pairOk_any (k v : ByteArray) (w : World) (hk : k.size ≤ 1048576) (hv : v.size ≤ 1048576) : Calls Tryz.prog 90 #[.string k, .string v] w fun e w' => e = .returned (.bool (okKey k && okVal v)) ∧ w = w' := by
  have hr : okVal v = decide ((v.size : Int) ≤ 2000) := by
    unfold okVal
    by_cases c2 : v.size ≤ 2000
    · rw [decide_eq_true (by omega), decide_eq_true (by omega)]
    · rw [decide_eq_false (by omega), decide_eq_false (by omega)]
  by_cases c1 : 1 ≤ k.size
  · by_cases c2 : k.size ≤ 256
    · have hq : okKey k = true := by unfold okKey; rw [decide_eq_true (by omega)]
      rw [hq, hr, Bool.true_and]
      have z1 : decide ((k.size : Int) ≥ 1) = true := by rw [decide_eq_true_eq]; omega
      have z2 : decide ((1 : Int) ≤ (k.size : Int)) = true := by rw [decide_eq_true_eq]; omega
      have z3 : decide ((k.size : Int) ≤ 256) = true := by rw [decide_eq_true_eq]; omega
      have z4 : 0 < k.size := by omega
      have z5 : decide (1 ≤ k.size) = true := decide_eq_true c1
      clear hr hq
      go_enter Tryz.func90, Tryz.ntmps90
      go_wp2_with fail
      go_ret
      exact ⟨rfl, rfl⟩
    · have hq : okKey k = false := by unfold okKey; rw [decide_eq_false (by omega)]
      rw [hq, Bool.false_and]
      have z1 : decide ((k.size : Int) ≥ 1) = true := by rw [decide_eq_true_eq]; omega
      have z2 : decide ((1 : Int) ≤ (k.size : Int)) = true := by rw [decide_eq_true_eq]; omega
      have z3 : decide ((k.size : Int) ≤ 256) = false := by rw [decide_eq_false_iff_not]; omega
      have z4 : 0 < k.size := by omega
      have z5 : decide (1 ≤ k.size) = true := decide_eq_true c1
      clear hr hq
      go_enter Tryz.func90, Tryz.ntmps90
      go_wp2_with fail
      go_ret
      exact ⟨rfl, rfl⟩
  · have hq : okKey k = false := by unfold okKey; rw [decide_eq_false (by omega)]
    rw [hq, Bool.false_and]
    have z1 : decide ((k.size : Int) ≥ 1) = false := by rw [decide_eq_false_iff_not]; omega
    have z2 : decide ((1 : Int) ≤ (k.size : Int)) = false := by rw [decide_eq_false_iff_not]; omega
    have z0 : k.size = 0 := by omega
    clear hr hq
    go_enter Tryz.func90, Tryz.ntmps90
    go_wp2_with fail
    go_ret
    exact ⟨rfl, rfl⟩
end Go.Proofs.YtfmpjlpakldheaaGreatDoor
namespace Go.Proofs.YtfmpjlpakldheaaGreatDoor
open Go.RowKit Go.Proofs.Sha

theorem drew1 {w wr : World} (h : ∃ m, wr = w.drewN m) : ∃ m, wr.drew = w.drewN m := by
  obtain ⟨m, rfl⟩ := h
  exact ⟨m + 1, by rw [← World.drewN_drewN]; rfl⟩
set_option maxRecDepth 100000 in
set_option maxHeartbeats 400000 in
theorem less_q (p q : ByteArray) (w : World) (hp : p.size ≤ 1048576) (hq : q.size ≤ 1048576) :
    Calls Tryz.prog 95 #[.string p, .string q] w fun e w' => e = .returned (.bool (Op.bytesLess p.data.toList q.data.toList)) ∧ (∃ m, w' = w.drewN m) := by
  have hpl : p.data.toList.length = p.size := rfl
  have hql : q.data.toList.length = q.size := rfl
  go_enter Tryz.func95, Tryz.ntmps95
  go_wp2_with fail
  go_loopw [5] (fun t wr => ∃ k : Nat, k ≤ p.size ∧ k ≤ q.size ∧ t = .int .i64 (k : Int) ∧ Hid (Op.bytesLess p.data.toList q.data.toList = Op.bytesLess (p.data.toList.drop k) (q.data.toList.drop k)) ∧ ∃ m, wr = w.drewN m) (fun t _ => p.size - (intOf t).toNat)
  case atStart => exact ⟨0, by omega, by omega, rfl, rfl, 0, rfl⟩
  case round =>
    obtain ⟨k, hk1, hk2, rfl, HL, hb⟩ := hrel
    by_cases h1 : k < p.size
    · by_cases h2 : k < q.size
      · have z1 : (0 : Int) ≤ (k : Int) := by omega
        have z2 : (k : Int) < (p.size : Int) := by omega
        have z3 : (k : Int) < (q.size : Int) := by omega
        go_wp2_with fail
        go_region
        rw [bget p k h1, bget q k h2]
        have HE := less_eq p.data.toList q.data.toList k h1 h2
        have HN := less_ne p.data.toList q.data.toList k h1 h2
        obtain ⟨x, hx⟩ : ∃ x, p.data.toList.getD k 0 = x := ⟨_, rfl⟩
        obtain ⟨y, hy⟩ : ∃ y, q.data.toList.getD k 0 = y := ⟨_, rfl⟩
        rw [hx, hy] at HE HN
        rw [hx, hy]
        have HXY : Hid (p.data.toList.getD k 0 = x ∧ q.data.toList.getD k 0 = y) := ⟨hx, hy⟩
        clear hx hy
        by_cases hxy : x = y
        · have c0 : ((x.toNat : Int) != (y.toNat : Int)) = false := by rw [hxy]; simp
          have HE' : Hid (Op.bytesLess p.data.toList q.data.toList = Op.bytesLess (p.data.toList.drop (k + 1)) (q.data.toList.drop (k + 1))) := HL.out.trans (HE hxy)
          clear HE HN hxy
          go_wp2_with fail
          go_roundw
          case rel => exact ⟨k + 1, by omega, by omega, by go_num, HE', drew1 hb⟩
          case measure => simp [intOf]; omega
        · have c0 : ((x.toNat : Int) != (y.toNat : Int)) = true := by
            rw [bne_iff_ne]; exact fun h => hxy (UInt8.toNat_inj.1 (by omega))
          have HN' : Hid (Op.bytesLess p.data.toList q.data.toList = decide (x.toNat < y.toNat)) := (HL.out.trans (HN hxy)).trans (by simp)
          clear HE HN hxy
          go_wp2_with fail
          go_region
          rw [bget p k h1, bget q k h2, HXY.out.1, HXY.out.2]
          go_wp2
          go_ret
          exact ⟨by rw [HN'.out]; rfl, drew1 (drew1 hb)⟩
      · have HN' : Hid (Op.bytesLess p.data.toList q.data.toList = decide (p.size < q.size)) := (HL.out.trans (less_end p.data.toList q.data.toList k (.inr (by omega)) (by omega) (by omega))).trans (by simp)
        go_wp2
        go_ret
        exact ⟨by rw [HN'.out]; rfl, hb⟩
    · have HN' : Hid (Op.bytesLess p.data.toList q.data.toList = decide (p.size < q.size)) := (HL.out.trans (less_end p.data.toList q.data.toList k (.inl (by omega)) (by omega) (by omega))).trans (by simp)
      go_wp2
      go_ret
      exact ⟨by rw [HN'.out]; rfl, hb⟩

theorem pairOk_q (k v : ByteArray) (w : World) (hk : k.size ≤ 1048576) (hv : v.size ≤ 1048576) : Calls Tryz.prog 90 #[.string k, .string v] w fun e w' => e = .returned (.bool (okKey k && okVal v)) ∧ w' = w :=
  (pairOk_any k v w hk hv).mono fun _ _ ⟨he, hw⟩ => ⟨he, hw.symm⟩
end Go.Proofs.YtfmpjlpakldheaaGreatDoor
