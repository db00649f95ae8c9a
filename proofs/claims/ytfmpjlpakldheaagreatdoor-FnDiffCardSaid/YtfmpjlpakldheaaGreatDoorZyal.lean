import Derived.Test.YtfmpjlpakldheaaGreatDoorZyak
import Derived.Test.YtfmpjlpakldheaaGreatDoorZyaj
import Derived.Laws.MakeOwn
import Derived.Laws.OwnMore
namespace Go.Proofs.YtfmpjlpakldheaaGreatDoor
open Go.RowKit Go.Proofs.Sha

/-- A key's rank, as cells. -/
def rkL (k : ByteArray) : List Value := (sha k.data.toList).map B ++ [Value.string k]
theorem rkL_len (k : ByteArray) : (rkL k).length = 33 := by unfold rkL; rw [List.length_append, List.length_map]; unfold sha; rw [outTo_length]; rfl
theorem rkL_last (k : ByteArray) : (rkL k)[32]? = some (.string k) := by
  unfold rkL
  have : ((sha k.data.toList).map B).length = 32 := by rw [List.length_map]; unfold sha; rw [outTo_length]
  rw [List.getElem?_append_right (by omega), this]; rfl
/-- A rank in its block. -/
def RKb (g : Nat) (k : ByteArray) (w : World) : Prop := w.heap[g]? = some (.cells (rkL k).toArray 131)
theorem RKb.c32 {g : Nat} {k : ByteArray} {w : World} (h : RKb g k w) : w.cell? ⟨g, 32, none⟩ = some (.string k) := (Lib.cell_of_heap h 32).trans (by simpa using rkL_last k)
theorem RKb.range {g : Nat} {k : ByteArray} {w : World} (h : RKb g k w) : w.rangeAt g 0 (rkL k) := fun j u hj => (Lib.cell_of_heap h (0 + j)).trans (by simpa using hj)
set_option maxRecDepth 100000 in
theorem leftOf_any (over under key : ByteArray) (par : Option Addr) (w : World) : Calls Tryz.prog 182 #[.agg #[.string over, .string under, .pointer par], .agg (rkL key).toArray] w fun e w' => (∃ g, e = .returned (.agg #[.string over, .string key, .pointer (some ⟨g, 0, none⟩)]) ∧ w.heap.size ≤ g ∧ RKb g key w') ∧ Below w.heap.size w w' := by
  obtain ⟨W, hW⟩ : ∃ W, (w.alloc (.cells #[.string over, .string under, .pointer par] 164)).alloc (.cells (rkL key).toArray 131) = W := ⟨_, rfl⟩
  have hb : Below w.heap.size w W := by rw [← hW]; exact ((Below.refl _ _).alloc (Nat.le_refl _) _).alloc (by simp) _
  have n0 : W.heap[w.heap.size]? = some (.cells #[.string over, .string under, .pointer par] 164) := by rw [← hW, Below.heap_alloc _ _ _ (by simp)]; exact heap_alloc_new w _
  have n1 : W.heap[w.heap.size + 1]? = some (.cells (rkL key).toArray 131) := by
    have := heap_alloc_new (w.alloc (.cells #[.string over, .string under, .pointer par] 164)) (.cells (rkL key).toArray 131)
    rw [← hW]; simpa using this
  have hsz : W.heap.size = w.heap.size + 1 + 1 := by rw [← hW]; simp
  have ca : W.cell? ⟨w.heap.size, 0, none⟩ = some (.string over) := Lib.cell_of_heap n0 0
  have cb : W.cell? ⟨w.heap.size + 1, 32, none⟩ = some (.string key) := RKb.c32 n1
  have hbz : Below w.heap.size w (W.alloc (.cells #[.string over, .string key, .pointer (some ⟨w.heap.size + 1, 0, none⟩)] 164)) := hb.alloc hb.size _
  have nz : RKb (w.heap.size + 1) key (W.alloc (.cells #[.string over, .string key, .pointer (some ⟨w.heap.size + 1, 0, none⟩)] 164)) := (Below.heap_alloc W _ _ (by omega)).trans n1
  have nR := heap_alloc_new W (.cells #[.string over, .string key, .pointer (some ⟨w.heap.size + 1, 0, none⟩)] 164)
  rw [hsz] at nR
  generalize (rkL key).toArray = cs at hW n1
  obtain ⟨ga, hga⟩ : ∃ ga, w.heap.size = ga := ⟨_, rfl⟩
  go_enter Tryz.func182, Tryz.ntmps182
  rw [hga] at ca cb hsz hbz nz nR
  have q0 := Lib.cell_of_heap nR 0
  have q1 := Lib.cell_of_heap nR 1
  have q2 := Lib.cell_of_heap nR 2
  go_wp2_with fail
  exact bodyPost_ret (v := .agg #[.string over, .string key, .pointer (some ⟨ga + 1, 0, none⟩)]) (by simp [results, Tryz.results182, go_sem, q0, q1, q2]) rfl ⟨⟨ga + 1, rfl, by omega, nz⟩, by rw [hga]; exact hbz⟩
set_option maxRecDepth 100000 in
theorem rightOf_any (over under key : ByteArray) (par : Option Addr) (w : World) : Calls Tryz.prog 183 #[.agg #[.string over, .string under, .pointer par], .agg (rkL key).toArray] w fun e w' => (∃ g, e = .returned (.agg #[.string key, .string under, .pointer (some ⟨g, 0, none⟩)]) ∧ w.heap.size ≤ g ∧ RKb g key w') ∧ Below w.heap.size w w' := by
  obtain ⟨W, hW⟩ : ∃ W, (w.alloc (.cells #[.string over, .string under, .pointer par] 164)).alloc (.cells (rkL key).toArray 131) = W := ⟨_, rfl⟩
  have hb : Below w.heap.size w W := by rw [← hW]; exact ((Below.refl _ _).alloc (Nat.le_refl _) _).alloc (by simp) _
  have n0 : W.heap[w.heap.size]? = some (.cells #[.string over, .string under, .pointer par] 164) := by rw [← hW, Below.heap_alloc _ _ _ (by simp)]; exact heap_alloc_new w _
  have n1 : W.heap[w.heap.size + 1]? = some (.cells (rkL key).toArray 131) := by
    have := heap_alloc_new (w.alloc (.cells #[.string over, .string under, .pointer par] 164)) (.cells (rkL key).toArray 131)
    rw [← hW]; simpa using this
  have hsz : W.heap.size = w.heap.size + 1 + 1 := by rw [← hW]; simp
  have ca : W.cell? ⟨w.heap.size, 1, none⟩ = some (.string under) := Lib.cell_of_heap n0 1
  have cb : W.cell? ⟨w.heap.size + 1, 32, none⟩ = some (.string key) := RKb.c32 n1
  have hbz : Below w.heap.size w (W.alloc (.cells #[.string key, .string under, .pointer (some ⟨w.heap.size + 1, 0, none⟩)] 164)) := hb.alloc hb.size _
  have nz : RKb (w.heap.size + 1) key (W.alloc (.cells #[.string key, .string under, .pointer (some ⟨w.heap.size + 1, 0, none⟩)] 164)) := (Below.heap_alloc W _ _ (by omega)).trans n1
  have nR := heap_alloc_new W (.cells #[.string key, .string under, .pointer (some ⟨w.heap.size + 1, 0, none⟩)] 164)
  rw [hsz] at nR
  generalize (rkL key).toArray = cs at hW n1
  obtain ⟨ga, hga⟩ : ∃ ga, w.heap.size = ga := ⟨_, rfl⟩
  go_enter Tryz.func183, Tryz.ntmps183
  rw [hga] at ca cb hsz hbz nz nR
  have q0 := Lib.cell_of_heap nR 0
  have q1 := Lib.cell_of_heap nR 1
  have q2 := Lib.cell_of_heap nR 2
  go_wp2_with fail
  exact bodyPost_ret (v := .agg #[.string key, .string under, .pointer (some ⟨ga + 1, 0, none⟩)]) (by simp [results, Tryz.results183, go_sem, q0, q1, q2]) rfl ⟨⟨ga + 1, rfl, by omega, nz⟩, by rw [hga]; exact hbz⟩
end Go.Proofs.YtfmpjlpakldheaaGreatDoor
namespace Go.Proofs.YtfmpjlpakldheaaGreatDoor
open Go.RowKit Go.Proofs.Sha

theorem lessB_tri (a b : ByteArray) : lessB a b = !(lessB b a || (b.toList == a.toList)) := less_tri _ _
/-- 'canW' as the program asks it. -/
theorem canW_eq (over under lo hi : ByteArray) : canW over under lo hi = (if (!hi.toList.isEmpty && ((Op.bytesLess hi.toList lo.toList || (hi.toList == lo.toList)) || (Op.bytesLess hi.toList over.toList || (hi.toList == over.toList)))) = true then false else (under.toList.isEmpty || (!Op.bytesLess under.toList lo.toList && !(under.toList == lo.toList)))) := by
  unfold canW
  rw [lessB_tri lo hi, lessB_tri over hi, lessB_tri lo under, emp_iff, emp_iff]
  unfold lessB
  cases emp hi <;> cases emp under <;> cases Op.bytesLess hi.toList lo.toList <;> cases (hi.toList == lo.toList) <;> cases Op.bytesLess hi.toList over.toList <;> cases (hi.toList == over.toList) <;> simp
theorem hasW_eq (lo hi key : ByteArray) : hasW lo hi key = ((Op.bytesLess lo.toList key.toList || (lo.toList == key.toList)) && (hi.toList.isEmpty || Op.bytesLess key.toList hi.toList)) := by
  unfold hasW
  rw [lessB_tri key lo, emp_iff]
  unfold lessB
  simp
theorem can_any (lo hi over under : ByteArray) (par : Option Addr) (w : World) : Calls Tryz.prog 154 #[.agg #[.string lo, .string hi], .agg #[.string over, .string under, .pointer par]] w fun e w' => e = .returned (.bool (canW over under lo hi)) ∧ Below w.heap.size w w' := by
  have hb : Below w.heap.size w ((w.alloc (.cells #[.string lo, .string hi] 109)).alloc (.cells #[.string over, .string under, .pointer par] 164)) := ((Below.refl _ _).alloc (Nat.le_refl _) _).alloc (by simp) _
  have HR := canW_eq over under lo hi
  cases h1 : hi.toList.isEmpty with
  | false =>
    cases a1 : Op.bytesLess hi.toList lo.toList with
    | false =>
      cases a2 : (hi.toList == lo.toList) with
      | false =>
        cases a3 : Op.bytesLess hi.toList over.toList with
        | false =>
          cases a4 : (hi.toList == over.toList) with
          | false =>
            cases h2 : under.toList.isEmpty with
            | false =>
              rw [h1, a1, a2, a3, a4, h2] at HR
              have HR2 : Hid _ := HR
              clear HR
              go_enter Tryz.func154, Tryz.ntmps154
              go_wp2_with fail
              go_ret
              exact ⟨by rw [HR2.out]; rfl, hb⟩
            | true =>
              rw [h1, a1, a2, a3, a4, h2] at HR
              have HR2 : Hid _ := HR
              clear HR
              go_enter Tryz.func154, Tryz.ntmps154
              go_wp2_with fail
              go_ret
              exact ⟨by rw [HR2.out]; rfl, hb⟩
          | true =>
            rw [h1, a1, a2, a3, a4] at HR
            have HR2 : Hid _ := HR
            clear HR
            go_enter Tryz.func154, Tryz.ntmps154
            go_wp2_with fail
            go_ret
            exact ⟨by rw [HR2.out]; rfl, hb⟩
        | true =>
          rw [h1, a1, a2, a3] at HR
          have HR2 : Hid _ := HR
          clear HR
          go_enter Tryz.func154, Tryz.ntmps154
          go_wp2_with fail
          go_ret
          exact ⟨by rw [HR2.out]; rfl, hb⟩
      | true =>
        rw [h1, a1, a2] at HR
        have HR2 : Hid _ := HR
        clear HR
        go_enter Tryz.func154, Tryz.ntmps154
        go_wp2_with fail
        go_ret
        exact ⟨by rw [HR2.out]; rfl, hb⟩
    | true =>
      rw [h1, a1] at HR
      have HR2 : Hid _ := HR
      clear HR
      go_enter Tryz.func154, Tryz.ntmps154
      go_wp2_with fail
      go_ret
      exact ⟨by rw [HR2.out]; rfl, hb⟩
  | true =>
    cases h2 : under.toList.isEmpty with
    | false =>
      rw [h1, h2] at HR
      have HR2 : Hid _ := HR
      clear HR
      go_enter Tryz.func154, Tryz.ntmps154
      go_wp2_with fail
      go_ret
      exact ⟨by rw [HR2.out]; rfl, hb⟩
    | true =>
      rw [h1, h2] at HR
      have HR2 : Hid _ := HR
      clear HR
      go_enter Tryz.func154, Tryz.ntmps154
      go_wp2_with fail
      go_ret
      exact ⟨by rw [HR2.out]; rfl, hb⟩
theorem has_any (lo hi key : ByteArray) (w : World) : Calls Tryz.prog 121 #[.agg #[.string lo, .string hi], .string key] w fun e w' => e = .returned (.bool (hasW lo hi key)) ∧ Below w.heap.size w w' := by
  have hb : Below w.heap.size w (w.alloc (.cells #[.string lo, .string hi] 109)) := (Below.refl _ _).alloc (Nat.le_refl _) _
  have HR := hasW_eq lo hi key
  cases a1 : Op.bytesLess lo.toList key.toList with
  | false =>
    cases a2 : (lo.toList == key.toList) with
    | false =>
      rw [a1, a2] at HR
      have HR2 : Hid _ := HR
      clear HR
      go_enter Tryz.func121, Tryz.ntmps121
      go_wp2_with fail
      go_ret
      exact ⟨by rw [HR2.out]; rfl, hb⟩
    | true =>
      cases h1 : hi.toList.isEmpty with
      | false =>
        rw [a1, a2, h1] at HR
        have HR2 : Hid _ := HR
        clear HR
        go_enter Tryz.func121, Tryz.ntmps121
        go_wp2_with fail
        go_ret
        exact ⟨by rw [HR2.out]; rfl, hb⟩
      | true =>
        rw [a1, a2, h1] at HR
        have HR2 : Hid _ := HR
        clear HR
        go_enter Tryz.func121, Tryz.ntmps121
        go_wp2_with fail
        go_ret
        exact ⟨by rw [HR2.out]; rfl, hb⟩
  | true =>
    cases h1 : hi.toList.isEmpty with
    | false =>
      rw [a1, h1] at HR
      have HR2 : Hid _ := HR
      clear HR
      go_enter Tryz.func121, Tryz.ntmps121
      go_wp2_with fail
      go_ret
      exact ⟨by rw [HR2.out]; rfl, hb⟩
    | true =>
      rw [a1, h1] at HR
      have HR2 : Hid _ := HR
      clear HR
      go_enter Tryz.func121, Tryz.ntmps121
      go_wp2_with fail
      go_ret
      exact ⟨by rw [HR2.out]; rfl, hb⟩
end Go.Proofs.YtfmpjlpakldheaaGreatDoor
namespace Go.Proofs.YtfmpjlpakldheaaGreatDoor
open Go.RowKit Go.Proofs.Sha

/-- Keys that grow. -/
def KeysUp : List ByteArray → Prop
  | [] => True
  | k :: ks => (∀ x ∈ ks, lessB k x = true) ∧ KeysUp ks
theorem bl_irr (a : List UInt8) : Op.bytesLess a a = false := by
  induction a with
  | nil => rfl
  | cons x y ih => rw [Op.bytesLess]; simp [ih]
theorem bl_tr : ∀ (a b c : List UInt8), Op.bytesLess a b = true → Op.bytesLess b c = true → Op.bytesLess a c = true
  | [], [], _, h, _ => by simp [Op.bytesLess] at h
  | [], _ :: _, [], _, k => by simp [Op.bytesLess] at k
  | [], _ :: _, _ :: _, _, _ => by simp [Op.bytesLess]
  | _ :: _, [], _, h, _ => by simp [Op.bytesLess] at h
  | _ :: _, _ :: _, [], _, k => by simp [Op.bytesLess] at k
  | x :: xs, y :: ys, z :: zs, h, k => by
    rw [Op.bytesLess] at h k ⊢
    simp only [Bool.or_eq_true, Bool.and_eq_true, decide_eq_true_eq, beq_iff_eq] at h k ⊢
    rcases h with h | ⟨rfl, h⟩
    · rcases k with k | ⟨rfl, k⟩
      · exact .inl (by rw [UInt8.lt_iff_toNat_lt] at *; omega)
      · exact .inl h
    · rcases k with k | ⟨rfl, k⟩
      · exact .inl k
      · exact .inr ⟨rfl, bl_tr xs ys zs h k⟩
theorem lessB_irr (a : ByteArray) : lessB a a = false := bl_irr _
theorem lessB_tr {a b c : ByteArray} (h : lessB a b = true) (k : lessB b c = true) : lessB a c = true := bl_tr _ _ _ h k
theorem lessB_or (a b : ByteArray) (h : lessB a b = false) (hne : a ≠ b) : lessB b a = true := by
  rw [lessB_tri] at h
  rcases (Bool.or_eq_true _ _).mp (by cases hq : (lessB b a || (b.toList == a.toList)) with | true => rfl | false => rw [hq] at h; cases h) with h | h
  · exact h
  · have e : b.toList = a.toList := by simpa using h
    rw [ByteArray.toList_eq, ByteArray.toList_eq] at e
    exact absurd (ByteArray.ext (Array.toList_inj.1 e.symm)) hne
theorem KeysUp.one : ∀ {a b : List ByteArray}, KeysUp a → KeysUp b → (∀ x, x ∈ a ↔ x ∈ b) → a = b
  | [], [], _, _, _ => rfl
  | [], y :: ys, _, _, h => absurd ((h y).2 (List.mem_cons_self)) (by simp)
  | x :: xs, [], _, _, h => absurd ((h x).1 (List.mem_cons_self)) (by simp)
  | x :: xs, y :: ys, ha, hb, h => by
    have e : x = y := by
      rcases List.mem_cons.1 ((h x).1 List.mem_cons_self) with h1 | h1
      · exact h1
      · rcases List.mem_cons.1 ((h y).2 List.mem_cons_self) with h2 | h2
        · exact h2.symm
        · have q1 := hb.1 x h1
          have q2 := ha.1 y h2
          have := lessB_tr q1 q2
          rw [lessB_irr] at this
          cases this
    subst e
    rw [KeysUp.one ha.2 hb.2 (fun z => ?_)]
    constructor
    · intro hz
      rcases List.mem_cons.1 ((h z).1 (List.mem_cons_of_mem _ hz)) with h1 | h1
      · subst h1
        have := ha.1 z hz
        rw [lessB_irr] at this
        cases this
      · exact h1
    · intro hz
      rcases List.mem_cons.1 ((h z).2 (List.mem_cons_of_mem _ hz)) with h1 | h1
      · subst h1
        have := hb.1 z hz
        rw [lessB_irr] at this
        cases this
      · exact h1
/-- The pairs but one key's. -/
def wout (ps : List PairT) (k : ByteArray) : List PairT := ps.filter fun p => decide (p.1 ≠ k)
/-- The pairs with a key set, where the rest grows. -/
def ins (k v : ByteArray) : List PairT → List PairT
  | [] => [(k, v)]
  | p :: ps => if lessB k p.1 = true then (k, v) :: p :: ps else p :: ins k v ps
def wth (ps : List PairT) (k v : ByteArray) : List PairT := ins k v (wout ps k)
abbrev keys (ps : List PairT) : List ByteArray := ps.map Prod.fst
theorem ku_wout {ps : List PairT} (h : KeysUp (keys ps)) (k : ByteArray) : KeysUp (keys (wout ps k)) := by
  induction ps with
  | nil => exact h
  | cons p ps ih =>
    unfold wout at ih ⊢
    rw [List.filter_cons]
    split
    · refine ⟨fun x hx => ?_, ih h.2⟩
      obtain ⟨y, hy, rfl⟩ := List.mem_map.1 hx
      exact h.1 _ (List.mem_map.2 ⟨y, (List.mem_filter.1 hy).1, rfl⟩)
    · exact ih h.2
theorem mem_wout {ps : List PairT} {k x : ByteArray} : x ∈ keys (wout ps k) ↔ x ∈ keys ps ∧ x ≠ k := by
  unfold wout
  constructor
  · intro h
    obtain ⟨y, hy, rfl⟩ := List.mem_map.1 h
    obtain ⟨h1, h2⟩ := List.mem_filter.1 hy
    exact ⟨List.mem_map.2 ⟨y, h1, rfl⟩, by simpa using h2⟩
  · rintro ⟨h, hn⟩
    obtain ⟨y, hy, rfl⟩ := List.mem_map.1 h
    exact List.mem_map.2 ⟨y, List.mem_filter.2 ⟨hy, by simpa using hn⟩, rfl⟩
theorem mem_ins {k v x : ByteArray} : ∀ {ps : List PairT}, x ∈ keys (ins k v ps) ↔ x = k ∨ x ∈ keys ps
  | [] => by simp [ins]
  | p :: ps => by
    rw [ins]
    split
    · simp
    · have ih := mem_ins (k := k) (v := v) (x := x) (ps := ps)
      simp only [keys, List.map_cons, List.mem_cons] at ih ⊢
      rw [ih]
      constructor
      · rintro (h | h | h)
        · exact .inr (.inl h)
        · exact .inl h
        · exact .inr (.inr h)
      · rintro (h | h | h)
        · exact .inr (.inl h)
        · exact .inl h
        · exact .inr (.inr h)
theorem ku_ins {k v : ByteArray} : ∀ {ps : List PairT}, KeysUp (keys ps) → (∀ x ∈ keys ps, x ≠ k) → KeysUp (keys (ins k v ps))
  | [], _, _ => ⟨fun _ h => by simp at h, trivial⟩
  | p :: ps, h, hn => by
    rw [ins]
    split
    · rename_i hl
      refine ⟨fun x hx => ?_, h⟩
      rcases List.mem_cons.1 hx with e | hx
      · rw [e]; exact hl
      · exact lessB_tr hl (h.1 x hx)
    · rename_i hl
      refine ⟨fun x hx => ?_, ku_ins h.2 (fun x hx => hn x (List.mem_cons_of_mem _ hx))⟩
      rcases mem_ins.1 hx with e | hx
      · rw [e]
        exact lessB_or _ _ (by simpa using hl) (fun e => hn p.1 List.mem_cons_self e.symm)
      · exact h.1 x hx
theorem ku_wth {ps : List PairT} (h : KeysUp (keys ps)) (k v : ByteArray) : KeysUp (keys (wth ps k v)) := ku_ins (ku_wout h k) (fun _ hx => (mem_wout.1 hx).2)
theorem mem_wth {ps : List PairT} {k v x : ByteArray} : x ∈ keys (wth ps k v) ↔ x = k ∨ x ∈ keys ps := by
  unfold wth
  rw [mem_ins, mem_wout]
  constructor
  · rintro (h | h)
    · exact .inl h
    · exact .inr h.1
  · rintro (h | h)
    · exact .inl h
    · by_cases e : x = k
      · exact .inl e
      · exact .inr ⟨h, e⟩
end Go.Proofs.YtfmpjlpakldheaaGreatDoor
namespace Go.Proofs.YtfmpjlpakldheaaGreatDoor
open Go.RowKit Go.Proofs.Sha

abbrev ChT := ByteArray × Bool × ByteArray × Bool × ByteArray
def getP : List PairT → ByteArray → ByteArray × Bool
  | [], _ => (⟨#[]⟩, false)
  | p :: ps, k => if p.1 = k then (p.2, true) else getP ps k
def chOf (ps qs : List PairT) (k : ByteArray) : Option ChT :=
  if (getP ps k).2 ≠ (getP qs k).2 ∨ (getP ps k).1 ≠ (getP qs k).1 then some (k, (getP ps k).2, (getP ps k).1, (getP qs k).2, (getP qs k).1) else none
/-- The changes, two lists gone through side by side. -/
def chg : List PairT → List PairT → List ChT
  | [], [] => []
  | p :: ps, [] => (p.1, true, p.2, false, ⟨#[]⟩) :: chg ps []
  | [], q :: qs => (q.1, false, ⟨#[]⟩, true, q.2) :: chg [] qs
  | p :: ps, q :: qs => if p.1 = q.1 then (if p.2 = q.2 then chg ps qs else (p.1, true, p.2, true, q.2) :: chg ps qs) else if lessB p.1 q.1 = true then (p.1, true, p.2, false, ⟨#[]⟩) :: chg ps (q :: qs) else (q.1, false, ⟨#[]⟩, true, q.2) :: chg (p :: ps) qs
termination_by ps qs => ps.length + qs.length
def kU : List PairT → List PairT → List ByteArray
  | [], [] => []
  | p :: ps, [] => p.1 :: kU ps []
  | [], q :: qs => q.1 :: kU [] qs
  | p :: ps, q :: qs => if p.1 = q.1 then p.1 :: kU ps qs else if lessB p.1 q.1 = true then p.1 :: kU ps (q :: qs) else q.1 :: kU (p :: ps) qs
termination_by ps qs => ps.length + qs.length
theorem mem_kU (x : ByteArray) : ∀ (n : Nat) (ps qs : List PairT), ps.length + qs.length = n → (x ∈ kU ps qs ↔ x ∈ keys ps ∨ x ∈ keys qs) := by
  intro n
  induction n using Nat.strongRecOn with
  | ind n ih =>
    intro ps qs hn
    match ps, qs with
    | [], [] => rw [kU]; simp
    | p :: ps, [] =>
      rw [kU, List.mem_cons, ih _ (by simp at hn ⊢; omega) ps [] rfl]
      simp
    | [], q :: qs =>
      rw [kU, List.mem_cons, ih _ (by simp at hn ⊢; omega) [] qs rfl]
      simp
    | p :: ps, q :: qs =>
      rw [kU]
      split
      · rename_i e
        rw [List.mem_cons, ih _ (by simp at hn ⊢; omega) ps qs rfl]
        simp only [keys, List.map_cons, List.mem_cons]
        rw [e]
        constructor
        · rintro (h | h | h)
          · exact .inl (.inl h)
          · exact .inl (.inr h)
          · exact .inr (.inr h)
        · rintro ((h | h) | (h | h))
          · exact .inl h
          · exact .inr (.inl h)
          · exact .inl h
          · exact .inr (.inr h)
      · split
        · rw [List.mem_cons, ih _ (by simp at hn ⊢; omega) ps (q :: qs) rfl]
          simp only [keys, List.map_cons, List.mem_cons]
          constructor
          · rintro (h | h | h)
            · exact .inl (.inl h)
            · exact .inl (.inr h)
            · exact .inr h
          · rintro ((h | h) | h)
            · exact .inl h
            · exact .inr (.inl h)
            · exact .inr (.inr h)
        · rw [List.mem_cons, ih _ (by simp at hn ⊢; omega) (p :: ps) qs rfl]
          simp only [keys, List.map_cons, List.mem_cons]
          constructor
          · rintro (h | h | h)
            · exact .inr (.inl h)
            · exact .inl h
            · exact .inr (.inr h)
          · rintro (h | (h | h))
            · exact .inr (.inl h)
            · exact .inl h
            · exact .inr (.inr h)
theorem getP_none {ps : List PairT} {k : ByteArray} (h : k ∉ keys ps) : getP ps k = (⟨#[]⟩, false) := by
  induction ps with
  | nil => rfl
  | cons p ps ih =>
    simp only [keys, List.map_cons, List.mem_cons, not_or] at h
    rw [getP, if_neg (fun e => h.1 e.symm)]
    exact ih h.2
theorem getP_hit (p : PairT) (ps : List PairT) : getP (p :: ps) p.1 = (p.2, true) := by rw [getP, if_pos rfl]
theorem getP_skip {p : PairT} {ps : List PairT} {k : ByteArray} (h : p.1 ≠ k) : getP (p :: ps) k = getP ps k := by rw [getP, if_neg h]
theorem ne_of_less {a b : ByteArray} (h : lessB a b = true) : a ≠ b := fun e => by subst e; rw [lessB_irr] at h; cases h
theorem fm_congr {f g : ByteArray → Option ChT} : ∀ {l : List ByteArray}, (∀ x ∈ l, f x = g x) → l.filterMap f = l.filterMap g
  | [], _ => rfl
  | a :: l, h => by rw [List.filterMap_cons, List.filterMap_cons, h a List.mem_cons_self, fm_congr (fun x hx => h x (List.mem_cons_of_mem _ hx))]
theorem chg_kU : ∀ (n : Nat) (ps qs : List PairT), ps.length + qs.length = n → KeysUp (keys ps) → KeysUp (keys qs) → KeysUp (kU ps qs) ∧ chg ps qs = (kU ps qs).filterMap (chOf ps qs) := by
  intro n
  induction n using Nat.strongRecOn with
  | ind n ih =>
    intro ps qs hn hp hq
    match ps, qs with
    | [], [] => rw [kU, chg]; exact ⟨trivial, rfl⟩
    | p :: ps, [] =>
      obtain ⟨i1, i2⟩ := ih _ (by simp at hn ⊢; omega) ps [] rfl hp.2 hq
      have hm : ∀ x ∈ kU ps [], lessB p.1 x = true := fun x hx => by
        rcases (mem_kU x _ ps [] rfl).1 hx with h | h
        · exact hp.1 x h
        · simp at h
      rw [kU, chg, i2]
      refine ⟨⟨hm, i1⟩, ?_⟩
      have e0 : chOf (p :: ps) [] p.1 = some (p.1, true, p.2, false, ⟨#[]⟩) := by
        unfold chOf
        rw [getP_hit, getP]
        simp
      rw [List.filterMap_cons, e0]
      congr 1
      refine fm_congr fun x hx => ?_
      unfold chOf
      rw [getP_skip (ne_of_less (hm x hx))]
    | [], q :: qs =>
      obtain ⟨i1, i2⟩ := ih _ (by simp at hn ⊢; omega) [] qs rfl hp hq.2
      have hm : ∀ x ∈ kU [] qs, lessB q.1 x = true := fun x hx => by
        rcases (mem_kU x _ [] qs rfl).1 hx with h | h
        · simp at h
        · exact hq.1 x h
      rw [kU, chg, i2]
      refine ⟨⟨hm, i1⟩, ?_⟩
      have e0 : chOf [] (q :: qs) q.1 = some (q.1, false, ⟨#[]⟩, true, q.2) := by
        unfold chOf
        rw [getP_hit, getP]
        simp
      rw [List.filterMap_cons, e0]
      congr 1
      refine fm_congr fun x hx => ?_
      unfold chOf
      rw [getP_skip (ps := qs) (ne_of_less (hm x hx))]
    | p :: ps, q :: qs =>
      rw [kU, chg]
      by_cases e : p.1 = q.1
      · rw [if_pos e, if_pos e]
        obtain ⟨i1, i2⟩ := ih _ (by simp at hn ⊢; omega) ps qs rfl hp.2 hq.2
        have hm : ∀ x ∈ kU ps qs, lessB p.1 x = true := fun x hx => by
          rcases (mem_kU x _ ps qs rfl).1 hx with h | h
          · exact hp.1 x h
          · rw [e]; exact hq.1 x h
        refine ⟨⟨hm, i1⟩, ?_⟩
        have hc : (kU ps qs).filterMap (chOf (p :: ps) (q :: qs)) = (kU ps qs).filterMap (chOf ps qs) := fm_congr fun x hx => by
          unfold chOf
          rw [getP_skip (ps := ps) (ne_of_less (hm x hx)), getP_skip (ps := qs) (by rw [← e]; exact ne_of_less (hm x hx))]
        have e0 : chOf (p :: ps) (q :: qs) p.1 = if p.2 = q.2 then none else some (p.1, true, p.2, true, q.2) := by
          unfold chOf
          rw [getP_hit]
          have : getP (q :: qs) p.1 = (q.2, true) := by rw [e]; exact getP_hit q qs
          rw [this]
          by_cases e2 : p.2 = q.2 <;> simp [e2]
        rw [List.filterMap_cons, e0, hc, i2]
        split <;> rfl
      · rw [if_neg e, if_neg e]
        cases hl : lessB p.1 q.1 with
        | true =>
          rw [if_pos rfl, if_pos rfl]
          obtain ⟨i1, i2⟩ := ih _ (by simp at hn ⊢; omega) ps (q :: qs) rfl hp.2 hq
          have hm : ∀ x ∈ kU ps (q :: qs), lessB p.1 x = true := fun x hx => by
            rcases (mem_kU x _ ps (q :: qs) rfl).1 hx with h | h
            · exact hp.1 x h
            · rcases List.mem_cons.1 h with h | h
              · rw [h]; exact hl
              · exact lessB_tr hl (hq.1 x h)
          refine ⟨⟨hm, i1⟩, ?_⟩
          have hnq : p.1 ∉ keys (q :: qs) := fun h => by
            rcases List.mem_cons.1 h with h | h
            · exact e h
            · have := lessB_tr hl (hq.1 _ h); rw [lessB_irr] at this; cases this
          have e0 : chOf (p :: ps) (q :: qs) p.1 = some (p.1, true, p.2, false, ⟨#[]⟩) := by
            unfold chOf
            rw [getP_hit, getP_none hnq]
            simp
          rw [List.filterMap_cons, e0, i2]
          congr 1
          refine fm_congr fun x hx => ?_
          unfold chOf
          rw [getP_skip (ps := ps) (ne_of_less (hm x hx))]
        | false =>
          rw [if_neg (by decide), if_neg (by decide)]
          have hl2 := lessB_or _ _ hl e
          obtain ⟨i1, i2⟩ := ih _ (by simp at hn ⊢; omega) (p :: ps) qs rfl hp hq.2
          have hm : ∀ x ∈ kU (p :: ps) qs, lessB q.1 x = true := fun x hx => by
            rcases (mem_kU x _ (p :: ps) qs rfl).1 hx with h | h
            · rcases List.mem_cons.1 h with h | h
              · rw [h]; exact hl2
              · exact lessB_tr hl2 (hp.1 x h)
            · exact hq.1 x h
          refine ⟨⟨hm, i1⟩, ?_⟩
          have hnq : q.1 ∉ keys (p :: ps) := fun h => by
            rcases List.mem_cons.1 h with h | h
            · exact e h.symm
            · have := lessB_tr hl2 (hp.1 _ h); rw [lessB_irr] at this; cases this
          have e0 : chOf (p :: ps) (q :: qs) q.1 = some (q.1, false, ⟨#[]⟩, true, q.2) := by
            unfold chOf
            rw [getP_hit, getP_none hnq]
            simp
          rw [List.filterMap_cons, e0, i2]
          congr 1
          refine fm_congr fun x hx => ?_
          unfold chOf
          rw [getP_skip (ps := qs) (ne_of_less (hm x hx))]
/-- Every key of either. -/
def uni (ps qs : List PairT) : List PairT := qs.foldl (fun a q => wth a q.1 ⟨#[]⟩) ps
theorem uni_up : ∀ (qs ps : List PairT), KeysUp (keys ps) → KeysUp (keys (uni ps qs)) ∧ ∀ x, x ∈ keys (uni ps qs) ↔ x ∈ keys ps ∨ x ∈ keys qs
  | [], ps, h => ⟨h, fun x => by simp [uni]⟩
  | q :: qs, ps, h => by
    obtain ⟨h1, h2⟩ := uni_up qs (wth ps q.1 ⟨#[]⟩) (ku_wth h _ _)
    refine ⟨h1, fun x => ?_⟩
    have h3 := h2 x
    rw [mem_wth] at h3
    show x ∈ keys (uni (wth ps q.1 ⟨#[]⟩) qs) ↔ _
    rw [h3]
    simp only [keys, List.map_cons, List.mem_cons]
    constructor
    · rintro ((h | h) | h)
      · exact .inr (.inl h)
      · exact .inl h
      · exact .inr (.inr h)
    · rintro (h | (h | h))
      · exact .inl (.inr h)
      · exact .inl (.inl h)
      · exact .inr h
/-- The model's changes are those of going side by side. -/
theorem chg_uni {ps qs : List PairT} (hp : KeysUp (keys ps)) (hq : KeysUp (keys qs)) : (keys (uni ps qs)).filterMap (chOf ps qs) = chg ps qs := by
  obtain ⟨h1, h2⟩ := uni_up qs ps hp
  obtain ⟨h3, h4⟩ := chg_kU _ ps qs rfl hp hq
  rw [h4, KeysUp.one h1 h3 (fun x => by rw [h2 x, mem_kU x _ ps qs rfl])]
end Go.Proofs.YtfmpjlpakldheaaGreatDoor
namespace Go.Proofs.YtfmpjlpakldheaaGreatDoor
open Go.RowKit Go.Proofs.Sha

theorem wr_in64 (n : Int) (h : -9223372036854775808 ≤ n ∧ n ≤ 9223372036854775807) : wrap64 n = n := by unfold wrap64; omega
/-- Within the law's bound. -/
def SmallP (ps : List PairT) : Prop := ps.length ≤ 1048576 ∧ ∀ j, (ps.getD j noPair).1.size ≤ 1048576 ∧ (ps.getD j noPair).2.size ≤ 1048576
theorem pget_out (ps : List PairT) (j : Nat) (h : ps.length ≤ j) : ps.getD j noPair = noPair := by
  rw [List.getD_eq_getElem?_getD, List.getElem?_eq_none h]; rfl
end Go.Proofs.YtfmpjlpakldheaaGreatDoor
namespace Go.Proofs.YtfmpjlpakldheaaGreatDoor
open Go.RowKit Go.Proofs.Sha

/-- Pairs as cells. -/
def flatP : List PairT → List Value
  | [] => []
  | p :: l => .string p.1 :: .string p.2 :: flatP l
theorem flatP_len : ∀ l : List PairT, (flatP l).length = l.length * 2
  | [] => rfl
  | p :: l => by simp only [flatP, List.length_cons, flatP_len l]; omega
theorem flatP_app : ∀ l m : List PairT, flatP (l ++ m) = flatP l ++ flatP m
  | [], m => rfl
  | p :: l, m => by simp only [List.cons_append, flatP, flatP_app l m]
theorem flatP_get : ∀ (l : List PairT) (j : Nat), j < l.length → (flatP l)[j * 2]? = some (.string (l.getD j noPair).1) ∧ (flatP l)[j * 2 + 1]? = some (.string (l.getD j noPair).2)
  | [], j, h => absurd h (Nat.not_lt_zero _)
  | p :: l, 0, _ => ⟨rfl, rfl⟩
  | p :: l, j + 1, h => by
    have := flatP_get l j (by simpa using h)
    rw [show (j + 1) * 2 = j * 2 + 2 by omega]
    simpa [flatP] using this
theorem Row.parg {w : World} {base g c n : Nat} {ps : List PairT} (h : Row w base g n c (flatP ps)) (hs : SmallP ps) : PArg (some ⟨g, 0, none⟩) ps w := by
  refine ⟨hs.1, hs.2, fun _ => ⟨g, 0, rfl, h.lt, fun j hj => ?_⟩⟩
  have hn := h.len
  rw [flatP_len] at hn
  obtain ⟨e0, e1⟩ := flatP_get ps j hj
  rw [Nat.zero_add]
  exact ⟨(h.cell _ (by omega)).trans e0, (h.cell _ (by omega)).trans e1⟩
theorem info37 : (Tryz.prog.info? 34).map (fun i => (i.zero, i.size, i.bytes)) = some (some (.agg #[.string ⟨#[]⟩, .string ⟨#[]⟩]), 2, 32) := by kernel_rfl
theorem info_parts2 {i : Option TypeInfo} {a : Option Value} {b c : Nat} (h : i.map (fun i => (i.zero, i.size, i.bytes)) = some (a, b, c)) : ∃ j, i = some j ∧ j.zero = a ∧ j.size = b ∧ j.bytes = c := by
  cases i with
  | none => cases h
  | some j => simp only [Option.map_some, Option.some.injEq, Prod.mk.injEq] at h; exact ⟨j, rfl, h.1, h.2.1, h.2.2⟩
end Go.Proofs.YtfmpjlpakldheaaGreatDoor
