import Derived.Test.YtgicihmdcnelaaaGreatDoorZak
import Derived.Test.YtgicihmdcnelaaaGreatDoorZan
import Derived.Test.YtgicihmdcnelaaaGreatDoorZal
import Derived.Test.YtgicihmdcnelaaaGreatDoorZad
import Derived.Deep.AppendLies
namespace Go.Proofs.YtgicihmdcnelaaaGreatDoor
open Go.RowKit Go.Proofs.Sha

def Ptr (p : Option Addr) (w : World) : Prop := p = none ∨ ∃ (x : Nat) (cs : Array Value) (u : TypeId), p = some ⟨x, 0, none⟩ ∧ w.heap[x]? = some (.cells cs u (0, 0))
theorem size125 : (Tryz.prog.info? 123).map (·.size) = some 33 := by kernel_rfl
theorem size75 : (Tryz.prog.info? 160).map (·.size) = some 10 := by kernel_rfl
theorem ptr_eqlR (a b : Option Addr) (w : World) (ha : Ptr a w) (hb : Ptr b w) : (binOp .eql 156 (.pointer a) (.pointer b)).run Tryz.prog w = .ok (.bool (decide (a = b))) w := by
  obtain ⟨j, h1, h2⟩ := Option.map_eq_some_iff.1 size125
  exact run_eql_ptr 156 123 j Tryz.underlying156 h1 (by rw [h2]; decide) a b w ha hb
theorem ptr_eqlB (a b : Option Addr) (w : World) (ha : Ptr a w) (hb : Ptr b w) : (binOp .eql 155 (.pointer a) (.pointer b)).run Tryz.prog w = .ok (.bool (decide (a = b))) w := by
  obtain ⟨j, h1, h2⟩ := Option.map_eq_some_iff.1 size75
  exact run_eql_ptr 155 160 j Tryz.underlying155 h1 (by rw [h2]; decide) a b w ha hb
/-- One key above another. -/
def hgW (a b : ByteArray) : Bool := rk (sha a.data.toList) (sha b.data.toList) a.data.toList b.data.toList
/-- The parent's rank, if there is one. -/
def ParAt (par : Option Addr) (pk : ByteArray) (w : World) : Prop := (par = none ∧ emp pk = true) ∨ (emp pk = false ∧ ∃ g, par = some ⟨g, 0, none⟩ ∧ RKb g pk w)
theorem fits_no (over under key : ByteArray) (par : Option Addr) (w : World) (h : insW over under key = false) : Calls Tryz.prog 148 #[.agg #[.string over, .string under, .pointer par], .agg (rkL key).toArray] w fun e w' => e = .returned (.bool false) ∧ Below w.heap.size w w' := by
  obtain ⟨W, hW⟩ : ∃ W, (w.alloc (.cells #[.string over, .string under, .pointer par] 158)).alloc (.cells (rkL key).toArray 123) = W := ⟨_, rfl⟩
  have hb : Below w.heap.size w W := by rw [← hW]; exact ((Below.refl _ _).alloc (Nat.le_refl _) _).alloc (by simp) _
  have n0 : W.heap[w.heap.size]? = some (.cells #[.string over, .string under, .pointer par] 158) := by rw [← hW, Below.heap_alloc _ _ _ (by simp)]; exact heap_alloc_new w _
  have n1 : W.heap[w.heap.size + 1]? = some (.cells (rkL key).toArray 123) := by
    have := heap_alloc_new (w.alloc (.cells #[.string over, .string under, .pointer par] 158)) (.cells (rkL key).toArray 123)
    rw [← hW]; simpa using this
  have ca : W.cell? ⟨w.heap.size, 0, none⟩ = some (.string over) := Lib.cell_of_heap n0 0
  have cc : W.cell? ⟨w.heap.size, 1, none⟩ = some (.string under) := Lib.cell_of_heap n0 1
  have cb : W.cell? ⟨w.heap.size + 1, 32, none⟩ = some (.string key) := RKb.c32 n1
  generalize (rkL key).toArray = cs at hW n1
  obtain ⟨ga, hga⟩ : ∃ ga, w.heap.size = ga := ⟨_, rfl⟩
  rw [hga] at ca cb cc
  cases a1 : Op.bytesLess key.toList over.toList with
  | true =>
    go_enter Tryz.func148, Tryz.ntmps148
    go_wp2_with fail
    go_ret
    exact ⟨rfl, by rw [hga] at hb ⊢; exact hb⟩
  | false =>
    cases a2 : (key.toList == over.toList) with
    | true =>
      go_enter Tryz.func148, Tryz.ntmps148
      go_wp2_with fail
      go_ret
      exact ⟨rfl, by rw [hga] at hb ⊢; exact hb⟩
    | false =>
      have hin : (emp under || lessB key under) = false := by
        unfold insW at h
        rw [lessB_tri over key] at h
        have : lessB key over = false := a1
        rw [this, a2] at h
        simpa using h
      rw [Bool.or_eq_false_iff] at hin
      have e2 := emp_iff under
      rw [hin.1] at e2
      have a3 : Op.bytesLess key.toList under.toList = false := hin.2
      go_enter Tryz.func148, Tryz.ntmps148
      go_wp2_with fail
      go_ret
      exact ⟨rfl, by rw [hga] at hb ⊢; exact hb⟩
theorem ins_yes {over under key : ByteArray} (h : insW over under key = true) : Op.bytesLess key.toList over.toList = false ∧ (key.toList == over.toList) = false ∧ (under.toList.isEmpty = true ∨ (under.toList.isEmpty = false ∧ Op.bytesLess key.toList under.toList = true)) := by
  unfold insW at h
  rw [Bool.and_eq_true, lessB_tri over key] at h
  obtain ⟨h1, h2⟩ := h
  have h1' : (lessB key over || (key.toList == over.toList)) = false := by simpa using h1
  rw [Bool.or_eq_false_iff] at h1'
  refine ⟨h1'.1, h1'.2, ?_⟩
  rw [emp_iff]
  cases hu : emp under with
  | true => exact .inl rfl
  | false => rw [hu, Bool.false_or] at h2; exact .inr ⟨rfl, h2⟩
set_option maxRecDepth 100000 in
set_option maxHeartbeats 1000000 in
theorem fits_top (over under key : ByteArray) (w : World) (h : insW over under key = true) : Calls Tryz.prog 148 #[.agg #[.string over, .string under, .pointer none], .agg (rkL key).toArray] w fun e w' => e = .returned (.bool true) ∧ Below w.heap.size w w' := by
  obtain ⟨W, hW⟩ : ∃ W, (w.alloc (.cells #[.string over, .string under, .pointer none] 158)).alloc (.cells (rkL key).toArray 123) = W := ⟨_, rfl⟩
  have hb : Below w.heap.size w W := by rw [← hW]; exact ((Below.refl _ _).alloc (Nat.le_refl _) _).alloc (by simp) _
  have n0 : W.heap[w.heap.size]? = some (.cells #[.string over, .string under, .pointer none] 158) := by rw [← hW, Below.heap_alloc _ _ _ (by simp)]; exact heap_alloc_new w _
  have n1 : W.heap[w.heap.size + 1]? = some (.cells (rkL key).toArray 123) := by
    have := heap_alloc_new (w.alloc (.cells #[.string over, .string under, .pointer none] 158)) (.cells (rkL key).toArray 123)
    rw [← hW]; simpa using this
  have ca : W.cell? ⟨w.heap.size, 0, none⟩ = some (.string over) := Lib.cell_of_heap n0 0
  have cc : W.cell? ⟨w.heap.size, 1, none⟩ = some (.string under) := Lib.cell_of_heap n0 1
  have cd : W.cell? ⟨w.heap.size, 2, none⟩ = some (.pointer none) := Lib.cell_of_heap n0 2
  have cb : W.cell? ⟨w.heap.size + 1, 32, none⟩ = some (.string key) := RKb.c32 n1
  have qn : ∀ W' : World, (binOp .eql 156 (.pointer none) (.pointer none)).run Tryz.prog W' = .ok (.bool true) W' := fun W' => by rw [ptr_eqlR none none W' (.inl rfl) (.inl rfl)]; rfl
  generalize (rkL key).toArray = cs at hW n1
  obtain ⟨ga, hga⟩ : ∃ ga, w.heap.size = ga := ⟨_, rfl⟩
  rw [hga] at ca cb cc cd
  obtain ⟨a1, a2, ha⟩ := ins_yes h
  clear h
  rcases ha with e2 | ⟨e2, a3⟩
  all_goals
    go_enter Tryz.func148, Tryz.ntmps148
    go_upto_region 3 with fail
    go_quiet (fail)
    go_wp2_with fail
    go_ret
    exact ⟨rfl, by rw [hga] at hb ⊢; exact ⟨hb.os, hb.tape, hb.output, hb.size, hb.block⟩⟩
set_option maxRecDepth 100000 in
set_option maxHeartbeats 2000000 in
theorem fits_par (over under key pk : ByteArray) (g : Nat) (w : World) (h : insW over under key = true) (hg : RKb g pk w) : Calls Tryz.prog 148 #[.agg #[.string over, .string under, .pointer (some ⟨g, 0, none⟩)], .agg (rkL key).toArray] w fun e w' => e = .returned (.bool (hgW pk key)) ∧ Below w.heap.size w w' := by
  obtain ⟨W, hW⟩ : ∃ W, (w.alloc (.cells #[.string over, .string under, .pointer (some ⟨g, 0, none⟩)] 158)).alloc (.cells (rkL key).toArray 123) = W := ⟨_, rfl⟩
  have hb : Below w.heap.size w W := by rw [← hW]; exact ((Below.refl _ _).alloc (Nat.le_refl _) _).alloc (by simp) _
  have n0 : W.heap[w.heap.size]? = some (.cells #[.string over, .string under, .pointer (some ⟨g, 0, none⟩)] 158) := by rw [← hW, Below.heap_alloc _ _ _ (by simp)]; exact heap_alloc_new w _
  have n1 : RKb (w.heap.size + 1) key W := by
    have := heap_alloc_new (w.alloc (.cells #[.string over, .string under, .pointer (some ⟨g, 0, none⟩)] 158)) (.cells (rkL key).toArray 123)
    unfold RKb
    rw [← hW]; simpa using this
  have hg1 : RKb g pk W := (hb.block g (Array.getElem?_eq_some_iff.1 hg).1).trans hg
  have ca : W.cell? ⟨w.heap.size, 0, none⟩ = some (.string over) := Lib.cell_of_heap n0 0
  have cc : W.cell? ⟨w.heap.size, 1, none⟩ = some (.string under) := Lib.cell_of_heap n0 1
  have cd : W.cell? ⟨w.heap.size, 2, none⟩ = some (.pointer (some ⟨g, 0, none⟩)) := Lib.cell_of_heap n0 2
  have cb : W.cell? ⟨w.heap.size + 1, 32, none⟩ = some (.string key) := RKb.c32 n1
  have qn : ∀ W' : World, RKb g pk W' → (binOp .eql 156 (.pointer (some ⟨g, 0, none⟩)) (.pointer none)).run Tryz.prog W' = .ok (.bool false) W' := fun W' hW' => by rw [ptr_eqlR _ none W' (.inr ⟨g, _, _, rfl, hW'⟩) (.inl rfl)]; rfl
  have r1 := hg1.range
  have r2 := n1.range
  have HAB : Hid (∀ w', Calls Tryz.prog 90 #[.agg (rkL pk).toArray, .agg (rkL key).toArray] w' fun e w'' => e = .returned (.bool (hgW pk key)) ∧ Below w'.heap.size w' w'') := fun w' => above_any _ _ (by unfold sha; rw [outTo_length]) (by unfold sha; rw [outTo_length]) pk key w'
  obtain ⟨ga, hga⟩ : ∃ ga, w.heap.size = ga := ⟨_, rfl⟩
  rw [hga] at ca cb cc cd r2
  obtain ⟨a1, a2, ha⟩ := ins_yes h
  clear h
  have hq := qn W hg1
  have HS : Hid (∀ W', Below W.heap.size W W' → W'.rangeAt g 0 (rkL pk) ∧ W'.rangeAt (ga + 1) 0 (rkL key) ∧ W'.cell? ⟨ga, 2, none⟩ = some (.pointer (some ⟨g, 0, none⟩)) ∧ (binOp .eql 156 (.pointer (some ⟨g, 0, none⟩)) (.pointer none)).run Tryz.prog W' = .ok (.bool false) W') := fun W' hW' => by
    have x1 : RKb g pk W' := (hW'.block g (Array.getElem?_eq_some_iff.1 hg1).1).trans hg1
    rw [hga] at n1 n0
    have x2 : RKb (ga + 1) key W' := (hW'.block (ga + 1) (Array.getElem?_eq_some_iff.1 n1).1).trans n1
    have x3 := (hW'.block ga (Array.getElem?_eq_some_iff.1 n0).1).trans n0
    exact ⟨x1.range, x2.range, Lib.cell_of_heap x3 2, qn W' x1⟩
  clear qn hq
  rcases ha with e2 | ⟨e2, a3⟩
  · go_enter Tryz.func148, Tryz.ntmps148
    go_upto_region 3 with fail
    refine wp_region_held_drew (S := fun W' => W'.rangeAt g 0 (rkL pk) ∧ W'.rangeAt (ga + 1) 0 (rkL key) ∧ W'.cell? ⟨ga, 2, none⟩ = some (.pointer (some ⟨g, 0, none⟩)) ∧ (binOp .eql 156 (.pointer (some ⟨g, 0, none⟩)) (.pointer none)).run Tryz.prog W' = .ok (.bool false) W') (by kernel_rfl) (HS.out _ (Below.refl _ _).drew) (fun hHeld => ?_)
    refine wpAnyH_take (i := 0) (v := ?_) rfl (by kernel_rfl) (by kernel_rfl) (by kernel_rfl) (fun _ _ _ h => h) (Or.inl ⟨by rfl, ?_⟩) (by assumption) ?_
    rotate_left
    · intro w hSw; obtain ⟨_, _, h3, h4⟩ := hSw; go_simp; rfl
    simp only [Act.put, List.setIfInBounds_toArray, List.set_cons_zero, List.set_cons_succ, List.getElem_toArray, List.getElem_cons_zero]
    refine wpAnyH_take (i := 1) (v := ?_) rfl (by kernel_rfl) (by kernel_rfl) (by kernel_rfl) (fun _ _ _ h => h) (Or.inl ⟨by rfl, ?_⟩) (by assumption) ?_
    rotate_left
    · intro w hSw; obtain ⟨_, _, h3, h4⟩ := hSw; go_simp; rfl
    simp only [Act.put, List.setIfInBounds_toArray, List.set_cons_zero, List.set_cons_succ, List.getElem_toArray, List.getElem_cons_zero, List.getElem_cons_succ]
    refine wpAnyH_take (i := 2) (v := ?_) rfl (by kernel_rfl) (by kernel_rfl) (by kernel_rfl) (fun _ _ _ h => h) (Or.inl ⟨by rfl, ?_⟩) (by assumption) ?_
    rotate_left
    · intro w hSw; obtain ⟨_, _, h3, h4⟩ := hSw; go_simp; rfl
    simp only [Act.put, List.setIfInBounds_toArray, List.set_cons_zero, List.set_cons_succ, List.getElem_toArray, List.getElem_cons_zero, List.getElem_cons_succ]
    refine wpAnyH_take (i := 3) (v := ?_) rfl (by kernel_rfl) (by kernel_rfl) (by kernel_rfl) (fun _ _ _ h => h) (Or.inl ⟨by rfl, ?_⟩) (by assumption) ?_
    rotate_left
    · intro w hSw; obtain ⟨_, _, h3, h4⟩ := hSw; go_simp; rfl
    simp only [Act.put, List.setIfInBounds_toArray, List.set_cons_zero, List.set_cons_succ, List.getElem_toArray, List.getElem_cons_zero, List.getElem_cons_succ]
    refine wpAnyH_take (i := 4) (v := ?_) rfl (by kernel_rfl) (by kernel_rfl) (by kernel_rfl) (fun _ _ _ h => h) (Or.inl ⟨by rfl, ?_⟩) (by assumption) ?_
    rotate_left
    · intro w hSw; obtain ⟨_, _, h3, h4⟩ := hSw; go_simp; rfl
    simp only [Act.put, List.setIfInBounds_toArray, List.set_cons_zero, List.set_cons_succ, List.getElem_toArray, List.getElem_cons_zero, List.getElem_cons_succ]
    refine wpAnyH_take (i := 5) (v := ?_) rfl (by kernel_rfl) (by kernel_rfl) (by kernel_rfl) (fun _ _ _ h => h) (Or.inl ⟨by rfl, ?_⟩) (by assumption) ?_
    rotate_left
    · intro w hSw; obtain ⟨_, _, h3, h4⟩ := hSw; go_simp; rfl
    simp only [Act.put, List.setIfInBounds_toArray, List.set_cons_zero, List.set_cons_succ, List.getElem_toArray, List.getElem_cons_zero, List.getElem_cons_succ]
    refine wpAnyH_take (i := 6) (v := ?_) rfl (by kernel_rfl) (by kernel_rfl) (by kernel_rfl) (fun _ _ _ h => h) (Or.inl ⟨by rfl, ?_⟩) (by assumption) ?_
    rotate_left
    · intro w hSw; obtain ⟨_, _, h3, h4⟩ := hSw; go_simp; rfl
    simp only [Act.put, List.setIfInBounds_toArray, List.set_cons_zero, List.set_cons_succ, List.getElem_toArray, List.getElem_cons_zero, List.getElem_cons_succ]
    refine wpAnyH_take (i := 7) (v := _) rfl (by kernel_rfl) (by kernel_rfl) (by kernel_rfl) (fun _ _ _ h => h) (yieldsIf_load_mid (by rfl) _ _ rfl _ _ rfl (rkL pk) _ (fun w h => h.1) Tryz.underlying123 rfl (by rw [rkL_len]; exact size125)) (by assumption) ?_
    simp only [Act.put, List.setIfInBounds_toArray, List.set_cons_zero, List.set_cons_succ, List.getElem_toArray, List.getElem_cons_zero, List.getElem_cons_succ]
    refine wpAnyH_take (i := 8) (v := _) rfl (by kernel_rfl) (by kernel_rfl) (by kernel_rfl) (fun _ _ _ h => h) (yieldsIf_load_mid (by rfl) _ _ rfl _ _ rfl (rkL key) _ (fun w h => h.2.1) Tryz.underlying123 rfl (by rw [rkL_len]; exact size125)) (by assumption) ?_
    simp only [Act.put, List.setIfInBounds_toArray, List.set_cons_zero, List.set_cons_succ, List.getElem_toArray, List.getElem_cons_zero, List.getElem_cons_succ]
    refine wpAnyH_ready (rs := [9]) (by kernel_rfl) (by simp) ?_
    refine AllReadyH.cons rfl (fun K hK => ?_) AllReadyH.nil
    go_simp
    refine (HAB.out _).mono ?_
    rintro e w1 ⟨rfl, hb1'⟩
    have hbw1 : Below W.heap.size W w1 := ((Below.refl W.heap.size W).drew).trans hb1'
    refine hK.out _ _ (HS.out _ hbw1) (fun hHeld => ?_)
    clear hK K
    refine wpAnyH_take (i := 10) (v := ?_) rfl (by kernel_rfl) (by kernel_rfl) (by kernel_rfl) (fun _ _ _ h => h) (Or.inl ⟨by rfl, ?_⟩) (by assumption) ?_
    rotate_left
    · intro w hSw; obtain ⟨_, _, h3, h4⟩ := hSw; go_simp; rfl
    simp only [Act.put, List.setIfInBounds_toArray, List.set_cons_zero, List.set_cons_succ, List.getElem_toArray, List.getElem_cons_zero, List.getElem_cons_succ]
    refine wpAnyH_take (i := 11) (v := ?_) rfl (by kernel_rfl) (by kernel_rfl) (by kernel_rfl) (fun _ _ _ h => h) (Or.inl ⟨by rfl, ?_⟩) (by assumption) ?_
    rotate_left
    · intro w hSw; obtain ⟨_, _, h3, h4⟩ := hSw; go_simp; rfl
    simp only [Act.put, List.setIfInBounds_toArray, List.set_cons_zero, List.set_cons_succ, List.getElem_toArray, List.getElem_cons_zero, List.getElem_cons_succ]
    refine wpAnyH_done (by kernel_rfl) ?_ _
    go_wp2_with fail
    go_ret
    exact ⟨rfl, hb.trans (hbw1.mono hb.size)⟩
  · go_enter Tryz.func148, Tryz.ntmps148
    go_upto_region 3 with fail
    refine wp_region_held_drew (S := fun W' => W'.rangeAt g 0 (rkL pk) ∧ W'.rangeAt (ga + 1) 0 (rkL key) ∧ W'.cell? ⟨ga, 2, none⟩ = some (.pointer (some ⟨g, 0, none⟩)) ∧ (binOp .eql 156 (.pointer (some ⟨g, 0, none⟩)) (.pointer none)).run Tryz.prog W' = .ok (.bool false) W') (by kernel_rfl) (HS.out _ (Below.refl _ _).drew) (fun hHeld => ?_)
    refine wpAnyH_take (i := 0) (v := ?_) rfl (by kernel_rfl) (by kernel_rfl) (by kernel_rfl) (fun _ _ _ h => h) (Or.inl ⟨by rfl, ?_⟩) (by assumption) ?_
    rotate_left
    · intro w hSw; obtain ⟨_, _, h3, h4⟩ := hSw; go_simp; rfl
    simp only [Act.put, List.setIfInBounds_toArray, List.set_cons_zero, List.set_cons_succ, List.getElem_toArray, List.getElem_cons_zero]
    refine wpAnyH_take (i := 1) (v := ?_) rfl (by kernel_rfl) (by kernel_rfl) (by kernel_rfl) (fun _ _ _ h => h) (Or.inl ⟨by rfl, ?_⟩) (by assumption) ?_
    rotate_left
    · intro w hSw; obtain ⟨_, _, h3, h4⟩ := hSw; go_simp; rfl
    simp only [Act.put, List.setIfInBounds_toArray, List.set_cons_zero, List.set_cons_succ, List.getElem_toArray, List.getElem_cons_zero, List.getElem_cons_succ]
    refine wpAnyH_take (i := 2) (v := ?_) rfl (by kernel_rfl) (by kernel_rfl) (by kernel_rfl) (fun _ _ _ h => h) (Or.inl ⟨by rfl, ?_⟩) (by assumption) ?_
    rotate_left
    · intro w hSw; obtain ⟨_, _, h3, h4⟩ := hSw; go_simp; rfl
    simp only [Act.put, List.setIfInBounds_toArray, List.set_cons_zero, List.set_cons_succ, List.getElem_toArray, List.getElem_cons_zero, List.getElem_cons_succ]
    refine wpAnyH_take (i := 3) (v := ?_) rfl (by kernel_rfl) (by kernel_rfl) (by kernel_rfl) (fun _ _ _ h => h) (Or.inl ⟨by rfl, ?_⟩) (by assumption) ?_
    rotate_left
    · intro w hSw; obtain ⟨_, _, h3, h4⟩ := hSw; go_simp; rfl
    simp only [Act.put, List.setIfInBounds_toArray, List.set_cons_zero, List.set_cons_succ, List.getElem_toArray, List.getElem_cons_zero, List.getElem_cons_succ]
    refine wpAnyH_take (i := 4) (v := ?_) rfl (by kernel_rfl) (by kernel_rfl) (by kernel_rfl) (fun _ _ _ h => h) (Or.inl ⟨by rfl, ?_⟩) (by assumption) ?_
    rotate_left
    · intro w hSw; obtain ⟨_, _, h3, h4⟩ := hSw; go_simp; rfl
    simp only [Act.put, List.setIfInBounds_toArray, List.set_cons_zero, List.set_cons_succ, List.getElem_toArray, List.getElem_cons_zero, List.getElem_cons_succ]
    refine wpAnyH_take (i := 5) (v := ?_) rfl (by kernel_rfl) (by kernel_rfl) (by kernel_rfl) (fun _ _ _ h => h) (Or.inl ⟨by rfl, ?_⟩) (by assumption) ?_
    rotate_left
    · intro w hSw; obtain ⟨_, _, h3, h4⟩ := hSw; go_simp; rfl
    simp only [Act.put, List.setIfInBounds_toArray, List.set_cons_zero, List.set_cons_succ, List.getElem_toArray, List.getElem_cons_zero, List.getElem_cons_succ]
    refine wpAnyH_take (i := 6) (v := ?_) rfl (by kernel_rfl) (by kernel_rfl) (by kernel_rfl) (fun _ _ _ h => h) (Or.inl ⟨by rfl, ?_⟩) (by assumption) ?_
    rotate_left
    · intro w hSw; obtain ⟨_, _, h3, h4⟩ := hSw; go_simp; rfl
    simp only [Act.put, List.setIfInBounds_toArray, List.set_cons_zero, List.set_cons_succ, List.getElem_toArray, List.getElem_cons_zero, List.getElem_cons_succ]
    refine wpAnyH_take (i := 7) (v := _) rfl (by kernel_rfl) (by kernel_rfl) (by kernel_rfl) (fun _ _ _ h => h) (yieldsIf_load_mid (by rfl) _ _ rfl _ _ rfl (rkL pk) _ (fun w h => h.1) Tryz.underlying123 rfl (by rw [rkL_len]; exact size125)) (by assumption) ?_
    simp only [Act.put, List.setIfInBounds_toArray, List.set_cons_zero, List.set_cons_succ, List.getElem_toArray, List.getElem_cons_zero, List.getElem_cons_succ]
    refine wpAnyH_take (i := 8) (v := _) rfl (by kernel_rfl) (by kernel_rfl) (by kernel_rfl) (fun _ _ _ h => h) (yieldsIf_load_mid (by rfl) _ _ rfl _ _ rfl (rkL key) _ (fun w h => h.2.1) Tryz.underlying123 rfl (by rw [rkL_len]; exact size125)) (by assumption) ?_
    simp only [Act.put, List.setIfInBounds_toArray, List.set_cons_zero, List.set_cons_succ, List.getElem_toArray, List.getElem_cons_zero, List.getElem_cons_succ]
    refine wpAnyH_ready (rs := [9]) (by kernel_rfl) (by simp) ?_
    refine AllReadyH.cons rfl (fun K hK => ?_) AllReadyH.nil
    go_simp
    refine (HAB.out _).mono ?_
    rintro e w1 ⟨rfl, hb1'⟩
    have hbw1 : Below W.heap.size W w1 := ((Below.refl W.heap.size W).drew).trans hb1'
    refine hK.out _ _ (HS.out _ hbw1) (fun hHeld => ?_)
    clear hK K
    refine wpAnyH_take (i := 10) (v := ?_) rfl (by kernel_rfl) (by kernel_rfl) (by kernel_rfl) (fun _ _ _ h => h) (Or.inl ⟨by rfl, ?_⟩) (by assumption) ?_
    rotate_left
    · intro w hSw; obtain ⟨_, _, h3, h4⟩ := hSw; go_simp; rfl
    simp only [Act.put, List.setIfInBounds_toArray, List.set_cons_zero, List.set_cons_succ, List.getElem_toArray, List.getElem_cons_zero, List.getElem_cons_succ]
    refine wpAnyH_take (i := 11) (v := ?_) rfl (by kernel_rfl) (by kernel_rfl) (by kernel_rfl) (fun _ _ _ h => h) (Or.inl ⟨by rfl, ?_⟩) (by assumption) ?_
    rotate_left
    · intro w hSw; obtain ⟨_, _, h3, h4⟩ := hSw; go_simp; rfl
    simp only [Act.put, List.setIfInBounds_toArray, List.set_cons_zero, List.set_cons_succ, List.getElem_toArray, List.getElem_cons_zero, List.getElem_cons_succ]
    refine wpAnyH_done (by kernel_rfl) ?_ _
    go_wp2_with fail
    go_ret
    exact ⟨rfl, hb.trans (hbw1.mono hb.size)⟩
/-- Whether a node can stand at its place. -/
theorem fits_any (over under key pk : ByteArray) (par : Option Addr) (w : World) (hp : ParAt par pk w) : Calls Tryz.prog 148 #[.agg #[.string over, .string under, .pointer par], .agg (rkL key).toArray] w fun e w' => e = .returned (.bool (insW over under key && parW hgW pk key)) ∧ Below w.heap.size w w' := by
  cases h : insW over under key with
  | false => exact fits_no over under key par w h
  | true =>
    rw [Bool.true_and]
    unfold parW
    rcases hp with ⟨rfl, he⟩ | ⟨he, g, rfl, hg⟩
    · rw [he]; exact fits_top over under key w h
    · rw [he]; exact fits_par over under key pk g w h hg
end Go.Proofs.YtgicihmdcnelaaaGreatDoor
namespace Go.Proofs.YtgicihmdcnelaaaGreatDoor
open Go.RowKit Go.Proofs.Sha

theorem own2_cells {w : World} {base g n : Nat} {v : Value} {xs : List Value} (h : w.ownsRow base 60 2 v n xs) (hv : v.ownBlock = some g) : base ≤ g ∧ g < w.heap.size ∧ ∃ cur, w.heap[g]? = some (.cells cur 60 (0, 0)) := by
  rcases h.2 with ⟨rfl, _⟩ | ⟨g', cap, cur, rfl, hb, hg, _⟩
  · cases hv
  · obtain rfl : g' = g := Option.some.inj hv
    exact ⟨hb, (Array.getElem?_eq_some_iff.1 hg).1, cur, hg⟩
theorem own2_kept {w w' : World} {base n : Nat} {v : Value} {xs : List Value} (h : w.ownsRow base 60 2 v n xs) (hk : ∀ g, v.ownBlock = some g → g < w.heap.size → w'.heap[g]? = w.heap[g]?) : w'.ownsRow base 60 2 v n xs := by
  refine ⟨h.1, ?_⟩
  rcases h.2 with ⟨h1, h2⟩ | ⟨g, cap, cur, hv, hb, hg, rest⟩
  · exact .inl ⟨h1, h2⟩
  · exact .inr ⟨g, cap, cur, hv, hb, (hk g (by rw [hv]; rfl) (Array.getElem?_eq_some_iff.1 hg).1).trans hg, rest⟩
theorem own2_mono {w : World} {base base' n : Nat} {v : Value} {xs : List Value} (h : w.ownsRow base 60 2 v n xs) (hb : base' ≤ base) : w.ownsRow base' 60 2 v n xs := by
  refine ⟨h.1, ?_⟩
  rcases h.2 with ⟨h1, h2⟩ | ⟨g, cap, cur, hv, hg, rest⟩
  · exact .inl ⟨h1, h2⟩
  · exact .inr ⟨g, cap, cur, hv, Nat.le_trans hb hg, rest⟩
/-- What a walk of the model answers. -/
def GoPost (R : Int × Nat × List PairT) (w : World) (e : Ending) (w' : World) : Prop :=
  (R.1 = 0 → ∃ a c, e = .returned (.agg #[.slice a R.2.2.length c, .int .i64 (R.2.1 : Int), .int .i64 0]) ∧ w'.ownsRow w.heap.size 60 2 (.slice a R.2.2.length c) R.2.2.length (flatP R.2.2)) ∧
  (R.1 ≠ 0 → e = .returned (.agg #[.slice none 0 0, .int .i64 0, .int .i64 R.1])) ∧ Below w.heap.size w w'
/-- The blocks that a call has of its own. -/
structure GS (w : World) (g8 g12 g16 gz g17 : Nat) (wd : Nat) (a : Option Addr) (n c : Nat) (over under : ByteArray) (cnt : Nat) (W : World) : Prop where
  sz : w.heap.size = g8
  o1 : g8 < g12
  o2 : g12 < g16
  o3 : g16 < gz
  o4 : gz < g17
  bl : Below w.heap.size w W
  n8 : W.heap[g8]? = some (.cells #[.int .i64 (wd : Int), .slice a n c] 28)
  n12 : W.heap[g12]? = some (.cells #[.string over, .string under] 135)
  n16 : W.heap[g16]? = some (.cells #[.slice none 0 0, .int .i64 0, .int .i64 0] 132)
  nz : W.heap[gz]? = some (.cells #[] 60)
  n17 : W.heap[g17]? = some (.cells #[.slice (some ⟨gz, 0, none⟩) 0 0, .int .i64 (cnt : Int), .int .i64 0] 132)
section
variable {w : World} {g8 g12 g16 gz g17 : Nat} {wd : Nat} {a : Option Addr} {n c : Nat} {over under : ByteArray} {cnt : Nat} {W W' : World}
theorem GS.lt (h : GS w g8 g12 g16 gz g17 wd a n c over under cnt W) : g17 < W.heap.size := (Array.getElem?_eq_some_iff.1 h.n17).1
theorem GS.below (h : GS w g8 g12 g16 gz g17 wd a n c over under cnt W) (hb : Below W.heap.size W W') : GS w g8 g12 g16 gz g17 wd a n c over under cnt W' := by
  have l := h.lt
  have h1 := h.o1
  have h2 := h.o2
  have h3 := h.o3
  have h4 := h.o4
  exact ⟨h.sz, h1, h2, h3, h4, h.bl.trans (hb.mono h.bl.size), (hb.block _ (by omega)).trans h.n8, (hb.block _ (by omega)).trans h.n12, (hb.block _ (by omega)).trans h.n16, (hb.block _ (by omega)).trans h.nz, (hb.block _ (by omega)).trans h.n17⟩
theorem GS.mk0 (w : World) (wd : Nat) (a : Option Addr) (n c : Nat) (over under : ByteArray) (cnt : Nat) : GS w w.heap.size (w.heap.size + 1) (w.heap.size + 1 + 1) (w.heap.size + 1 + 1 + 1) (w.heap.size + 1 + 1 + 1 + 1) wd a n c over under cnt
    (((((w.alloc (.cells #[.int .i64 (wd : Int), .slice a n c] 28)).alloc (.cells #[.string over, .string under] 135)).alloc (.cells #[.slice none 0 0, .int .i64 0, .int .i64 0] 132)).alloc (.cells #[] 60)).alloc (.cells #[.slice (some ⟨w.heap.size + 1 + 1 + 1, 0, none⟩) 0 0, .int .i64 (cnt : Int), .int .i64 0] 132)) := by
  have e1 := heap_alloc_new w (.cells #[.int .i64 (wd : Int), .slice a n c] 28)
  have e2 := heap_alloc_new (w.alloc (.cells #[.int .i64 (wd : Int), .slice a n c] 28)) (.cells #[.string over, .string under] 135)
  have e3 := heap_alloc_new ((w.alloc (.cells #[.int .i64 (wd : Int), .slice a n c] 28)).alloc (.cells #[.string over, .string under] 135)) (.cells #[.slice none 0 0, .int .i64 0, .int .i64 0] 132)
  have e4 := heap_alloc_new (((w.alloc (.cells #[.int .i64 (wd : Int), .slice a n c] 28)).alloc (.cells #[.string over, .string under] 135)).alloc (.cells #[.slice none 0 0, .int .i64 0, .int .i64 0] 132)) (.cells #[] 60)
  have e5 := heap_alloc_new ((((w.alloc (.cells #[.int .i64 (wd : Int), .slice a n c] 28)).alloc (.cells #[.string over, .string under] 135)).alloc (.cells #[.slice none 0 0, .int .i64 0, .int .i64 0] 132)).alloc (.cells #[] 60)) (.cells #[.slice (some ⟨w.heap.size + 1 + 1 + 1, 0, none⟩) 0 0, .int .i64 (cnt : Int), .int .i64 0] 132)
  simp only [World.size_alloc] at e1 e2 e3 e4 e5
  refine ⟨rfl, by omega, by omega, by omega, by omega, ?_, ?_, ?_, ?_, ?_, e5⟩
  · exact (((((Below.refl _ _).alloc (Nat.le_refl _) _).alloc (by simp) _).alloc (by simp; omega) _).alloc (by simp; omega) _).alloc (by simp; omega) _
  · rw [Below.heap_alloc _ _ _ (by simp <;> omega), Below.heap_alloc _ _ _ (by simp <;> omega), Below.heap_alloc _ _ _ (by simp <;> omega), Below.heap_alloc _ _ _ (by simp)]; exact e1
  · rw [Below.heap_alloc _ _ _ (by simp <;> omega), Below.heap_alloc _ _ _ (by simp <;> omega), Below.heap_alloc _ _ _ (by simp)]; exact e2
  · rw [Below.heap_alloc _ _ _ (by simp <;> omega), Below.heap_alloc _ _ _ (by simp)]; exact e3
  · rw [Below.heap_alloc _ _ _ (by simp)]; exact e4
/-- The answer, written. -/
theorem GS.fin (h : GS w g8 g12 g16 gz g17 wd a n c over under cnt W) (v0 v1 v2 : Value) :
    (((W.setCell ⟨g16, 0, none⟩ v0).setCell ⟨g16, 1, none⟩ v1).setCell ⟨g16, 2, none⟩ v2).heap[g16]? = some (.cells #[v0, v1, v2] 132) ∧ Below w.heap.size w (((W.setCell ⟨g16, 0, none⟩ v0).setCell ⟨g16, 1, none⟩ v1).setCell ⟨g16, 2, none⟩ v2) ∧ (∀ k, k ≠ g16 → (((W.setCell ⟨g16, 0, none⟩ v0).setCell ⟨g16, 1, none⟩ v1).setCell ⟨g16, 2, none⟩ v2).heap[k]? = W.heap[k]?) := by
  have hg : w.heap.size ≤ g16 := by have := h.sz; have := h.o1; have := h.o2; omega
  refine ⟨heap_setCell_same _ g16 2 _ 132 _ (heap_setCell_same _ g16 1 _ 132 _ (heap_setCell_same _ g16 0 _ 132 _ h.n16)), ((h.bl.setCell hg _).setCell hg _).setCell hg _, fun k hk => ?_⟩
  rw [Below.heap_setCell _ _ _ _ (by exact hk), Below.heap_setCell _ _ _ _ (by exact hk), Below.heap_setCell _ _ _ _ (by exact hk)]
end
theorem retG {W : World} {A : Act} {g16 : Nat} {v0 v1 v2 : Value} {R : Ending → World → Prop} (hp : A.tmps.getD 16 undef = .pointer (some ⟨g16, 0, none⟩)) (hd : A.defers = []) (h : W.heap[g16]? = some (.cells #[v0, v1, v2] 132)) (hR : R (.returned (.agg #[v0, v1, v2])) W) : bodyPost Tryz.prog Tryz.f94 R .ret A W := by
  have q0 := Lib.cell_of_heap h 0
  have q1 := Lib.cell_of_heap h 1
  have q2 := Lib.cell_of_heap h 2
  refine bodyPost_ret (v := .agg #[v0, v1, v2]) ?_ hd hR
  rw [results_cell W (fn := Tryz.f94) (p := 16) (ty := 132) rfl A.tmps _ hp]
  exact run_loadVar_mid W g16 0 132 [v0, v1, v2] _ (fun j u hj => by
    match j, hj with
    | 0, hj => simpa using q0.trans (by simpa using hj)
    | 1, hj => simpa using q1.trans (by simpa using hj)
    | 2, hj => simpa using q2.trans (by simpa using hj)) Tryz.underlying132 rfl (by kernel_rfl)

/-- No pairs: the empty row that the call has laid. -/
theorem own2_nil {w : World} {base gz : Nat} (hb : base ≤ gz) (h : w.heap[gz]? = some (.cells #[] 60)) : w.ownsRow base 60 2 (.slice (some ⟨gz, 0, none⟩) 0 0) 0 [] :=
  ⟨rfl, .inr ⟨gz, 0, #[], rfl, hb, h, by simp⟩⟩
theorem GS.skip {w : World} {g8 g12 g16 gz g17 : Nat} {wd : Nat} {a : Option Addr} {n c : Nat} {over under : ByteArray} {cnt : Nat} {W : World} (h : GS w g8 g12 g16 gz g17 wd a n c over under cnt W) {A : Act} {R : Int × Nat × List PairT} (hR : R = (0, cnt, [])) (hp : A.tmps.getD 16 undef = .pointer (some ⟨g16, 0, none⟩)) (hd : A.defers = []) :
    bodyPost Tryz.prog Tryz.f94 (GoPost R w) .ret A (((W.setCell ⟨g16, 0, none⟩ (.slice (some ⟨gz, 0, none⟩) 0 0)).setCell ⟨g16, 1, none⟩ (.int .i64 (cnt : Int))).setCell ⟨g16, 2, none⟩ (.int .i64 0)) := by
  obtain ⟨h1, h2, h3⟩ := h.fin (.slice (some ⟨gz, 0, none⟩) 0 0) (.int .i64 (cnt : Int)) (.int .i64 0)
  subst hR
  have q1 := h.sz
  have q2 := h.o1
  have q3 := h.o2
  have q4 := h.o3
  refine retG hp hd h1 ⟨fun _ => ⟨some ⟨gz, 0, none⟩, 0, rfl, own2_nil (by omega) ((h3 gz (by omega)).trans h.nz)⟩, fun hne => absurd rfl hne, h2⟩
theorem GS.bad {w : World} {g8 g12 g16 gz g17 : Nat} {wd : Nat} {a : Option Addr} {n c : Nat} {over under : ByteArray} {cnt : Nat} {W : World} (h : GS w g8 g12 g16 gz g17 wd a n c over under cnt W) {A : Act} {R : Int × Nat × List PairT} (i : Int) (hR : R.1 = i) (hi : i ≠ 0) (hp : A.tmps.getD 16 undef = .pointer (some ⟨g16, 0, none⟩)) (hd : A.defers = []) :
    bodyPost Tryz.prog Tryz.f94 (GoPost R w) .ret A (((W.setCell ⟨g16, 0, none⟩ (.slice none 0 0)).setCell ⟨g16, 1, none⟩ (.int .i64 0)).setCell ⟨g16, 2, none⟩ (.int .i64 i)) := by
  obtain ⟨h1, h2, h3⟩ := h.fin (.slice none 0 0) (.int .i64 0) (.int .i64 i)
  exact retG hp hd h1 ⟨fun h0 => absurd (hR.symm.trans h0) hi, fun _ => by rw [hR], h2⟩
end Go.Proofs.YtgicihmdcnelaaaGreatDoor
namespace Go.Proofs.YtgicihmdcnelaaaGreatDoor
open Go.RowKit Go.Proofs.Sha

theorem drop_getD (ps : List PairT) (i : Nat) (h : i < ps.length) : ps.drop i = ps.getD i noPair :: ps.drop (i + 1) := by
  rw [List.drop_eq_getElem_cons h]
  congr 1
  simp [List.getD_eq_getElem?_getD, List.getElem?_eq_getElem h]
theorem ba_eq {a b : ByteArray} : (a.toList == b.toList) = decide (a = b) := by
  by_cases e : a = b
  · subst e; simp
  · rw [decide_eq_false e, beq_eq_false_iff_ne]
    intro h
    rw [ByteArray.toList_eq, ByteArray.toList_eq] at h
    exact e (ByteArray.ext (Array.toList_inj.1 h))
/-- A row of pairs of the call's own, while it is put together. -/
structure OwnP (w : World) (xs : List PairT) (a : Option Addr) (m c : Nat) (W : World) : Prop where
  own : W.ownsRow w.heap.size 60 2 (.slice a m c) m (flatP xs)
  bel : Below w.heap.size w W
  len : xs.length = m
theorem OwnP.below {w W W' : World} {xs : List PairT} {a : Option Addr} {m c : Nat} (h : OwnP w xs a m c W) (hb : Below W.heap.size W W') : OwnP w xs a m c W' :=
  ⟨own2_kept h.own (fun q _ hq => hb.block q hq), h.bel.trans (hb.mono h.bel.size), h.len⟩
theorem OwnP.more {w W W' : World} {xs : List PairT} {a : Option Addr} {m c m' g cap : Nat} {y : PairT} {o : Obj} (h : OwnP w xs a m c W) (hown : W'.ownsRow w.heap.size 60 2 (.slice (some ⟨g, 0, none⟩) m' cap) m' (flatP xs ++ [.string y.1, .string y.2])) (hgrow : (W.alloc o).grownBy W' (Value.slice a m c).ownBlock) (hm : m' = m + 1) : OwnP w (xs ++ [y]) (some ⟨g, 0, none⟩) m' cap W' := by
  have ha := h.below ((Below.refl W.heap.size W).alloc (Nat.le_refl _) o)
  refine ⟨by rw [flatP_app]; exact hown, ha.bel.grown hgrow ha.bel.size (fun q hq => (own2_cells ha.own hq).1), by rw [List.length_append, h.len, hm]; rfl⟩
/-- What a function that makes pairs answers. -/
def PairsAt (xs : List PairT) (w : World) (e : Ending) (w' : World) : Prop := ∃ a c, e = .returned (.slice a xs.length c) ∧ OwnP w xs a xs.length c w'
end Go.Proofs.YtgicihmdcnelaaaGreatDoor
