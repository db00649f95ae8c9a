import Derived.Test.YtfmpjlpakldheaaGreatDoorZyal
import Derived.Test.YtfmpjlpakldheaaGreatDoorZyan
import Derived.Test.YtfmpjlpakldheaaGreatDoorZyaj
import Derived.Lib.BufferWrite
namespace Go.Proofs.YtfmpjlpakldheaaGreatDoor
open Go.RowKit Go.Proofs.Sha

def Ptr (p : Option Addr) (w : World) : Prop := p = none ∨ ∃ (x : Nat) (cs : Array Value) (u : TypeId), p = some ⟨x, 0, none⟩ ∧ w.heap[x]? = some (.cells cs u (0, 0))
theorem size125 : (Tryz.prog.info? 131).map (·.size) = some 33 := by kernel_rfl
theorem size75 : (Tryz.prog.info? 166).map (·.size) = some 10 := by kernel_rfl
theorem ptr_eqlR (a b : Option Addr) (w : World) (ha : Ptr a w) (hb : Ptr b w) : (binOp .eql 162 (.pointer a) (.pointer b)).run Tryz.prog w = .ok (.bool (decide (a = b))) w := by
  obtain ⟨j, h1, h2⟩ := Option.map_eq_some_iff.1 size125
  exact run_eql_ptr 162 131 j Tryz.underlying162 h1 (by rw [h2]; decide) a b w ha hb
theorem ptr_eqlB (a b : Option Addr) (w : World) (ha : Ptr a w) (hb : Ptr b w) : (binOp .eql 161 (.pointer a) (.pointer b)).run Tryz.prog w = .ok (.bool (decide (a = b))) w := by
  obtain ⟨j, h1, h2⟩ := Option.map_eq_some_iff.1 size75
  exact run_eql_ptr 161 166 j Tryz.underlying161 h1 (by rw [h2]; decide) a b w ha hb
/-- One key above another. -/
def hgW (a b : ByteArray) : Bool := rk (sha a.data.toList) (sha b.data.toList) a.data.toList b.data.toList
/-- The parent's rank, if there is one. -/
def ParAt (par : Option Addr) (pk : ByteArray) (w : World) : Prop := (par = none ∧ emp pk = true) ∨ (emp pk = false ∧ ∃ g, par = some ⟨g, 0, none⟩ ∧ RKb g pk w)
theorem fits_no (over under key : ByteArray) (par : Option Addr) (w : World) (h : insW over under key = false) : Calls Tryz.prog 184 #[.agg #[.string over, .string under, .pointer par], .agg (rkL key).toArray] w fun e w' => e = .returned (.bool false) ∧ Below w.heap.size w w' := by
  obtain ⟨W, hW⟩ : ∃ W, (w.alloc (.cells #[.string over, .string under, .pointer par] 164)).alloc (.cells (rkL key).toArray 131) = W := ⟨_, rfl⟩
  have hb : Below w.heap.size w W := by rw [← hW]; exact ((Below.refl _ _).alloc (Nat.le_refl _) _).alloc (by simp) _
  have n0 : W.heap[w.heap.size]? = some (.cells #[.string over, .string under, .pointer par] 164) := by rw [← hW, Below.heap_alloc _ _ _ (by simp)]; exact heap_alloc_new w _
  have n1 : W.heap[w.heap.size + 1]? = some (.cells (rkL key).toArray 131) := by
    have := heap_alloc_new (w.alloc (.cells #[.string over, .string under, .pointer par] 164)) (.cells (rkL key).toArray 131)
    rw [← hW]; simpa using this
  have ca : W.cell? ⟨w.heap.size, 0, none⟩ = some (.string over) := Lib.cell_of_heap n0 0
  have cc : W.cell? ⟨w.heap.size, 1, none⟩ = some (.string under) := Lib.cell_of_heap n0 1
  have cb : W.cell? ⟨w.heap.size + 1, 32, none⟩ = some (.string key) := RKb.c32 n1
  generalize (rkL key).toArray = cs at hW n1
  obtain ⟨ga, hga⟩ : ∃ ga, w.heap.size = ga := ⟨_, rfl⟩
  rw [hga] at ca cb cc
  cases a1 : Op.bytesLess key.toList over.toList with
  | true =>
    go_enter Tryz.func184, Tryz.ntmps184
    go_wp2_with fail
    go_ret
    exact ⟨rfl, by rw [hga] at hb ⊢; exact hb⟩
  | false =>
    cases a2 : (key.toList == over.toList) with
    | true =>
      go_enter Tryz.func184, Tryz.ntmps184
      go_wp2_with fail
      go_ret
      exact ⟨rfl, by rw [hga] at hb ⊢; exact hb⟩
    | false =>
      have hin : (emp under || lessB key under) = false := by
        unfold insW at h
        rw [lessB_tri over key] at h
        have : lessB key over = false := a1
        rw [this, a2] at h
        simpa using h
      rw [Bool.or_eq_false_iff] at hin
      have e2 := emp_iff under
      rw [hin.1] at e2
      have a3 : Op.bytesLess key.toList under.toList = false := hin.2
      go_enter Tryz.func184, Tryz.ntmps184
      go_wp2_with fail
      go_ret
      exact ⟨rfl, by rw [hga] at hb ⊢; exact hb⟩
theorem ins_yes {over under key : ByteArray} (h : insW over under key = true) : Op.bytesLess key.toList over.toList = false ∧ (key.toList == over.toList) = false ∧ (under.toList.isEmpty = true ∨ (under.toList.isEmpty = false ∧ Op.bytesLess key.toList under.toList = true)) := by
  unfold insW at h
  rw [Bool.and_eq_true, lessB_tri over key] at h
  obtain ⟨h1, h2⟩ := h
  have h1' : (lessB key over || (key.toList == over.toList)) = false := by simpa using h1
  rw [Bool.or_eq_false_iff] at h1'
  refine ⟨h1'.1, h1'.2, ?_⟩
  rw [emp_iff]
  cases hu : emp under with
  | true => exact .inl rfl
  | false => rw [hu, Bool.false_or] at h2; exact .inr ⟨rfl, h2⟩
set_option maxRecDepth 100000 in
set_option maxHeartbeats 1000000 in
theorem fits_top (over under key : ByteArray) (w : World) (h : insW over under key = true) : Calls Tryz.prog 184 #[.agg #[.string over, .string under, .pointer none], .agg (rkL key).toArray] w fun e w' => e = .returned (.bool true) ∧ Below w.heap.size w w' := by
  obtain ⟨W, hW⟩ : ∃ W, (w.alloc (.cells #[.string over, .string under, .pointer none] 164)).alloc (.cells (rkL key).toArray 131) = W := ⟨_, rfl⟩
  have hb : Below w.heap.size w W := by rw [← hW]; exact ((Below.refl _ _).alloc (Nat.le_refl _) _).alloc (by simp) _
  have n0 : W.heap[w.heap.size]? = some (.cells #[.string over, .string under, .pointer none] 164) := by rw [← hW, Below.heap_alloc _ _ _ (by simp)]; exact heap_alloc_new w _
  have n1 : W.heap[w.heap.size + 1]? = some (.cells (rkL key).toArray 131) := by
    have := heap_alloc_new (w.alloc (.cells #[.string over, .string under, .pointer none] 164)) (.cells (rkL key).toArray 131)
    rw [← hW]; simpa using this
  have ca : W.cell? ⟨w.heap.size, 0, none⟩ = some (.string over) := Lib.cell_of_heap n0 0
  have cc : W.cell? ⟨w.heap.size, 1, none⟩ = some (.string under) := Lib.cell_of_heap n0 1
  have cd : W.cell? ⟨w.heap.size, 2, none⟩ = some (.pointer none) := Lib.cell_of_heap n0 2
  have cb : W.cell? ⟨w.heap.size + 1, 32, none⟩ = some (.string key) := RKb.c32 n1
  have qn : ∀ W' : World, (binOp .eql 162 (.pointer none) (.pointer none)).run Tryz.prog W' = .ok (.bool true) W' := fun W' => by rw [ptr_eqlR none none W' (.inl rfl) (.inl rfl)]; rfl
  generalize (rkL key).toArray = cs at hW n1
  obtain ⟨ga, hga⟩ : ∃ ga, w.heap.size = ga := ⟨_, rfl⟩
  rw [hga] at ca cb cc cd
  obtain ⟨a1, a2, ha⟩ := ins_yes h
  clear h
  rcases ha with e2 | ⟨e2, a3⟩
  all_goals
    go_enter Tryz.func184, Tryz.ntmps184
    go_upto_region 3 with fail
    go_quiet (fail)
    go_wp2_with fail
    go_ret
    exact ⟨rfl, by rw [hga] at hb ⊢; exact ⟨hb.os, hb.tape, hb.output, hb.size, hb.block⟩⟩
set_option maxRecDepth 100000 in
set_option maxHeartbeats 2000000 in
theorem fits_par (over under key pk : ByteArray) (g : Nat) (w : World) (h : insW over under key = true) (hg : RKb g pk w) : Calls Tryz.prog 184 #[.agg #[.string over, .string under, .pointer (some ⟨g, 0, none⟩)], .agg (rkL key).toArray] w fun e w' => e = .returned (.bool (hgW pk key)) ∧ Below w.heap.size w w' := by
  obtain ⟨W, hW⟩ : ∃ W, (w.alloc (.cells #[.string over, .string under, .pointer (some ⟨g, 0, none⟩)] 164)).alloc (.cells (rkL key).toArray 131) = W := ⟨_, rfl⟩
  have hb : Below w.heap.size w W := by rw [← hW]; exact ((Below.refl _ _).alloc (Nat.le_refl _) _).alloc (by simp) _
  have n0 : W.heap[w.heap.size]? = some (.cells #[.string over, .string under, .pointer (some ⟨g, 0, none⟩)] 164) := by rw [← hW, Below.heap_alloc _ _ _ (by simp)]; exact heap_alloc_new w _
  have n1 : RKb (w.heap.size + 1) key W := by
    have := heap_alloc_new (w.alloc (.cells #[.string over, .string under, .pointer (some ⟨g, 0, none⟩)] 164)) (.cells (rkL key).toArray 131)
    unfold RKb
    rw [← hW]; simpa using this
  have hg1 : RKb g pk W := (hb.block g (Array.getElem?_eq_some_iff.1 hg).1).trans hg
  have ca : W.cell? ⟨w.heap.size, 0, none⟩ = some (.string over) := Lib.cell_of_heap n0 0
  have cc : W.cell? ⟨w.heap.size, 1, none⟩ = some (.string under) := Lib.cell_of_heap n0 1
  have cd : W.cell? ⟨w.heap.size, 2, none⟩ = some (.pointer (some ⟨g, 0, none⟩)) := Lib.cell_of_heap n0 2
  have cb : W.cell? ⟨w.heap.size + 1, 32, none⟩ = some (.string key) := RKb.c32 n1
  have qn : ∀ W' : World, RKb g pk W' → (binOp .eql 162 (.pointer (some ⟨g, 0, none⟩)) (.pointer none)).run Tryz.prog W' = .ok (.bool false) W' := fun W' hW' => by rw [ptr_eqlR _ none W' (.inr ⟨g, _, _, rfl, hW'⟩) (.inl rfl)]; rfl
  have r1 := hg1.range
  have r2 := n1.range
  have HAB : Hid (∀ w', Calls Tryz.prog 142 #[.agg (rkL pk).toArray, .agg (rkL key).toArray] w' fun e w'' => e = .returned (.bool (hgW pk key)) ∧ Below w'.heap.size w' w'') := fun w' => above_any _ _ (by unfold sha; rw [outTo_length]) (by unfold sha; rw [outTo_length]) pk key w'
  obtain ⟨ga, hga⟩ : ∃ ga, w.heap.size = ga := ⟨_, rfl⟩
  rw [hga] at ca cb cc cd r2
  obtain ⟨a1, a2, ha⟩ := ins_yes h
  clear h
  have hq := qn W hg1
  have HS : Hid (∀ W', Below W.heap.size W W' → W'.rangeAt g 0 (rkL pk) ∧ W'.rangeAt (ga + 1) 0 (rkL key) ∧ W'.cell? ⟨ga, 2, none⟩ = some (.pointer (some ⟨g, 0, none⟩)) ∧ (binOp .eql 162 (.pointer (some ⟨g, 0, none⟩)) (.pointer none)).run Tryz.prog W' = .ok (.bool false) W') := fun W' hW' => by
    have x1 : RKb g pk W' := (hW'.block g (Array.getElem?_eq_some_iff.1 hg1).1).trans hg1
    rw [hga] at n1 n0
    have x2 : RKb (ga + 1) key W' := (hW'.block (ga + 1) (Array.getElem?_eq_some_iff.1 n1).1).trans n1
    have x3 := (hW'.block ga (Array.getElem?_eq_some_iff.1 n0).1).trans n0
    exact ⟨x1.range, x2.range, Lib.cell_of_heap x3 2, qn W' x1⟩
  clear qn hq
  rcases ha with e2 | ⟨e2, a3⟩
  · go_enter Tryz.func184, Tryz.ntmps184
    go_upto_region 3 with fail
    refine wp_region_held_drew (S := fun W' => W'.rangeAt g 0 (rkL pk) ∧ W'.rangeAt (ga + 1) 0 (rkL key) ∧ W'.cell? ⟨ga, 2, none⟩ = some (.pointer (some ⟨g, 0, none⟩)) ∧ (binOp .eql 162 (.pointer (some ⟨g, 0, none⟩)) (.pointer none)).run Tryz.prog W' = .ok (.bool false) W') (by kernel_rfl) (HS.out _ (Below.refl _ _).drew) (fun hHeld => ?_)
    refine wpAnyH_take (i := 0) (v := ?_) rfl (by kernel_rfl) (by kernel_rfl) (by kernel_rfl) (fun _ _ _ h => h) (Or.inl ⟨by rfl, ?_⟩) (by assumption) ?_
    rotate_left
    · intro w hSw; obtain ⟨_, _, h3, h4⟩ := hSw; go_simp; rfl
    simp only [Act.put, List.setIfInBounds_toArray, List.set_cons_zero, List.set_cons_succ, List.getElem_toArray, List.getElem_cons_zero]
    refine wpAnyH_take (i := 1) (v := ?_) rfl (by kernel_rfl) (by kernel_rfl) (by kernel_rfl) (fun _ _ _ h => h) (Or.inl ⟨by rfl, ?_⟩) (by assumption) ?_
    rotate_left
    · intro w hSw; obtain ⟨_, _, h3, h4⟩ := hSw; go_simp; rfl
    simp only [Act.put, List.setIfInBounds_toArray, List.set_cons_zero, List.set_cons_succ, List.getElem_toArray, List.getElem_cons_zero, List.getElem_cons_succ]
    refine wpAnyH_take (i := 2) (v := ?_) rfl (by kernel_rfl) (by kernel_rfl) (by kernel_rfl) (fun _ _ _ h => h) (Or.inl ⟨by rfl, ?_⟩) (by assumption) ?_
    rotate_left
    · intro w hSw; obtain ⟨_, _, h3, h4⟩ := hSw; go_simp; rfl
    simp only [Act.put, List.setIfInBounds_toArray, List.set_cons_zero, List.set_cons_succ, List.getElem_toArray, List.getElem_cons_zero, List.getElem_cons_succ]
    refine wpAnyH_take (i := 3) (v := ?_) rfl (by kernel_rfl) (by kernel_rfl) (by kernel_rfl) (fun _ _ _ h => h) (Or.inl ⟨by rfl, ?_⟩) (by assumption) ?_
    rotate_left
    · intro w hSw; obtain ⟨_, _, h3, h4⟩ := hSw; go_simp; rfl
    simp only [Act.put, List.setIfInBounds_toArray, List.set_cons_zero, List.set_cons_succ, List.getElem_toArray, List.getElem_cons_zero, List.getElem_cons_succ]
    refine wpAnyH_take (i := 4) (v := ?_) rfl (by kernel_rfl) (by kernel_rfl) (by kernel_rfl) (fun _ _ _ h => h) (Or.inl ⟨by rfl, ?_⟩) (by assumption) ?_
    rotate_left
    · intro w hSw; obtain ⟨_, _, h3, h4⟩ := hSw; go_simp; rfl
    simp only [Act.put, List.setIfInBounds_toArray, List.set_cons_zero, List.set_cons_succ, List.getElem_toArray, List.getElem_cons_zero, List.getElem_cons_succ]
    refine wpAnyH_take (i := 5) (v := ?_) rfl (by kernel_rfl) (by kernel_rfl) (by kernel_rfl) (fun _ _ _ h => h) (Or.inl ⟨by rfl, ?_⟩) (by assumption) ?_
    rotate_left
    · intro w hSw; obtain ⟨_, _, h3, h4⟩ := hSw; go_simp; rfl
    simp only [Act.put, List.setIfInBounds_toArray, List.set_cons_zero, List.set_cons_succ, List.getElem_toArray, List.getElem_cons_zero, List.getElem_cons_succ]
    refine wpAnyH_take (i := 6) (v := ?_) rfl (by kernel_rfl) (by kernel_rfl) (by kernel_rfl) (fun _ _ _ h => h) (Or.inl ⟨by rfl, ?_⟩) (by assumption) ?_
    rotate_left
    · intro w hSw; obtain ⟨_, _, h3, h4⟩ := hSw; go_simp; rfl
    simp only [Act.put, List.setIfInBounds_toArray, List.set_cons_zero, List.set_cons_succ, List.getElem_toArray, List.getElem_cons_zero, List.getElem_cons_succ]
    refine wpAnyH_take (i := 7) (v := _) rfl (by kernel_rfl) (by kernel_rfl) (by kernel_rfl) (fun _ _ _ h => h) (yieldsIf_load_mid (by rfl) _ _ rfl _ _ rfl (rkL pk) _ (fun w h => h.1) Tryz.underlying131 rfl (by rw [rkL_len]; exact size125)) (by assumption) ?_
    simp only [Act.put, List.setIfInBounds_toArray, List.set_cons_zero, List.set_cons_succ, List.getElem_toArray, List.getElem_cons_zero, List.getElem_cons_succ]
    refine wpAnyH_take (i := 8) (v := _) rfl (by kernel_rfl) (by kernel_rfl) (by kernel_rfl) (fun _ _ _ h => h) (yieldsIf_load_mid (by rfl) _ _ rfl _ _ rfl (rkL key) _ (fun w h => h.2.1) Tryz.underlying131 rfl (by rw [rkL_len]; exact size125)) (by assumption) ?_
    simp only [Act.put, List.setIfInBounds_toArray, List.set_cons_zero, List.set_cons_succ, List.getElem_toArray, List.getElem_cons_zero, List.getElem_cons_succ]
    refine wpAnyH_ready (rs := [9]) (by kernel_rfl) (by simp) ?_
    refine AllReadyH.cons rfl (fun K hK => ?_) AllReadyH.nil
    go_simp
    refine (HAB.out _).mono ?_
    rintro e w1 ⟨rfl, hb1'⟩
    have hbw1 : Below W.heap.size W w1 := ((Below.refl W.heap.size W).drew).trans hb1'
    refine hK.out _ _ (HS.out _ hbw1) (fun hHeld => ?_)
    clear hK K
    refine wpAnyH_take (i := 10) (v := ?_) rfl (by kernel_rfl) (by kernel_rfl) (by kernel_rfl) (fun _ _ _ h => h) (Or.inl ⟨by rfl, ?_⟩) (by assumption) ?_
    rotate_left
    · intro w hSw; obtain ⟨_, _, h3, h4⟩ := hSw; go_simp; rfl
    simp only [Act.put, List.setIfInBounds_toArray, List.set_cons_zero, List.set_cons_succ, List.getElem_toArray, List.getElem_cons_zero, List.getElem_cons_succ]
    refine wpAnyH_take (i := 11) (v := ?_) rfl (by kernel_rfl) (by kernel_rfl) (by kernel_rfl) (fun _ _ _ h => h) (Or.inl ⟨by rfl, ?_⟩) (by assumption) ?_
    rotate_left
    · intro w hSw; obtain ⟨_, _, h3, h4⟩ := hSw; go_simp; rfl
    simp only [Act.put, List.setIfInBounds_toArray, List.set_cons_zero, List.set_cons_succ, List.getElem_toArray, List.getElem_cons_zero, List.getElem_cons_succ]
    refine wpAnyH_done (by kernel_rfl) ?_ _
    go_wp2_with fail
    go_ret
    exact ⟨rfl, hb.trans (hbw1.mono hb.size)⟩
  · go_enter Tryz.func184, Tryz.ntmps184
    go_upto_region 3 with fail
    refine wp_region_held_drew (S := fun W' => W'.rangeAt g 0 (rkL pk) ∧ W'.rangeAt (ga + 1) 0 (rkL key) ∧ W'.cell? ⟨ga, 2, none⟩ = some (.pointer (some ⟨g, 0, none⟩)) ∧ (binOp .eql 162 (.pointer (some ⟨g, 0, none⟩)) (.pointer none)).run Tryz.prog W' = .ok (.bool false) W') (by kernel_rfl) (HS.out _ (Below.refl _ _).drew) (fun hHeld => ?_)
    refine wpAnyH_take (i := 0) (v := ?_) rfl (by kernel_rfl) (by kernel_rfl) (by kernel_rfl) (fun _ _ _ h => h) (Or.inl ⟨by rfl, ?_⟩) (by assumption) ?_
    rotate_left
    · intro w hSw; obtain ⟨_, _, h3, h4⟩ := hSw; go_simp; rfl
    simp only [Act.put, List.setIfInBounds_toArray, List.set_cons_zero, List.set_cons_succ, List.getElem_toArray, List.getElem_cons_zero]
    refine wpAnyH_take (i := 1) (v := ?_) rfl (by kernel_rfl) (by kernel_rfl) (by kernel_rfl) (fun _ _ _ h => h) (Or.inl ⟨by rfl, ?_⟩) (by assumption) ?_
    rotate_left
    · intro w hSw; obtain ⟨_, _, h3, h4⟩ := hSw; go_simp; rfl
    simp only [Act.put, List.setIfInBounds_toArray, List.set_cons_zero, List.set_cons_succ, List.getElem_toArray, List.getElem_cons_zero, List.getElem_cons_succ]
    refine wpAnyH_take (i := 2) (v := ?_) rfl (by kernel_rfl) (by kernel_rfl) (by kernel_rfl) (fun _ _ _ h => h) (Or.inl ⟨by rfl, ?_⟩) (by assumption) ?_
    rotate_left
    · intro w hSw; obtain ⟨_, _, h3, h4⟩ := hSw; go_simp; rfl
    simp only [Act.put, List.setIfInBounds_toArray, List.set_cons_zero, List.set_cons_succ, List.getElem_toArray, List.getElem_cons_zero, List.getElem_cons_succ]
    refine wpAnyH_take (i := 3) (v := ?_) rfl (by kernel_rfl) (by kernel_rfl) (by kernel_rfl) (fun _ _ _ h => h) (Or.inl ⟨by rfl, ?_⟩) (by assumption) ?_
    rotate_left
    · intro w hSw; obtain ⟨_, _, h3, h4⟩ := hSw; go_simp; rfl
    simp only [Act.put, List.setIfInBounds_toArray, List.set_cons_zero, List.set_cons_succ, List.getElem_toArray, List.getElem_cons_zero, List.getElem_cons_succ]
    refine wpAnyH_take (i := 4) (v := ?_) rfl (by kernel_rfl) (by kernel_rfl) (by kernel_rfl) (fun _ _ _ h => h) (Or.inl ⟨by rfl, ?_⟩) (by assumption) ?_
    rotate_left
    · intro w hSw; obtain ⟨_, _, h3, h4⟩ := hSw; go_simp; rfl
    simp only [Act.put, List.setIfInBounds_toArray, List.set_cons_zero, List.set_cons_succ, List.getElem_toArray, List.getElem_cons_zero, List.getElem_cons_succ]
    refine wpAnyH_take (i := 5) (v := ?_) rfl (by kernel_rfl) (by kernel_rfl) (by kernel_rfl) (fun _ _ _ h => h) (Or.inl ⟨by rfl, ?_⟩) (by assumption) ?_
    rotate_left
    · intro w hSw; obtain ⟨_, _, h3, h4⟩ := hSw; go_simp; rfl
    simp only [Act.put, List.setIfInBounds_toArray, List.set_cons_zero, List.set_cons_succ, List.getElem_toArray, List.getElem_cons_zero, List.getElem_cons_succ]
    refine wpAnyH_take (i := 6) (v := ?_) rfl (by kernel_rfl) (by kernel_rfl) (by kernel_rfl) (fun _ _ _ h => h) (Or.inl ⟨by rfl, ?_⟩) (by assumption) ?_
    rotate_left
    · intro w hSw; obtain ⟨_, _, h3, h4⟩ := hSw; go_simp; rfl
    simp only [Act.put, List.setIfInBounds_toArray, List.set_cons_zero, List.set_cons_succ, List.getElem_toArray, List.getElem_cons_zero, List.getElem_cons_succ]
    refine wpAnyH_take (i := 7) (v := _) rfl (by kernel_rfl) (by kernel_rfl) (by kernel_rfl) (fun _ _ _ h => h) (yieldsIf_load_mid (by rfl) _ _ rfl _ _ rfl (rkL pk) _ (fun w h => h.1) Tryz.underlying131 rfl (by rw [rkL_len]; exact size125)) (by assumption) ?_
    simp only [Act.put, List.setIfInBounds_toArray, List.set_cons_zero, List.set_cons_succ, List.getElem_toArray, List.getElem_cons_zero, List.getElem_cons_succ]
    refine wpAnyH_take (i := 8) (v := _) rfl (by kernel_rfl) (by kernel_rfl) (by kernel_rfl) (fun _ _ _ h => h) (yieldsIf_load_mid (by rfl) _ _ rfl _ _ rfl (rkL key) _ (fun w h => h.2.1) Tryz.underlying131 rfl (by rw [rkL_len]; exact size125)) (by assumption) ?_
    simp only [Act.put, List.setIfInBounds_toArray, List.set_cons_zero, List.set_cons_succ, List.getElem_toArray, List.getElem_cons_zero, List.getElem_cons_succ]
    refine wpAnyH_ready (rs := [9]) (by kernel_rfl) (by simp) ?_
    refine AllReadyH.cons rfl (fun K hK => ?_) AllReadyH.nil
    go_simp
    refine (HAB.out _).mono ?_
    rintro e w1 ⟨rfl, hb1'⟩
    have hbw1 : Below W.heap.size W w1 := ((Below.refl W.heap.size W).drew).trans hb1'
    refine hK.out _ _ (HS.out _ hbw1) (fun hHeld => ?_)
    clear hK K
    refine wpAnyH_take (i := 10) (v := ?_) rfl (by kernel_rfl) (by kernel_rfl) (by kernel_rfl) (fun _ _ _ h => h) (Or.inl ⟨by rfl, ?_⟩) (by assumption) ?_
    rotate_left
    · intro w hSw; obtain ⟨_, _, h3, h4⟩ := hSw; go_simp; rfl
    simp only [Act.put, List.setIfInBounds_toArray, List.set_cons_zero, List.set_cons_succ, List.getElem_toArray, List.getElem_cons_zero, List.getElem_cons_succ]
    refine wpAnyH_take (i := 11) (v := ?_) rfl (by kernel_rfl) (by kernel_rfl) (by kernel_rfl) (fun _ _ _ h => h) (Or.inl ⟨by rfl, ?_⟩) (by assumption) ?_
    rotate_left
    · intro w hSw; obtain ⟨_, _, h3, h4⟩ := hSw; go_simp; rfl
    simp only [Act.put, List.setIfInBounds_toArray, List.set_cons_zero, List.set_cons_succ, List.getElem_toArray, List.getElem_cons_zero, List.getElem_cons_succ]
    refine wpAnyH_done (by kernel_rfl) ?_ _
    go_wp2_with fail
    go_ret
    exact ⟨rfl, hb.trans (hbw1.mono hb.size)⟩
/-- Whether a node can stand at its place. -/
theorem fits_any (over under key pk : ByteArray) (par : Option Addr) (w : World) (hp : ParAt par pk w) : Calls Tryz.prog 184 #[.agg #[.string over, .string under, .pointer par], .agg (rkL key).toArray] w fun e w' => e = .returned (.bool (insW over under key && parW hgW pk key)) ∧ Below w.heap.size w w' := by
  cases h : insW over under key with
  | false => exact fits_no over under key par w h
  | true =>
    rw [Bool.true_and]
    unfold parW
    rcases hp with ⟨rfl, he⟩ | ⟨he, g, rfl, hg⟩
    · rw [he]; exact fits_top over under key w h
    · rw [he]; exact fits_par over under key pk g w h hg
end Go.Proofs.YtfmpjlpakldheaaGreatDoor
namespace Go.Proofs.YtfmpjlpakldheaaGreatDoor
open Go.RowKit Go.Proofs.Sha

theorem Row.setHead {w : World} {base g n cap : Nat} {xs : List Value} (h : Row w base g n cap xs) (ys : List Value) (ho : ys.length ≤ n) : Row (w.setCells g 0 ys) base g n cap (ys ++ xs.drop ys.length) := by
  have hin : ∀ j (hj : j < ys.length), (w.setCells g 0 ys).cell? ⟨g, 0 + j, none⟩ = some ys[j] := World.cell?_setCells_in g ys 0 w (fun j hj => h.room (0 + j) (by have := h.le; omega))
  have hout : ∀ j, j < 0 ∨ 0 + ys.length ≤ j → (w.setCells g 0 ys).cell? ⟨g, j, none⟩ = w.cell? ⟨g, j, none⟩ := fun j hj => World.cell?_setCells_out g ys 0 w ⟨g, j, none⟩ (fun _ _ => hj)
  have hgr := grownBy_setCells g ys 0 w
  have hl := h.len
  refine ⟨h.ge, Nat.lt_of_lt_of_le h.lt hgr.size, by rw [List.length_append, List.length_drop]; omega, h.le, ?_, ?_, ?_⟩
  · intro j hj
    rcases Nat.lt_or_ge j ys.length with h1 | h1
    · have := hin j h1
      rw [Nat.zero_add] at this
      rw [this, List.getElem?_append_left h1, List.getElem?_eq_getElem h1]
    · rw [hout j (.inr (by omega)), h.cell j hj, List.getElem?_append_right h1, List.getElem?_drop, show ys.length + (j - ys.length) = j by omega]
  · intro j hj
    rcases Nat.lt_or_ge j ys.length with h1 | h1
    · have := hin j h1
      rw [Nat.zero_add] at this
      rw [this]; rfl
    · rw [hout j (.inr (by omega))]; exact h.room j hj
  · intro j hj
    rw [World.frozen?_setCells]; exact h.free j hj
theorem info5m : (Tryz.prog.info? 5).map (·.size) = some 1 := by kernel_rfl
theorem run_copy_text {w : World} {base g n cap : Nat} {xs : List Value} (h : Row w base g n cap xs) (s : ByteArray) (hs : s.size ≤ n) :
    (Builtin.copy_ #[22, 9] 3 #[.slice (some ⟨g, 0, none⟩) n n, .string s]).run Tryz.prog w = .ok (goInt s.size) (w.setCells g 0 (s.data.toList.map B)) := by
  have hlen : (s.data.toList.map B).length = s.size := by rw [List.length_map]; rfl
  have hst := run_storeCells_cells (P := Tryz.prog) g 0 (s.data.toList.map B) 0 w (fun j hj => by have := h.room j (by have := h.le; omega); simpa using this) (fun j hj => by have := h.free j (by have := h.le; omega); simpa using this) (fun v hv => by obtain ⟨x, _, rfl⟩ := List.mem_map.1 hv; rfl)
  simp only [Nat.add_zero] at hst
  have hmin : Nat.min s.size n = s.size := Nat.min_eq_left hs
  have htk : List.take s.size (List.map (fun b : UInt8 => Value.int IntKind.u8 (b.toNat : Int)) s.data.toList) = s.data.toList.map B := by
    rw [List.take_of_length_le (by rw [List.length_map]; exact Nat.le_refl _)]; rfl
  obtain ⟨i, hi, hsz⟩ : ∃ i, Tryz.prog.info? 5 = some i ∧ i.size = 1 := by
    have := info5m
    cases hh : Tryz.prog.info? 5 with
    | none => rw [hh] at this; cases this
    | some i => rw [hh] at this; exact ⟨i, rfl, Option.some.inj this⟩
  simp [Builtin.copy_, run_underlying Tryz.underlying22, sizeOf, typeInfo, hi, Builtin.lenOf, hmin, Builtin.firstCells, htk, hst]

set_option maxRecDepth 100000 in
set_option maxHeartbeats 1000000 in
theorem find_any (wd : Nat) (r : Nat) (F : List UInt8 → Option Int) (hash : ByteArray) (w : World) (h : MapF F r w) (h1 : wd ≤ 32) (h2 : hash.size = wd) :
    Calls Tryz.prog 185 #[.agg #[.int .i64 (wd : Int), .map (some r)], .string hash] w fun e w' => e = .returned (.tuple #[.int .i64 ((F (cutW wd hash.data.toList)).getD 0), .bool (F (cutW wd hash.data.toList)).isSome]) ∧ Below w.heap.size w w' := by
  have z1 : ((hash.size : Int) != (wd : Int)) = false := by rw [h2]; simp
  have hsz : hash.size ≤ 32 := by omega
  have hhl : hash.data.toList.length = hash.size := rfl
  have hcut : hash.data.toList.map B ++ (zeros32b.map B).drop (hash.data.toList.map B).length = (cutW wd hash.data.toList).map B := by
    unfold cutW zeros32b
    rw [List.map_append, List.take_of_length_le (by omega), List.length_map, hhl, h2, List.map_replicate, List.map_replicate, List.drop_replicate]
  have hX : (cutW wd hash.data.toList).length = 32 := by unfold cutW; rw [List.length_append, List.length_take, List.length_replicate]; omega
  obtain ⟨X, hXX⟩ : ∃ X, cutW wd hash.data.toList = X := ⟨_, rfl⟩
  rw [hXX] at hcut hX ⊢
  clear h2 hXX
  have hrl : r < w.heap.size := by
    obtain ⟨es, cl, hg, _, _⟩ := h.is
    exact (Array.getElem?_eq_some_iff.1 hg).1
  go_enter Tryz.func185, Tryz.ntmps185
  obtain ⟨ga, hga⟩ : ∃ ga, w.heap.size = ga := ⟨_, rfl⟩
  go_wp2_with (first | (refine wpList_alloc_row _ rfl (some 6) rfl 116 116 rfl (zeros32b.map B) alloc43 ?_; intro g2 w2 hr2 hb2))
  have hr2' : Row w2 (ga + 1) g2 32 32 (zeros32b.map B) := by
    have := hr2
    rw [World.size_alloc, hga] at this
    exact this
  have hcp := run_copy_text hr2' hash hsz
  have hR3 := Row.setHead hr2' (hash.data.toList.map B) (by rw [List.length_map]; omega)
  rw [hcut] at hR3
  have hg3 := grownBy_setCells g2 (hash.data.toList.map B) 0 w2
  obtain ⟨w3, hw3⟩ : ∃ w3, w2.setCells g2 0 (hash.data.toList.map B) = w3 := ⟨_, rfl⟩
  rw [hw3] at hcp hR3 hg3
  clear hw3
  have hge := hr2'.ge
  have hb2' : Below (ga + 1) (w.alloc (.cells #[.int .i64 (wd : Int), .map (some r)] 176)) w2 := by
    have := hb2
    rw [World.size_alloc, hga] at this
    exact this
  have hn2 : w2.heap[ga]? = some (.cells #[.int .i64 (wd : Int), .map (some r)] 176) := (hb2'.block ga (by omega)).trans (by rw [← hga]; exact heap_alloc_new w _)
  have hne : ga ≠ g2 := by omega
  have hn3 : w3.heap[ga]? = some (.cells #[.int .i64 (wd : Int), .map (some r)] 176) := (hg3.block ga (Array.getElem?_eq_some_iff.1 hn2).1 (fun e => hne (Option.some.inj e))).trans hn2
  have hB2 : Below w.heap.size w w2 := ((Below.refl _ w).alloc (Nat.le_refl _) _).trans (hb2'.mono (by omega))
  have hM3 : MapF F r w3 := (h.below hB2).kept hg3 (by omega)
  have hB3 : Below w.heap.size w w3 := hB2.trans (below_of_grown hg3 (by omega) hB2.size)
  have hlk := run_look key43 Tryz.underlying174 zeroV3 hM3 X hX
  unfold K32 at hlk
  have d0 := Lib.cell_of_heap hn3 0
  have d1 := Lib.cell_of_heap hn3 1
  clear hb2 hb2' hr2 hr2' hB2 hn2 hM3 h
  obtain ⟨fx, hfx⟩ : ∃ fx, F X = fx := ⟨_, rfl⟩
  rw [hfx] at hlk
  have HF : Hid (F X = fx) := hfx
  clear hfx
  rw [hcp]
  clear hcp
  go_wp2_with (first | (refine wpList_load_whole _ rfl 116 (.tmp 6) rfl (ga + 1) g2 32 32 (X.map B) 5 rfl hR3 Tryz.underlying116 size43 ?_))
  go_ret2
  rw [HF.out]
  exact ⟨rfl, hB3⟩
end Go.Proofs.YtfmpjlpakldheaaGreatDoor
namespace Go.Proofs.YtfmpjlpakldheaaGreatDoor
open Go.RowKit Go.Proofs.Sha

/-- A slice of texts. -/
structure SArg (a : Option Addr) (ss : List ByteArray) (w : World) : Prop where
  le : ss.length ≤ 1048576
  sz : ∀ j, (ss.getD j ⟨#[]⟩).size ≤ 1048576
  at_ : 0 < ss.length → ∃ b off : Nat, a = some ⟨b, off, none⟩ ∧ b < w.heap.size ∧ ∀ j, j < ss.length → w.cell? ⟨b, off + j, none⟩ = some (.string (ss.getD j ⟨#[]⟩))
theorem SArg.below {a : Option Addr} {ss : List ByteArray} {w w' : World} (h : SArg a ss w) (hb : Below w.heap.size w w') : SArg a ss w' := by
  refine ⟨h.le, h.sz, fun hn => ?_⟩
  obtain ⟨b, off, ha, hlt, hc⟩ := h.at_ hn
  exact ⟨b, off, ha, Nat.lt_of_lt_of_le hlt hb.size, fun j hj => (hb.cell hlt).trans (hc j hj)⟩
/-- The hash of an encoding, cut to a width. -/
def keyW (wd : Nat) (s : ByteArray) : List UInt8 := cutW wd (sha (78 :: s.data.toList))
/-- The places of the first k encodings. -/
def placesF (wd : Nat) (ss : List ByteArray) : Nat → List UInt8 → Option Int
  | 0 => fun _ => none
  | k + 1 => addF (placesF wd ss k) (keyW wd (ss.getD k ⟨#[]⟩)) (k : Int)

end Go.Proofs.YtfmpjlpakldheaaGreatDoor
