import Derived.Test.YtibjhkpgaaapaaaGreatDoorZgaq
import Derived.Test.YtibjhkpgaaapaaaGreatDoorZgaa
import Derived.Test.YtibjhkpgaaapaaaGreatDoorZgah
set_option maxRecDepth 100000
set_option maxHeartbeats 2000000
namespace Go.Proofs.YtibjhkpgaaapaaaGreatDoor
open Go.RowKit Go.Proofs.Sha

theorem lessB_tri (a b : ByteArray) : lessB a b = !(lessB b a || (b.toList == a.toList)) := less_tri _ _
/-- 'canW' as the program asks it. -/
theorem canW_eq (over under lo hi : ByteArray) : canW over under lo hi = (if (!hi.toList.isEmpty && ((Op.bytesLess hi.toList lo.toList || (hi.toList == lo.toList)) || (Op.bytesLess hi.toList over.toList || (hi.toList == over.toList)))) = true then false else (under.toList.isEmpty || (!Op.bytesLess under.toList lo.toList && !(under.toList == lo.toList)))) := by
  unfold canW
  rw [lessB_tri lo hi, lessB_tri over hi, lessB_tri lo under, emp_iff, emp_iff]
  unfold lessB
  cases emp hi <;> cases emp under <;> cases Op.bytesLess hi.toList lo.toList <;> cases (hi.toList == lo.toList) <;> cases Op.bytesLess hi.toList over.toList <;> cases (hi.toList == over.toList) <;> simp
theorem hasW_eq (lo hi key : ByteArray) : hasW lo hi key = ((Op.bytesLess lo.toList key.toList || (lo.toList == key.toList)) && (hi.toList.isEmpty || Op.bytesLess key.toList hi.toList)) := by
  unfold hasW
  rw [lessB_tri key lo, emp_iff]
  unfold lessB
  simp
theorem can_any (lo hi over under : ByteArray) (par : Option Addr) (w : World) : Calls Tryz.prog 142 #[.agg #[.string lo, .string hi], .agg #[.string over, .string under, .pointer par]] w fun e w' => e = .returned (.bool (canW over under lo hi)) ∧ Below w.heap.size w w' := by
  have hb : Below w.heap.size w ((w.alloc (.cells #[.string lo, .string hi] 75)).alloc (.cells #[.string over, .string under, .pointer par] 144)) := ((Below.refl _ _).alloc (Nat.le_refl _) _).alloc (by simp) _
  have HR := canW_eq over under lo hi
  cases h1 : hi.toList.isEmpty with
  | false =>
    cases a1 : Op.bytesLess hi.toList lo.toList with
    | false =>
      cases a2 : (hi.toList == lo.toList) with
      | false =>
        cases a3 : Op.bytesLess hi.toList over.toList with
        | false =>
          cases a4 : (hi.toList == over.toList) with
          | false =>
            cases h2 : under.toList.isEmpty with
            | false =>
              rw [h1, a1, a2, a3, a4, h2] at HR
              have HR2 : Hid _ := HR
              clear HR
              go_enter Tryz.func142, Tryz.ntmps142
              go_wp2_with fail
              go_ret
              exact ⟨by rw [HR2.out]; rfl, hb⟩
            | true =>
              rw [h1, a1, a2, a3, a4, h2] at HR
              have HR2 : Hid _ := HR
              clear HR
              go_enter Tryz.func142, Tryz.ntmps142
              go_wp2_with fail
              go_ret
              exact ⟨by rw [HR2.out]; rfl, hb⟩
          | true =>
            rw [h1, a1, a2, a3, a4] at HR
            have HR2 : Hid _ := HR
            clear HR
            go_enter Tryz.func142, Tryz.ntmps142
            go_wp2_with fail
            go_ret
            exact ⟨by rw [HR2.out]; rfl, hb⟩
        | true =>
          rw [h1, a1, a2, a3] at HR
          have HR2 : Hid _ := HR
          clear HR
          go_enter Tryz.func142, Tryz.ntmps142
          go_wp2_with fail
          go_ret
          exact ⟨by rw [HR2.out]; rfl, hb⟩
      | true =>
        rw [h1, a1, a2] at HR
        have HR2 : Hid _ := HR
        clear HR
        go_enter Tryz.func142, Tryz.ntmps142
        go_wp2_with fail
        go_ret
        exact ⟨by rw [HR2.out]; rfl, hb⟩
    | true =>
      rw [h1, a1] at HR
      have HR2 : Hid _ := HR
      clear HR
      go_enter Tryz.func142, Tryz.ntmps142
      go_wp2_with fail
      go_ret
      exact ⟨by rw [HR2.out]; rfl, hb⟩
  | true =>
    cases h2 : under.toList.isEmpty with
    | false =>
      rw [h1, h2] at HR
      have HR2 : Hid _ := HR
      clear HR
      go_enter Tryz.func142, Tryz.ntmps142
      go_wp2_with fail
      go_ret
      exact ⟨by rw [HR2.out]; rfl, hb⟩
    | true =>
      rw [h1, h2] at HR
      have HR2 : Hid _ := HR
      clear HR
      go_enter Tryz.func142, Tryz.ntmps142
      go_wp2_with fail
      go_ret
      exact ⟨by rw [HR2.out]; rfl, hb⟩
theorem has_any (lo hi key : ByteArray) (w : World) : Calls Tryz.prog 101 #[.agg #[.string lo, .string hi], .string key] w fun e w' => e = .returned (.bool (hasW lo hi key)) ∧ Below w.heap.size w w' := by
  have hb : Below w.heap.size w (w.alloc (.cells #[.string lo, .string hi] 75)) := (Below.refl _ _).alloc (Nat.le_refl _) _
  have HR := hasW_eq lo hi key
  cases a1 : Op.bytesLess lo.toList key.toList with
  | false =>
    cases a2 : (lo.toList == key.toList) with
    | false =>
      rw [a1, a2] at HR
      have HR2 : Hid _ := HR
      clear HR
      go_enter Tryz.func101, Tryz.ntmps101
      go_wp2_with fail
      go_ret
      exact ⟨by rw [HR2.out]; rfl, hb⟩
    | true =>
      cases h1 : hi.toList.isEmpty with
      | false =>
        rw [a1, a2, h1] at HR
        have HR2 : Hid _ := HR
        clear HR
        go_enter Tryz.func101, Tryz.ntmps101
        go_wp2_with fail
        go_ret
        exact ⟨by rw [HR2.out]; rfl, hb⟩
      | true =>
        rw [a1, a2, h1] at HR
        have HR2 : Hid _ := HR
        clear HR
        go_enter Tryz.func101, Tryz.ntmps101
        go_wp2_with fail
        go_ret
        exact ⟨by rw [HR2.out]; rfl, hb⟩
  | true =>
    cases h1 : hi.toList.isEmpty with
    | false =>
      rw [a1, h1] at HR
      have HR2 : Hid _ := HR
      clear HR
      go_enter Tryz.func101, Tryz.ntmps101
      go_wp2_with fail
      go_ret
      exact ⟨by rw [HR2.out]; rfl, hb⟩
    | true =>
      rw [a1, h1] at HR
      have HR2 : Hid _ := HR
      clear HR
      go_enter Tryz.func101, Tryz.ntmps101
      go_wp2_with fail
      go_ret
      exact ⟨by rw [HR2.out]; rfl, hb⟩
def Ptr (p : Option Addr) (w : World) : Prop := p = none ∨ ∃ (x : Nat) (cs : Array Value) (u : TypeId), p = some ⟨x, 0, none⟩ ∧ w.heap[x]? = some (.cells cs u (0, 0))
theorem size125 : (Tryz.prog.info? 249).map (·.size) = some 33 := by kernel_rfl
theorem ptr_eqlR (a b : Option Addr) (w : World) (ha : Ptr a w) (hb : Ptr b w) : (binOp .eql 142 (.pointer a) (.pointer b)).run Tryz.prog w = .ok (.bool (decide (a = b))) w := by
  obtain ⟨j, h1, h2⟩ := Option.map_eq_some_iff.1 size125
  exact run_eql_ptr 142 249 j Tryz.underlying142 h1 (by rw [h2]; decide) a b w ha hb
/-- One key above another. -/
def hgW (a b : ByteArray) : Bool := rk (sha a.data.toList) (sha b.data.toList) a.data.toList b.data.toList
/-- The parent's rank, if there is one. -/
def ParAt (par : Option Addr) (pk : ByteArray) (w : World) : Prop := (par = none ∧ emp pk = true) ∨ (emp pk = false ∧ ∃ g, par = some ⟨g, 0, none⟩ ∧ RKb g pk w)
theorem fits_no (over under key : ByteArray) (par : Option Addr) (w : World) (h : insW over under key = false) : Calls Tryz.prog 171 #[.agg #[.string over, .string under, .pointer par], .agg (rkL key).toArray] w fun e w' => e = .returned (.bool false) ∧ Below w.heap.size w w' := by
  obtain ⟨W, hW⟩ : ∃ W, (w.alloc (.cells #[.string over, .string under, .pointer par] 144)).alloc (.cells (rkL key).toArray 249) = W := ⟨_, rfl⟩
  have hb : Below w.heap.size w W := by rw [← hW]; exact ((Below.refl _ _).alloc (Nat.le_refl _) _).alloc (by simp) _
  have n0 : W.heap[w.heap.size]? = some (.cells #[.string over, .string under, .pointer par] 144) := by rw [← hW, Below.heap_alloc _ _ _ (by simp)]; exact heap_alloc_new w _
  have n1 : W.heap[w.heap.size + 1]? = some (.cells (rkL key).toArray 249) := by
    have := heap_alloc_new (w.alloc (.cells #[.string over, .string under, .pointer par] 144)) (.cells (rkL key).toArray 249)
    rw [← hW]; simpa using this
  have ca : W.cell? ⟨w.heap.size, 0, none⟩ = some (.string over) := Lib.cell_of_heap n0 0
  have cc : W.cell? ⟨w.heap.size, 1, none⟩ = some (.string under) := Lib.cell_of_heap n0 1
  have cb : W.cell? ⟨w.heap.size + 1, 32, none⟩ = some (.string key) := RKb.c32 n1
  generalize (rkL key).toArray = cs at hW n1
  obtain ⟨ga, hga⟩ : ∃ ga, w.heap.size = ga := ⟨_, rfl⟩
  rw [hga] at ca cb cc
  cases a1 : Op.bytesLess key.toList over.toList with
  | true =>
    go_enter Tryz.func171, Tryz.ntmps171
    go_wp2_with fail
    go_ret
    exact ⟨rfl, by rw [hga] at hb ⊢; exact hb⟩
  | false =>
    cases a2 : (key.toList == over.toList) with
    | true =>
      go_enter Tryz.func171, Tryz.ntmps171
      go_wp2_with fail
      go_ret
      exact ⟨rfl, by rw [hga] at hb ⊢; exact hb⟩
    | false =>
      have hin : (emp under || lessB key under) = false := by
        unfold insW at h
        rw [lessB_tri over key] at h
        have : lessB key over = false := a1
        rw [this, a2] at h
        simpa using h
      rw [Bool.or_eq_false_iff] at hin
      have e2 := emp_iff under
      rw [hin.1] at e2
      have a3 : Op.bytesLess key.toList under.toList = false := hin.2
      go_enter Tryz.func171, Tryz.ntmps171
      go_wp2_with fail
      go_ret
      exact ⟨rfl, by rw [hga] at hb ⊢; exact hb⟩
theorem ins_yes {over under key : ByteArray} (h : insW over under key = true) : Op.bytesLess key.toList over.toList = false ∧ (key.toList == over.toList) = false ∧ (under.toList.isEmpty = true ∨ (under.toList.isEmpty = false ∧ Op.bytesLess key.toList under.toList = true)) := by
  unfold insW at h
  rw [Bool.and_eq_true, lessB_tri over key] at h
  obtain ⟨h1, h2⟩ := h
  have h1' : (lessB key over || (key.toList == over.toList)) = false := by simpa using h1
  rw [Bool.or_eq_false_iff] at h1'
  refine ⟨h1'.1, h1'.2, ?_⟩
  rw [emp_iff]
  cases hu : emp under with
  | true => exact .inl rfl
  | false => rw [hu, Bool.false_or] at h2; exact .inr ⟨rfl, h2⟩
theorem fits_top (over under key : ByteArray) (w : World) (h : insW over under key = true) : Calls Tryz.prog 171 #[.agg #[.string over, .string under, .pointer none], .agg (rkL key).toArray] w fun e w' => e = .returned (.bool true) ∧ Below w.heap.size w w' := by
  obtain ⟨W, hW⟩ : ∃ W, (w.alloc (.cells #[.string over, .string under, .pointer none] 144)).alloc (.cells (rkL key).toArray 249) = W := ⟨_, rfl⟩
  have hb : Below w.heap.size w W := by rw [← hW]; exact ((Below.refl _ _).alloc (Nat.le_refl _) _).alloc (by simp) _
  have n0 : W.heap[w.heap.size]? = some (.cells #[.string over, .string under, .pointer none] 144) := by rw [← hW, Below.heap_alloc _ _ _ (by simp)]; exact heap_alloc_new w _
  have n1 : W.heap[w.heap.size + 1]? = some (.cells (rkL key).toArray 249) := by
    have := heap_alloc_new (w.alloc (.cells #[.string over, .string under, .pointer none] 144)) (.cells (rkL key).toArray 249)
    rw [← hW]; simpa using this
  have ca : W.cell? ⟨w.heap.size, 0, none⟩ = some (.string over) := Lib.cell_of_heap n0 0
  have cc : W.cell? ⟨w.heap.size, 1, none⟩ = some (.string under) := Lib.cell_of_heap n0 1
  have cd : W.cell? ⟨w.heap.size, 2, none⟩ = some (.pointer none) := Lib.cell_of_heap n0 2
  have cb : W.cell? ⟨w.heap.size + 1, 32, none⟩ = some (.string key) := RKb.c32 n1
  have qn : ∀ W' : World, (binOp .eql 142 (.pointer none) (.pointer none)).run Tryz.prog W' = .ok (.bool true) W' := fun W' => by rw [ptr_eqlR none none W' (.inl rfl) (.inl rfl)]; rfl
  generalize (rkL key).toArray = cs at hW n1
  obtain ⟨ga, hga⟩ : ∃ ga, w.heap.size = ga := ⟨_, rfl⟩
  rw [hga] at ca cb cc cd
  obtain ⟨a1, a2, ha⟩ := ins_yes h
  clear h
  rcases ha with e2 | ⟨e2, a3⟩
  all_goals
    go_enter Tryz.func171, Tryz.ntmps171
    go_upto_region 3 with fail
    go_quiet (fail)
    go_wp2_with fail
    go_ret
    exact ⟨rfl, by rw [hga] at hb ⊢; exact ⟨hb.os, hb.tape, hb.output, hb.size, hb.block⟩⟩
theorem fits_par (over under key pk : ByteArray) (g : Nat) (w : World) (h : insW over under key = true) (hg : RKb g pk w) : Calls Tryz.prog 171 #[.agg #[.string over, .string under, .pointer (some ⟨g, 0, none⟩)], .agg (rkL key).toArray] w fun e w' => e = .returned (.bool (hgW pk key)) ∧ Below w.heap.size w w' := by
  obtain ⟨W, hW⟩ : ∃ W, (w.alloc (.cells #[.string over, .string under, .pointer (some ⟨g, 0, none⟩)] 144)).alloc (.cells (rkL key).toArray 249) = W := ⟨_, rfl⟩
  have hb : Below w.heap.size w W := by rw [← hW]; exact ((Below.refl _ _).alloc (Nat.le_refl _) _).alloc (by simp) _
  have n0 : W.heap[w.heap.size]? = some (.cells #[.string over, .string under, .pointer (some ⟨g, 0, none⟩)] 144) := by rw [← hW, Below.heap_alloc _ _ _ (by simp)]; exact heap_alloc_new w _
  have n1 : RKb (w.heap.size + 1) key W := by
    have := heap_alloc_new (w.alloc (.cells #[.string over, .string under, .pointer (some ⟨g, 0, none⟩)] 144)) (.cells (rkL key).toArray 249)
    unfold RKb
    rw [← hW]; simpa using this
  have hg1 : RKb g pk W := (hb.block g (Array.getElem?_eq_some_iff.1 hg).1).trans hg
  have ca : W.cell? ⟨w.heap.size, 0, none⟩ = some (.string over) := Lib.cell_of_heap n0 0
  have cc : W.cell? ⟨w.heap.size, 1, none⟩ = some (.string under) := Lib.cell_of_heap n0 1
  have cd : W.cell? ⟨w.heap.size, 2, none⟩ = some (.pointer (some ⟨g, 0, none⟩)) := Lib.cell_of_heap n0 2
  have cb : W.cell? ⟨w.heap.size + 1, 32, none⟩ = some (.string key) := RKb.c32 n1
  have qn : ∀ W' : World, RKb g pk W' → (binOp .eql 142 (.pointer (some ⟨g, 0, none⟩)) (.pointer none)).run Tryz.prog W' = .ok (.bool false) W' := fun W' hW' => by rw [ptr_eqlR _ none W' (.inr ⟨g, _, _, rfl, hW'⟩) (.inl rfl)]; rfl
  have r1 := hg1.range
  have r2 := n1.range
  have HAB : Hid (∀ w', Calls Tryz.prog 164 #[.agg (rkL pk).toArray, .agg (rkL key).toArray] w' fun e w'' => e = .returned (.bool (hgW pk key)) ∧ Below w'.heap.size w' w'') := fun w' => above_any _ _ (by unfold sha; rw [outTo_length]) (by unfold sha; rw [outTo_length]) pk key w'
  obtain ⟨ga, hga⟩ : ∃ ga, w.heap.size = ga := ⟨_, rfl⟩
  rw [hga] at ca cb cc cd r2
  obtain ⟨a1, a2, ha⟩ := ins_yes h
  clear h
  have hq := qn W hg1
  have HS : Hid (∀ W', Below W.heap.size W W' → W'.rangeAt g 0 (rkL pk) ∧ W'.rangeAt (ga + 1) 0 (rkL key) ∧ W'.cell? ⟨ga, 2, none⟩ = some (.pointer (some ⟨g, 0, none⟩)) ∧ (binOp .eql 142 (.pointer (some ⟨g, 0, none⟩)) (.pointer none)).run Tryz.prog W' = .ok (.bool false) W') := fun W' hW' => by
    have x1 : RKb g pk W' := (hW'.block g (Array.getElem?_eq_some_iff.1 hg1).1).trans hg1
    rw [hga] at n1 n0
    have x2 : RKb (ga + 1) key W' := (hW'.block (ga + 1) (Array.getElem?_eq_some_iff.1 n1).1).trans n1
    have x3 := (hW'.block ga (Array.getElem?_eq_some_iff.1 n0).1).trans n0
    exact ⟨x1.range, x2.range, Lib.cell_of_heap x3 2, qn W' x1⟩
  clear qn hq
  rcases ha with e2 | ⟨e2, a3⟩
  · go_enter Tryz.func171, Tryz.ntmps171
    go_upto_region 3 with fail
    refine wp_region_held_drew (S := fun W' => W'.rangeAt g 0 (rkL pk) ∧ W'.rangeAt (ga + 1) 0 (rkL key) ∧ W'.cell? ⟨ga, 2, none⟩ = some (.pointer (some ⟨g, 0, none⟩)) ∧ (binOp .eql 142 (.pointer (some ⟨g, 0, none⟩)) (.pointer none)).run Tryz.prog W' = .ok (.bool false) W') (by kernel_rfl) (HS.out _ (Below.refl _ _).drew) (fun hHeld => ?_)
    refine tkI 0 ?_
    simp only [Act.put, zq]
    refine tkI 1 ?_
    simp only [Act.put, zq]
    refine tkI 2 ?_
    simp only [Act.put, zq]
    refine tkI 3 ?_
    simp only [Act.put, zq]
    refine tkI 4 ?_
    simp only [Act.put, zq]
    refine tkI 5 ?_
    simp only [Act.put, zq]
    refine tkI 6 ?_
    simp only [Act.put, zq]
    refine tkH (i := 7) (v := _) rfl (yieldsIf_load_mid (by rfl) _ _ rfl _ _ rfl (rkL pk) _ (fun w h => h.1) Tryz.underlying249 rfl (by rw [rkL_len]; exact size125)) ?_
    simp only [Act.put, zq]
    refine tkH (i := 8) (v := _) rfl (yieldsIf_load_mid (by rfl) _ _ rfl _ _ rfl (rkL key) _ (fun w h => h.2.1) Tryz.underlying249 rfl (by rw [rkL_len]; exact size125)) ?_
    simp only [Act.put, zq]
    refine rdH 9 (fun K hK => ?_)
    go_simp
    refine (HAB.out _).mono ?_
    rintro e w1 ⟨rfl, hb1'⟩
    have hbw1 : Below W.heap.size W w1 := ((Below.refl W.heap.size W).drew).trans hb1'
    refine hK.out _ _ (HS.out _ hbw1) (fun hHeld => ?_)
    clear hK K
    refine tkI 10 ?_
    simp only [Act.put, zq]
    refine tkI 11 ?_
    simp only [Act.put, zq]
    refine wpAnyH_done (by kernel_rfl) ?_ _
    go_wp2_with fail
    go_ret
    exact ⟨rfl, hb.trans (hbw1.mono hb.size)⟩
  · go_enter Tryz.func171, Tryz.ntmps171
    go_upto_region 3 with fail
    refine wp_region_held_drew (S := fun W' => W'.rangeAt g 0 (rkL pk) ∧ W'.rangeAt (ga + 1) 0 (rkL key) ∧ W'.cell? ⟨ga, 2, none⟩ = some (.pointer (some ⟨g, 0, none⟩)) ∧ (binOp .eql 142 (.pointer (some ⟨g, 0, none⟩)) (.pointer none)).run Tryz.prog W' = .ok (.bool false) W') (by kernel_rfl) (HS.out _ (Below.refl _ _).drew) (fun hHeld => ?_)
    refine tkI 0 ?_
    simp only [Act.put, zq]
    refine tkI 1 ?_
    simp only [Act.put, zq]
    refine tkI 2 ?_
    simp only [Act.put, zq]
    refine tkI 3 ?_
    simp only [Act.put, zq]
    refine tkI 4 ?_
    simp only [Act.put, zq]
    refine tkI 5 ?_
    simp only [Act.put, zq]
    refine tkI 6 ?_
    simp only [Act.put, zq]
    refine tkH (i := 7) (v := _) rfl (yieldsIf_load_mid (by rfl) _ _ rfl _ _ rfl (rkL pk) _ (fun w h => h.1) Tryz.underlying249 rfl (by rw [rkL_len]; exact size125)) ?_
    simp only [Act.put, zq]
    refine tkH (i := 8) (v := _) rfl (yieldsIf_load_mid (by rfl) _ _ rfl _ _ rfl (rkL key) _ (fun w h => h.2.1) Tryz.underlying249 rfl (by rw [rkL_len]; exact size125)) ?_
    simp only [Act.put, zq]
    refine rdH 9 (fun K hK => ?_)
    go_simp
    refine (HAB.out _).mono ?_
    rintro e w1 ⟨rfl, hb1'⟩
    have hbw1 : Below W.heap.size W w1 := ((Below.refl W.heap.size W).drew).trans hb1'
    refine hK.out _ _ (HS.out _ hbw1) (fun hHeld => ?_)
    clear hK K
    refine tkI 10 ?_
    simp only [Act.put, zq]
    refine tkI 11 ?_
    simp only [Act.put, zq]
    refine wpAnyH_done (by kernel_rfl) ?_ _
    go_wp2_with fail
    go_ret
    exact ⟨rfl, hb.trans (hbw1.mono hb.size)⟩
/-- Whether a node can stand at its place. -/
theorem fits_any (over under key pk : ByteArray) (par : Option Addr) (w : World) (hp : ParAt par pk w) : Calls Tryz.prog 171 #[.agg #[.string over, .string under, .pointer par], .agg (rkL key).toArray] w fun e w' => e = .returned (.bool (insW over under key && parW hgW pk key)) ∧ Below w.heap.size w w' := by
  cases h : insW over under key with
  | false => exact fits_no over under key par w h
  | true =>
    rw [Bool.true_and]
    unfold parW
    rcases hp with ⟨rfl, he⟩ | ⟨he, g, rfl, hg⟩
    · rw [he]; exact fits_top over under key w h
    · rw [he]; exact fits_par over under key pk g w h hg
theorem shigher_any (a b : ByteArray) (w : World) (ha : a.size ≤ 1048576) (hb : b.size ≤ 1048576) :
    Calls Tryz.prog 67 #[.string a, .string b] w fun e w' => e = .returned (.bool (rk (sha a.data.toList) (sha b.data.toList) a.data.toList b.data.toList)) ∧ Below w.heap.size w w' := by
  have hla : (sha a.data.toList).length = 32 := by unfold sha; rw [outTo_length]
  have hlb : (sha b.data.toList).length = 32 := by unfold sha; rw [outTo_length]
  have H1 := fun w' => spec_any a w' ha
  have H2 := fun w' => spec_any b w' hb
  have HR1 : Hid (sha a.data.toList = sha b.data.toList → rk (sha a.data.toList) (sha b.data.toList) a.data.toList b.data.toList = Op.bytesLess a.data.toList b.data.toList) := fun h => if_pos h
  have HR2 : Hid (sha a.data.toList ≠ sha b.data.toList → rk (sha a.data.toList) (sha b.data.toList) a.data.toList b.data.toList = Op.bytesLess (sha b.data.toList) (sha a.data.toList)) := fun h => if_neg h
  obtain ⟨X, hX⟩ : ∃ X, sha a.data.toList = X := ⟨_, rfl⟩
  obtain ⟨Y, hY⟩ : ∃ Y, sha b.data.toList = Y := ⟨_, rfl⟩
  rw [hX] at hla H1
  rw [hY] at hlb H2
  rw [hX, hY] at HR1 HR2
  rw [hX, hY]
  obtain ⟨SX, hSX⟩ : ∃ S : ByteArray, S = ⟨X.toArray⟩ := ⟨_, rfl⟩
  obtain ⟨SY, hSY⟩ : ∃ S : ByteArray, S = ⟨Y.toArray⟩ := ⟨_, rfl⟩
  have dX : SX.data.toList = X := by rw [hSX]
  have dY : SY.data.toList = Y := by rw [hSY]
  have zX : SX.size ≤ 1048576 := by rw [hSX]; show X.length ≤ _; omega
  have zY : SY.size ≤ 1048576 := by rw [hSY]; show Y.length ≤ _; omega
  rw [← hSX] at H1
  rw [← hSY] at H2
  have L1 := fun w' => less_any SY SX w' zY zX
  have L2 := fun w' => less_any a b w' ha hb
  rw [dX, dY] at L1
  have K1 : Hid (∀ w', Calls Tryz.prog 64 #[.string a] w' fun e w'' => e = .returned (.string SX) ∧ Below w'.heap.size w' w'') := H1
  have K2 : Hid (∀ w', Calls Tryz.prog 64 #[.string b] w' fun e w'' => e = .returned (.string SY) ∧ Below w'.heap.size w' w'') := H2
  have K3 : Hid (∀ w', Calls Tryz.prog 85 #[.string SY, .string SX] w' fun e w'' => e = .returned (.bool (Op.bytesLess Y X)) ∧ Below w'.heap.size w' w'') := L1
  have K4 : Hid (∀ w', Calls Tryz.prog 85 #[.string a, .string b] w' fun e w'' => e = .returned (.bool (Op.bytesLess a.data.toList b.data.toList)) ∧ Below w'.heap.size w' w'') := L2
  have tX : SX.toList = X := by rw [ByteArray.toList_eq, dX]
  have tY : SY.toList = Y := by rw [ByteArray.toList_eq, dY]
  have TXY : Hid (SX.toList = X ∧ SY.toList = Y) := ⟨tX, tY⟩
  clear hX hY H1 H2 L1 L2 hSX hSY dX dY zX zY hla hlb tX tY
  by_cases hXY : X = Y
  · have c1 : (SX.toList == SY.toList) = true := by rw [TXY.out.1, TXY.out.2, hXY]; simp
    have HR := HR1.out hXY
    have HR' : Hid (rk X Y a.data.toList b.data.toList = Op.bytesLess a.data.toList b.data.toList) := HR
    clear HR HR1 HR2 hXY
    go_enter Tryz.func67, Tryz.ntmps67
    go_wp2_with fail
    refine (K1.out _).mono ?_
    rintro e w1 ⟨rfl, hb1⟩
    go_wp2_with fail
    refine (K2.out _).mono ?_
    rintro e w2 ⟨rfl, hb2⟩
    go_wp2_with fail
    refine (K4.out _).mono ?_
    rintro e w3 ⟨rfl, hb3⟩
    go_wp2
    go_ret
    exact ⟨by rw [HR'.out]; rfl, (hb1.trans (hb2.mono hb1.size)).trans (hb3.mono (Nat.le_trans hb1.size hb2.size))⟩
  · have c1 : (SX.toList == SY.toList) = false := by rw [TXY.out.1, TXY.out.2]; exact beq_eq_false_iff_ne.2 hXY
    have HR' : Hid (rk X Y a.data.toList b.data.toList = Op.bytesLess Y X) := HR2.out hXY
    clear HR1 HR2 hXY
    go_enter Tryz.func67, Tryz.ntmps67
    go_wp2_with fail
    refine (K1.out _).mono ?_
    rintro e w1 ⟨rfl, hb1⟩
    go_wp2_with fail
    refine (K2.out _).mono ?_
    rintro e w2 ⟨rfl, hb2⟩
    go_wp2_with fail
    refine (K3.out _).mono ?_
    rintro e w3 ⟨rfl, hb3⟩
    go_wp2
    go_ret
    exact ⟨by rw [HR'.out]; rfl, (hb1.trans (hb2.mono hb1.size)).trans (hb3.mono (Nat.le_trans hb1.size hb2.size))⟩

end Go.Proofs.YtibjhkpgaaapaaaGreatDoor
