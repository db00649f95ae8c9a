import Derived.Test.YtfmpjlpakldheaaGreatDoorZcau
import Derived.Test.YtfmpjlpakldheaaGreatDoorZcao
import Derived.Deep.RegionHeld3
import Derived.Deep.Cut
import Derived.Lib.Builder
namespace Go.Proofs.YtfmpjlpakldheaaGreatDoor
open Go.RowKit Go.Proofs.Sha

/-- A pointer that may be compared: none, or the beginning of a block. -/
def PtrT (p : Option Addr) (w : World) : Prop := p = none ∨ ∃ (x : Nat) (cs : Array Value) (u : TypeId), p = some ⟨x, 0, none⟩ ∧ w.heap[x]? = some (.cells cs u (0, 0))
theorem size52 : (Tryz.prog.info? 131).map (·.size) = some 33 := by kernel_rfl
theorem size37 : (Tryz.prog.info? 34).map (·.size) = some 2 := by kernel_rfl
theorem size54 : (Tryz.prog.info? 133).map (·.size) = some 39 := by kernel_rfl
theorem info54 : ∃ j, Tryz.prog.info? 133 = some j ∧ j.size ≠ 0 := by
  obtain ⟨j, h1, h2⟩ := Option.map_eq_some_iff.1 size54
  exact ⟨j, h1, by rw [h2]; decide⟩
theorem yieldsIf_build {P : Program} {ops : Array Oper} {S : World → Prop} {o : Oper} {a : Act} (hw : Region.wanted o (yielded ops a.tmps) = true) (t : TypeId) (parts : Array (Nat × Operand)) (ho : o.op = .build t parts) (cells : Array Value)
    (hb : P.built t (parts.toList.map fun (i, x) => (i, a.eval x)) = some cells) : YieldsIf P ops S o (.agg cells) a := by
  refine .inl ⟨hw, fun w _ => ?_⟩
  rw [← Array.toList_map] at hb
  unfold execOp
  simp only [ho, Sem.run_bind, run_build w t _ cells hb, Result.andThen_ok, Sem.run_pure]
theorem wp_box_row {P : Program} {o : Oper} {a : Act} {w : World} {K : Act → World → Prop} {Q : Exit → Act → World → Prop} (ty : TypeId) (x : Operand) (ho : o.op = .box ty x) (cs : Array Value) (hx : a.eval x = .agg cs)
    (h : K (a.put o.dst (.pointer (some ⟨w.heap.size, 0, none⟩))) (w.alloc (.cells cs ty))) : o.wp P a w K Q := by
  unfold Oper.wp execOp
  simp only [ho, hx]
  exact h
theorem rank_size (X : List UInt8) (h : X.length = 32) (k : ByteArray) : (Tryz.prog.info? 131).map (·.size) = some (rankL X k).length := by
  have e : (rankL X k).length = 33 := by unfold rankL; rw [List.length_append, List.length_map, h]; rfl
  rw [e]; exact size52
theorem ptr_eql (a b : Option Addr) (w : World) (ha : PtrT a w) (hb : PtrT b w) : (binOp .eql 79 (.pointer a) (.pointer b)).run Tryz.prog w = .ok (.bool (decide (a = b))) w := by
  obtain ⟨j, h1, h2⟩ := info54
  exact run_eql_ptr 79 133 j Tryz.underlying79 h1 h2 a b w ha hb
theorem tree_get (X : List UInt8) (hX : X.length = 32) (k v : ByteArray) (pl pr : Option Addr) (enc h : ByteArray) :
    (treeL X k v pl pr enc h)[35]? = some (.pointer pl) ∧ (treeL X k v pl pr enc h)[36]? = some (.pointer pr) ∧ (treeL X k v pl pr enc h)[37]? = some (.string enc) ∧ (treeL X k v pl pr enc h)[38]? = some (.string h) ∧ (treeL X k v pl pr enc h)[0]? = some (.string k) ∧ (treeL X k v pl pr enc h)[1]? = some (.string v) := by
  have hl : (X.map B).length = 32 := by rw [List.length_map, hX]
  have e : treeL X k v pl pr enc h = ([.string k, .string v] ++ (X.map B ++ [Value.string k])) ++ [.pointer pl, .pointer pr, .string enc, .string h] := by unfold treeL rankL; simp
  have hl2 : ([Value.string k, .string v] ++ (X.map B ++ [Value.string k])).length = 35 := by simp [hX]
  refine ⟨?_, ?_, ?_, ?_, rfl, rfl⟩ <;> (rw [e, List.getElem?_append_right (by omega), hl2]; rfl)
theorem tree_rank (X : List UInt8) (_hX : X.length = 32) (k v : ByteArray) (pl pr : Option Addr) (enc h : ByteArray) (j : Nat) (u : Value) (hj : (rankL X k)[j]? = some u) : (treeL X k v pl pr enc h)[2 + j]? = some u := by
  have hlt : j < (rankL X k).length := (List.getElem?_eq_some_iff.1 hj).1
  have e : treeL X k v pl pr enc h = [.string k, .string v] ++ (rankL X k ++ [.pointer pl, .pointer pr, .string enc, .string h]) := by unfold treeL; simp
  rw [e, List.getElem?_append_right (by simp), List.getElem?_append_left (by simpa using hlt)]
  simpa using hj

set_option maxRecDepth 100000 in
set_option maxHeartbeats 1000000 in
theorem withT_any (b : Nat) (X : List UInt8) (hX : X.length = 32) (k v : ByteArray) (pl pr l r : Option Addr) (enc h : ByteArray) (w : World) (hb : w.heap[b]? = some (.cells (treeL X k v pl pr enc h).toArray 133))
    (p1 : PtrT pl w) (p2 : PtrT pr w) (p3 : PtrT l w) (p4 : PtrT r w) (hne : ¬ (l = pl ∧ r = pr)) :
    Calls Tryz.prog 143 #[.pointer (some ⟨b, 0, none⟩), .pointer l, .pointer r] w fun e w' => ∃ g, e = .returned (.pointer (some ⟨g, 0, none⟩)) ∧ w.heap.size ≤ g ∧ w'.heap[g]? = some (.cells (treeL X k v l r ⟨#[]⟩ ⟨#[]⟩).toArray 133) ∧ Below w.heap.size w w' := by
  have q1 := ptr_eql l pl w p3 p1
  have q2 := ptr_eql r pr w p4 p2
  have hlen : (X.map B).length = 32 := by rw [List.length_map, hX]
  obtain ⟨g35, g36, g37, g38, g0, g1⟩ := tree_get X hX k v pl pr enc h
  have c35 : w.cell? ⟨b, 35, none⟩ = some (.pointer pl) := (Lib.cell_of_heap hb 35).trans (by simpa using g35)
  have c36 : w.cell? ⟨b, 36, none⟩ = some (.pointer pr) := (Lib.cell_of_heap hb 36).trans (by simpa using g36)
  have hr2 : w.rangeAt b 2 (rankL X k) := fun j u hj => (Lib.cell_of_heap hb (2 + j)).trans (by simpa using tree_rank X hX k v pl pr enc h j u hj)
  have hr0 : w.rangeAt b 0 [.string k, .string v] := fun j u hj => (Lib.cell_of_heap hb (0 + j)).trans (by
    match j, hj with
    | 0, hj => simpa using g0.trans hj
    | 1, hj => simpa using g1.trans hj)
  clear g35 g36 g37 g38 g0 g1 hlen
  clear p1 p2 p3 p4
  have hd : decide (l = pl) = false ∨ (decide (l = pl) = true ∧ decide (r = pr) = false) := by
    by_cases e1 : l = pl
    · exact .inr ⟨decide_eq_true e1, decide_eq_false fun e2 => hne ⟨e1, e2⟩⟩
    · exact .inl (decide_eq_false e1)
  have nT := heap_alloc_new w.drew (.cells (treeL X k v l r ⟨#[]⟩ ⟨#[]⟩).toArray 133)
  have hT : Below w.heap.size w (w.drew.alloc (.cells (treeL X k v l r ⟨#[]⟩ ⟨#[]⟩).toArray 133)) := ((Below.refl _ _).drew).alloc (Nat.le_refl _) _
  clear hne
  rcases hd with d1 | ⟨d1, d2⟩
  · rw [d1] at q1
    clear d1 q2
    go_enter Tryz.func143, Tryz.ntmps143
    go_upto_region 3 with fail
    refine wp_region_held_drew (S := fun W => W.rangeAt b 0 [.string k, .string v] ∧ W.rangeAt b 2 (rankL X k)) (by kernel_rfl) ⟨hr0, hr2⟩ (fun hHeld => ?_)
    refine wpAnyH_take (i := 0) (v := ?_) rfl (by kernel_rfl) (by kernel_rfl) (by kernel_rfl) (fun _ _ _ h => h) (Or.inl ⟨by rfl, ?_⟩) (by assumption) ?_
    rotate_left
    · intro w hSw; go_simp; rfl
    simp only [Act.put, List.setIfInBounds_toArray, List.set_cons_zero, List.set_cons_succ, List.getElem_toArray, List.getElem_cons_zero]
    refine wpAnyH_take (i := 1) (v := ?_) rfl (by kernel_rfl) (by kernel_rfl) (by kernel_rfl) (fun _ _ _ h => h) (Or.inl ⟨by rfl, ?_⟩) (by assumption) ?_
    rotate_left
    · intro w hSw; go_simp; rfl
    simp only [Act.put, List.setIfInBounds_toArray, List.set_cons_zero, List.set_cons_succ, List.getElem_toArray, List.getElem_cons_zero, List.getElem_cons_succ]
    refine wpAnyH_take (i := 2) (v := ?_) rfl (by kernel_rfl) (by kernel_rfl) (by kernel_rfl) (fun _ _ _ h => h) (Or.inl ⟨by rfl, ?_⟩) (by assumption) ?_
    rotate_left
    · intro w hSw; go_simp; rfl
    simp only [Act.put, List.setIfInBounds_toArray, List.set_cons_zero, List.set_cons_succ, List.getElem_toArray, List.getElem_cons_zero, List.getElem_cons_succ]
    refine wpAnyH_take (i := 3) (v := _) rfl (by kernel_rfl) (by kernel_rfl) (by kernel_rfl) (fun _ _ _ h => h) (yieldsIf_load_mid (by rfl) _ _ rfl _ _ rfl _ _ (fun w h => h.1) Tryz.underlying34 rfl size37) (by assumption) ?_
    simp only [Act.put, List.setIfInBounds_toArray, List.set_cons_zero, List.set_cons_succ, List.getElem_toArray, List.getElem_cons_zero, List.getElem_cons_succ]
    refine wpAnyH_take (i := 4) (v := ?_) rfl (by kernel_rfl) (by kernel_rfl) (by kernel_rfl) (fun _ _ _ h => h) (Or.inl ⟨by rfl, ?_⟩) (by assumption) ?_
    rotate_left
    · intro w hSw; go_simp; rfl
    simp only [Act.put, List.setIfInBounds_toArray, List.set_cons_zero, List.set_cons_succ, List.getElem_toArray, List.getElem_cons_zero, List.getElem_cons_succ]
    refine wpAnyH_take (i := 5) (v := ?_) rfl (by kernel_rfl) (by kernel_rfl) (by kernel_rfl) (fun _ _ _ h => h) (Or.inl ⟨by rfl, ?_⟩) (by assumption) ?_
    rotate_left
    · intro w hSw; go_simp; rfl
    simp only [Act.put, List.setIfInBounds_toArray, List.set_cons_zero, List.set_cons_succ, List.getElem_toArray, List.getElem_cons_zero, List.getElem_cons_succ]
    refine wpAnyH_take (i := 6) (v := ?_) rfl (by kernel_rfl) (by kernel_rfl) (by kernel_rfl) (fun _ _ _ h => h) (Or.inl ⟨by rfl, ?_⟩) (by assumption) ?_
    rotate_left
    · intro w hSw; go_simp; rfl
    simp only [Act.put, List.setIfInBounds_toArray, List.set_cons_zero, List.set_cons_succ, List.getElem_toArray, List.getElem_cons_zero, List.getElem_cons_succ]
    refine wpAnyH_take (i := 7) (v := _) rfl (by kernel_rfl) (by kernel_rfl) (by kernel_rfl) (fun _ _ _ h => h) (yieldsIf_load_mid (by rfl) _ _ rfl _ _ rfl _ _ (fun w h => h.2) Tryz.underlying131 rfl (rank_size X hX k)) (by assumption) ?_
    simp only [Act.put, List.setIfInBounds_toArray, List.set_cons_zero, List.set_cons_succ, List.getElem_toArray, List.getElem_cons_zero, List.getElem_cons_succ]
    refine wpAnyH_take (i := 8) (v := ?_) rfl (by kernel_rfl) (by kernel_rfl) (by kernel_rfl) (fun _ _ _ h => h) (Or.inl ⟨by rfl, ?_⟩) (by assumption) ?_
    rotate_left
    · intro w hSw; go_simp; rfl
    simp only [Act.put, List.setIfInBounds_toArray, List.set_cons_zero, List.set_cons_succ, List.getElem_toArray, List.getElem_cons_zero, List.getElem_cons_succ]
    refine wpAnyH_take (i := 9) (v := ?_) rfl (by kernel_rfl) (by kernel_rfl) (by kernel_rfl) (fun _ _ _ h => h) (Or.inl ⟨by rfl, ?_⟩) (by assumption) ?_
    rotate_left
    · intro w hSw; go_simp; rfl
    simp only [Act.put, List.setIfInBounds_toArray, List.set_cons_zero, List.set_cons_succ, List.getElem_toArray, List.getElem_cons_zero, List.getElem_cons_succ]
    refine wpAnyH_take (i := 10) (v := _) rfl (by kernel_rfl) (by kernel_rfl) (by kernel_rfl) (fun _ _ _ h => h) (yieldsIf_build (by rfl) 133 #[(0, .tmp 25), (1, .tmp 29), (2, .tmp 30), (3, .tmp 31)] rfl (treeL X k v l r ⟨#[]⟩ ⟨#[]⟩).toArray (by exact built4 X hX k v l r)) (by assumption) ?_
    simp only [Act.put, List.setIfInBounds_toArray, List.set_cons_zero, List.set_cons_succ, List.getElem_toArray, List.getElem_cons_zero, List.getElem_cons_succ]
    refine wpAnyH_ready (rs := [11]) (by kernel_rfl) (by simp) ?_
    refine AllReadyH.cons rfl (fun K hK => ?_) AllReadyH.nil
    rw [if_pos (by rfl)]
    refine wp_box_row 133 _ rfl _ rfl ?_
    refine hK.out _ _ ⟨(World.rangeAt_alloc hHeld.1 _), (World.rangeAt_alloc hHeld.2 _)⟩ (fun hHeld => ?_)
    clear hK K
    simp only [Act.put, List.setIfInBounds_toArray, List.set_cons_zero, List.set_cons_succ, List.getElem_toArray, List.getElem_cons_zero, List.getElem_cons_succ]
    refine wpAnyH_take (i := 12) (v := ?_) rfl (by kernel_rfl) (by kernel_rfl) (by kernel_rfl) (fun _ _ _ h => h) (Or.inl ⟨by rfl, ?_⟩) (by assumption) ?_
    rotate_left
    · intro w hSw; go_simp; rfl
    simp only [Act.put, List.setIfInBounds_toArray, List.set_cons_zero, List.set_cons_succ, List.getElem_toArray, List.getElem_cons_zero, List.getElem_cons_succ]
    refine wpAnyH_done (by kernel_rfl) ?_ _
    go_wp2_with fail
    go_ret
    exact ⟨w.heap.size, rfl, Nat.le_refl _, nT, hT⟩
  · rw [d1] at q1
    rw [d2] at q2
    clear d1 d2
    go_enter Tryz.func143, Tryz.ntmps143
    go_upto_region 3 with fail
    refine wp_region_held_drew (S := fun W => W.rangeAt b 0 [.string k, .string v] ∧ W.rangeAt b 2 (rankL X k)) (by kernel_rfl) ⟨hr0, hr2⟩ (fun hHeld => ?_)
    refine wpAnyH_take (i := 0) (v := ?_) rfl (by kernel_rfl) (by kernel_rfl) (by kernel_rfl) (fun _ _ _ h => h) (Or.inl ⟨by rfl, ?_⟩) (by assumption) ?_
    rotate_left
    · intro w hSw; go_simp; rfl
    simp only [Act.put, List.setIfInBounds_toArray, List.set_cons_zero, List.set_cons_succ, List.getElem_toArray, List.getElem_cons_zero]
    refine wpAnyH_take (i := 1) (v := ?_) rfl (by kernel_rfl) (by kernel_rfl) (by kernel_rfl) (fun _ _ _ h => h) (Or.inl ⟨by rfl, ?_⟩) (by assumption) ?_
    rotate_left
    · intro w hSw; go_simp; rfl
    simp only [Act.put, List.setIfInBounds_toArray, List.set_cons_zero, List.set_cons_succ, List.getElem_toArray, List.getElem_cons_zero, List.getElem_cons_succ]
    refine wpAnyH_take (i := 2) (v := ?_) rfl (by kernel_rfl) (by kernel_rfl) (by kernel_rfl) (fun _ _ _ h => h) (Or.inl ⟨by rfl, ?_⟩) (by assumption) ?_
    rotate_left
    · intro w hSw; go_simp; rfl
    simp only [Act.put, List.setIfInBounds_toArray, List.set_cons_zero, List.set_cons_succ, List.getElem_toArray, List.getElem_cons_zero, List.getElem_cons_succ]
    refine wpAnyH_take (i := 3) (v := _) rfl (by kernel_rfl) (by kernel_rfl) (by kernel_rfl) (fun _ _ _ h => h) (yieldsIf_load_mid (by rfl) _ _ rfl _ _ rfl _ _ (fun w h => h.1) Tryz.underlying34 rfl size37) (by assumption) ?_
    simp only [Act.put, List.setIfInBounds_toArray, List.set_cons_zero, List.set_cons_succ, List.getElem_toArray, List.getElem_cons_zero, List.getElem_cons_succ]
    refine wpAnyH_take (i := 4) (v := ?_) rfl (by kernel_rfl) (by kernel_rfl) (by kernel_rfl) (fun _ _ _ h => h) (Or.inl ⟨by rfl, ?_⟩) (by assumption) ?_
    rotate_left
    · intro w hSw; go_simp; rfl
    simp only [Act.put, List.setIfInBounds_toArray, List.set_cons_zero, List.set_cons_succ, List.getElem_toArray, List.getElem_cons_zero, List.getElem_cons_succ]
    refine wpAnyH_take (i := 5) (v := ?_) rfl (by kernel_rfl) (by kernel_rfl) (by kernel_rfl) (fun _ _ _ h => h) (Or.inl ⟨by rfl, ?_⟩) (by assumption) ?_
    rotate_left
    · intro w hSw; go_simp; rfl
    simp only [Act.put, List.setIfInBounds_toArray, List.set_cons_zero, List.set_cons_succ, List.getElem_toArray, List.getElem_cons_zero, List.getElem_cons_succ]
    refine wpAnyH_take (i := 6) (v := ?_) rfl (by kernel_rfl) (by kernel_rfl) (by kernel_rfl) (fun _ _ _ h => h) (Or.inl ⟨by rfl, ?_⟩) (by assumption) ?_
    rotate_left
    · intro w hSw; go_simp; rfl
    simp only [Act.put, List.setIfInBounds_toArray, List.set_cons_zero, List.set_cons_succ, List.getElem_toArray, List.getElem_cons_zero, List.getElem_cons_succ]
    refine wpAnyH_take (i := 7) (v := _) rfl (by kernel_rfl) (by kernel_rfl) (by kernel_rfl) (fun _ _ _ h => h) (yieldsIf_load_mid (by rfl) _ _ rfl _ _ rfl _ _ (fun w h => h.2) Tryz.underlying131 rfl (rank_size X hX k)) (by assumption) ?_
    simp only [Act.put, List.setIfInBounds_toArray, List.set_cons_zero, List.set_cons_succ, List.getElem_toArray, List.getElem_cons_zero, List.getElem_cons_succ]
    refine wpAnyH_take (i := 8) (v := ?_) rfl (by kernel_rfl) (by kernel_rfl) (by kernel_rfl) (fun _ _ _ h => h) (Or.inl ⟨by rfl, ?_⟩) (by assumption) ?_
    rotate_left
    · intro w hSw; go_simp; rfl
    simp only [Act.put, List.setIfInBounds_toArray, List.set_cons_zero, List.set_cons_succ, List.getElem_toArray, List.getElem_cons_zero, List.getElem_cons_succ]
    refine wpAnyH_take (i := 9) (v := ?_) rfl (by kernel_rfl) (by kernel_rfl) (by kernel_rfl) (fun _ _ _ h => h) (Or.inl ⟨by rfl, ?_⟩) (by assumption) ?_
    rotate_left
    · intro w hSw; go_simp; rfl
    simp only [Act.put, List.setIfInBounds_toArray, List.set_cons_zero, List.set_cons_succ, List.getElem_toArray, List.getElem_cons_zero, List.getElem_cons_succ]
    refine wpAnyH_take (i := 10) (v := _) rfl (by kernel_rfl) (by kernel_rfl) (by kernel_rfl) (fun _ _ _ h => h) (yieldsIf_build (by rfl) 133 #[(0, .tmp 25), (1, .tmp 29), (2, .tmp 30), (3, .tmp 31)] rfl (treeL X k v l r ⟨#[]⟩ ⟨#[]⟩).toArray (by exact built4 X hX k v l r)) (by assumption) ?_
    simp only [Act.put, List.setIfInBounds_toArray, List.set_cons_zero, List.set_cons_succ, List.getElem_toArray, List.getElem_cons_zero, List.getElem_cons_succ]
    refine wpAnyH_ready (rs := [11]) (by kernel_rfl) (by simp) ?_
    refine AllReadyH.cons rfl (fun K hK => ?_) AllReadyH.nil
    rw [if_pos (by rfl)]
    refine wp_box_row 133 _ rfl _ rfl ?_
    refine hK.out _ _ ⟨(World.rangeAt_alloc hHeld.1 _), (World.rangeAt_alloc hHeld.2 _)⟩ (fun hHeld => ?_)
    clear hK K
    simp only [Act.put, List.setIfInBounds_toArray, List.set_cons_zero, List.set_cons_succ, List.getElem_toArray, List.getElem_cons_zero, List.getElem_cons_succ]
    refine wpAnyH_take (i := 12) (v := ?_) rfl (by kernel_rfl) (by kernel_rfl) (by kernel_rfl) (fun _ _ _ h => h) (Or.inl ⟨by rfl, ?_⟩) (by assumption) ?_
    rotate_left
    · intro w hSw; go_simp; rfl
    simp only [Act.put, List.setIfInBounds_toArray, List.set_cons_zero, List.set_cons_succ, List.getElem_toArray, List.getElem_cons_zero, List.getElem_cons_succ]
    refine wpAnyH_done (by kernel_rfl) ?_ _
    go_wp2_with fail
    go_ret
    exact ⟨w.heap.size, rfl, Nat.le_refl _, nT, hT⟩
theorem with_same (b : Nat) (X : List UInt8) (hX : X.length = 32) (k v : ByteArray) (pl pr : Option Addr) (enc h : ByteArray) (w : World) (hb : w.heap[b]? = some (.cells (treeL X k v pl pr enc h).toArray 133))
    (p1 : PtrT pl w) (p2 : PtrT pr w) :
    Calls Tryz.prog 143 #[.pointer (some ⟨b, 0, none⟩), .pointer pl, .pointer pr] w fun e w' => e = .returned (.pointer (some ⟨b, 0, none⟩)) ∧ w' = w := by
  have q1 := ptr_eql pl pl w p1 p1
  have q2 := ptr_eql pr pr w p2 p2
  rw [decide_eq_true rfl] at q1 q2
  obtain ⟨g35, g36, g37, g38, g0, g1⟩ := tree_get X hX k v pl pr enc h
  have c35 : w.cell? ⟨b, 35, none⟩ = some (.pointer pl) := (Lib.cell_of_heap hb 35).trans (by simpa using g35)
  have c36 : w.cell? ⟨b, 36, none⟩ = some (.pointer pr) := (Lib.cell_of_heap hb 36).trans (by simpa using g36)
  clear g35 g36 g37 g38 g0 g1 hb p1 p2
  go_enter Tryz.func143, Tryz.ntmps143
  go_wp2_with fail
  go_ret
  exact ⟨rfl, rfl⟩
end Go.Proofs.YtfmpjlpakldheaaGreatDoor
