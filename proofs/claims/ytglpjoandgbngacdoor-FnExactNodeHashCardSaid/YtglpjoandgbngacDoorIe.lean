import Derived.Test.YtglpjoandgbngacDoorId
namespace Go.Proofs.YtglpjoandgbngacDoor
open Go.RowKit Go.Proofs.Sha

def newCells : List Value := hTab.map U ++ (List.replicate 64 (0 : UInt8)).map B ++ [.int .i64 0, .int .u64 0]
theorem hsh_new (w : World) : Hsh (w.alloc (.cells newCells.toArray 64)) w.heap.size hTab (List.replicate 64 0) 0 0 := by
  have hc : ∀ j, (w.alloc (.cells newCells.toArray 64)).cell? ⟨w.heap.size, j, none⟩ = newCells[j]? := fun j => by
    rw [cell_of_row _ _ _ _ _ _ (heap_alloc_new w (.cells newCells.toArray 64))]; simp
  refine ⟨rfl, rfl, fun j hj => ?_, fun j hj => ?_, ?_, ?_, fun j hj => ?_⟩
  · rw [hc]
    have : j = 0 ∨ j = 1 ∨ j = 2 ∨ j = 3 ∨ j = 4 ∨ j = 5 ∨ j = 6 ∨ j = 7 := by omega
    rcases this with h | h | h | h | h | h | h | h <;> subst h <;> rfl
  · rw [hc]
    have e : (List.replicate 64 (0 : UInt8)).getD j 0 = 0 := by
      rw [List.getD_eq_getElem?_getD, List.getElem?_replicate, if_pos hj]; rfl
    rw [e]
    unfold newCells
    rw [List.getElem?_append_left (by rw [List.length_append, List.length_map, List.length_map, List.length_replicate]; show 8 + j < 8 + 64; omega),
      List.getElem?_append_right (by rw [List.length_map]; show 8 ≤ 8 + j; omega), List.length_map]
    show (List.map B (List.replicate 64 0))[8 + j - 8]? = _
    rw [Nat.add_sub_cancel_left, List.getElem?_map, List.getElem?_replicate, if_pos hj]; rfl
  · rw [hc]; rfl
  · rw [hc]; rfl
  · have := heap_alloc_new w (.cells newCells.toArray 64)
    simp only [World.frozen?, this]; simp

set_option maxRecDepth 100000 in
set_option maxHeartbeats 800000 in
theorem new_any (w : World) :
    Calls Tryd.prog 20 #[] w fun e w' => e = .returned (.pointer (some ⟨w.heap.size, 0, none⟩)) ∧ w' = w.alloc (.cells newCells.toArray 64) := by
  go_enter Tryd.func20, Tryd.ntmps20
  go_wp2_with (first | (refine Go.Great.wpList_runTo rfl (some 1) rfl (.agg (hTab.map U).toArray) w (by kernel_rfl) ?_) | (refine Go.Great.wpList_runTo rfl (some 2) rfl (.agg newCells.toArray) w (by kernel_rfl) ?_) | (refine Go.Great.wpList_runTo rfl (some 3) rfl (.pointer (some ⟨w.heap.size, 0, none⟩)) (w.alloc (.cells newCells.toArray 64)) (by kernel_rfl) ?_))
  go_ret
  exact ⟨rfl, rfl⟩
end Go.Proofs.YtglpjoandgbngacDoor
