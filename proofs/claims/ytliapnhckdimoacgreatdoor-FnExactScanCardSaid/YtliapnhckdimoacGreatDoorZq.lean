import Derived.Test.YtliapnhckdimoacGreatDoorZp
import Derived.Test.YtliapnhckdimoacGreatDoorZc
import Derived.Test.YtliapnhckdimoacGreatDoorZd
namespace Go.Proofs.YtliapnhckdimoacGreatDoor
open Go.RowKit Go.Proofs.Sha

end Go.Proofs.YtliapnhckdimoacGreatDoor
namespace Go.Proofs.YtliapnhckdimoacGreatDoor
open Go.RowKit Go.Proofs.Sha

def gap (n : Nat) : Nat := (n + 62) / 63 * 63 - n
def pad63 (l : List UInt8) : List UInt8 := l ++ List.replicate (gap l.length) 0
theorem gap_lt (n : Nat) : gap n < 63 := by unfold gap; omega
theorem pad63_length (l : List UInt8) : (pad63 l).length = l.length + gap l.length := by rw [pad63, List.length_append, List.length_replicate]

theorem missing_any (n : Nat) (w : World) (hn : n ≤ 100000) :
    Calls Tryz.prog 97 #[.int .i64 (n : Int)] w fun e w' => e = .returned (.int .i64 (gap n : Int)) ∧ w = w' := by
  go_enter Tryz.func97, Tryz.ntmps97
  go_wp2
  go_ret
  exact ⟨congrArg Ending.returned (congrArg (Value.int .i64) (by unfold gap; omega)), rfl⟩

end Go.Proofs.YtliapnhckdimoacGreatDoor
namespace Go.Proofs.YtliapnhckdimoacGreatDoor
open Go.RowKit Go.Proofs.Sha

theorem fresh_bld (w : World) : Bld w.heap.size [] (w.alloc (.cells #[.pointer none, .slice none 0 0] 119)) := Lib.IsBuilderF.of (Lib.fresh_isBuilder 119 5 w)

theorem bstring (b : Nat) (l : List UInt8) (w : World) (h : Bld b l w) :
    Calls Tryz.prog 79 #[.pointer (some ⟨b, 0, none⟩)] w fun e w' => e = .returned (.string ⟨l.toArray⟩) ∧ Below b w w' := by
  refine (Tryz.Builder_String_any_k b b l w h (Nat.le_of_lt h.lt)).mono ?_
  rintro e w' ⟨rfl, _, hb, _⟩
  exact ⟨rfl, hb⟩

theorem recNum_any (w : World) : Calls Tryz.prog 74 #[] w fun e w' => e = .returned (.agg #[.int .i64 4, .bool true]) ∧ Below w.heap.size w w' := by
  go_enter Tryz.func74, Tryz.ntmps74
  go_wp2
  have c0 := Lib.cell_of_heap (heap_alloc_new w (.cells #[.int .i64 4, .bool true] 115)) 0
  have c1 := Lib.cell_of_heap (heap_alloc_new w (.cells #[.int .i64 4, .bool true] 115)) 1
  refine bodyPost_ret (v := .agg #[.int .i64 4, .bool true]) ?_ rfl ⟨rfl, (Below.refl _ _).alloc (Nat.le_refl _) _⟩
  simp [results, Tryz.results74, go_sem, asAddr, c0, c1]

theorem nodeBody_any (w : World) : Calls Tryz.prog 80 #[] w fun e w' => e = .returned (.agg #[.iface 137 (.agg #[.int .i64 4, .bool true])]) ∧ Below w.heap.size w w' := by
  go_enter Tryz.func80, Tryz.ntmps80
  go_wp2_with (first | (go_at_call 74; refine (recNum_any _).mono ?_; rintro e w2 ⟨rfl, hb2⟩; have hn := below_cells hb2 (heap_alloc_new w (.cells #[.nilIface] 130)); have c0 := Lib.cell_of_heap hn 0; have f0 : w2.frozen? ⟨w.heap.size, 0, none⟩ = false := (by rw [World.frozen?, hn]; rfl)))
  have c1 : (w2.setCell ⟨w.heap.size, 0, none⟩ (.iface 137 (.agg #[.int .i64 4, .bool true]))).cell? ⟨w.heap.size, 0, none⟩ = some (.iface 137 (.agg #[.int .i64 4, .bool true])) := World.cell?_setCell_same _ _ _ c0
  refine bodyPost_ret (v := .agg #[.iface 137 (.agg #[.int .i64 4, .bool true])]) ?_ rfl ⟨rfl, ?_⟩
  · simp [results, Tryz.results80, go_sem, asAddr, c1]
  · exact (((Below.refl _ w).alloc (Nat.le_refl _) _).trans (hb2.mono (by simp))).setCell (Nat.le_refl _) _

theorem commitBody_any (w : World) : Calls Tryz.prog 86 #[] w fun e w' => e = .returned (.agg #[.iface 145 (.agg #[])]) ∧ Below w.heap.size w w' := by
  go_enter Tryz.func86, Tryz.ntmps86
  go_wp2
  have c0 := Lib.cell_of_heap (heap_alloc_new w (.cells #[.iface 145 (.agg #[])] 143)) 0
  refine bodyPost_ret (v := .agg #[.iface 145 (.agg #[])]) ?_ rfl ⟨rfl, (Below.refl _ _).alloc (Nat.le_refl _) _⟩
  simp [results, Tryz.results86, go_sem, asAddr, c0]

theorem fresh_bld1 (w : World) (o : Obj) : Bld (w.heap.size + 1) [] ((w.alloc o).alloc (.cells #[.pointer none, .slice none 0 0] 119)) := by
  have := fresh_bld (w.alloc o)
  rwa [show (w.alloc o).heap.size = w.heap.size + 1 by simp] at this

end Go.Proofs.YtliapnhckdimoacGreatDoor
namespace Go.Proofs.YtliapnhckdimoacGreatDoor
open Go.RowKit Go.Proofs.Sha

theorem empty_iff (l : ByteArray) : l.toList.isEmpty = decide (l.size = 0) := by
  rw [ByteArray.toList_eq]
  have : l.data.toList.length = l.size := rfl
  cases h : l.data.toList with
  | nil =>
    rw [h, List.length_nil] at this
    simp [← this]
  | cons a t =>
    rw [h, List.length_cons] at this
    have h0 : ¬ l.size = 0 := by omega
    simp [h0]
end Go.Proofs.YtliapnhckdimoacGreatDoor
namespace Go.Proofs.YtliapnhckdimoacGreatDoor
open Go.RowKit Go.Proofs.Sha

end Go.Proofs.YtliapnhckdimoacGreatDoor
namespace Go.Proofs.YtliapnhckdimoacGreatDoor
open Go.RowKit Go.Proofs.Sha

theorem of_list {t : ByteArray} {l : List UInt8} (h : t.data.toList = l) : t = T l := by rw [← h, T_of]

end Go.Proofs.YtliapnhckdimoacGreatDoor
