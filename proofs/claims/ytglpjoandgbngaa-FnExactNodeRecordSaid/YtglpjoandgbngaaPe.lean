import Derived.Test.YtglpjoandgbngaaPd
import Derived.Test.YtglpjoandgbngaaEi
namespace Go.Proofs.Ytglpjoandgbngaa
open Go.RowKit Go.Proofs.Sha

theorem wint4 (b : Nat) (v : Nat) (l : List UInt8) (w : World) (h : Bld b l w) (hl : l.length ≤ 90000) (hv : v ≤ 9223372036854775807) :
    Calls Try.prog 61 #[.pointer (some ⟨b, 0, none⟩), .iface 69 (.agg #[.int .i64 4, .bool true]), .int .i64 (v : Int)] w fun e w' => e = .returned (.tuple #[]) ∧ Put b (l ++ numTo 4 true v 4) w w' :=
  wint 4 true b v l w (by omega) (by omega) h hl hv
theorem wsized1 (b : Nat) (s : ByteArray) (l : List UInt8) (w : World) (h : Bld b l w) (hl : l.length + s.size ≤ 80000) :
    Calls Try.prog 36 #[.pointer (some ⟨b, 0, none⟩), .iface 72 (.agg #[.int .i64 1, .bool false]), .string s] w fun e w' => e = .returned (.tuple #[]) ∧ Put b (l ++ [UInt8.ofNat s.size] ++ s.data.toList) w w' := by
  have := wsized 1 false b s l w (by omega) (by omega) h hl
  have e : numTo 1 false s.size 1 = [UInt8.ofNat s.size] := by simp [numTo, numByte]
  rw [e] at this
  exact this

set_option maxRecDepth 100000 in
theorem commit_put (b : Nat) (v : Nat) (root : ByteArray) (x0 x1 x4 : Value) (l : List UInt8) (w : World) (h : Bld b l w) (hl : l.length ≤ 1000) (hv : v ≤ 1000000) (hr : root.size ≤ 32) :
    Calls Try.prog 69 #[.agg #[], .pointer (some ⟨b, 0, none⟩), .agg #[x0, x1, .int .i64 (v : Int), .string root, x4]] w fun e w' => e = .returned (.tuple #[]) ∧ Put b (l ++ numTo 4 true v 4 ++ [UInt8.ofNat root.size] ++ root.data.toList) w w' := by
  obtain ⟨m, hm⟩ : ∃ m, l ++ numTo 4 true v 4 = m := ⟨_, rfl⟩
  have hm2 : m.length ≤ 2000 := by rw [← hm, List.length_append, numTo_length]; omega
  have HI : Hid (∀ w', Bld b l w' → Calls Try.prog 61 #[.pointer (some ⟨b, 0, none⟩), .iface 69 (.agg #[.int .i64 4, .bool true]), .int .i64 (v : Int)] w' fun e w'' => e = .returned (.tuple #[]) ∧ Put b m w' w'') := fun w' h' => by rw [← hm]; exact wint4 b v l w' h' (by omega) (by omega)
  rw [hm]
  clear hm
  have hlt := h.lt
  go_enter Try.func69, Try.ntmps69
  go_wp2_with fail
  obtain ⟨w1, hw1⟩ : ∃ w1, w1 = (w.alloc (.cells #[] 77)).alloc (.cells #[x0, x1, .int .i64 (v : Int), .string root, x4] 31) := ⟨_, rfl⟩
  have hp1 : Put b l w w1 := by rw [hw1]; exact ((Put.refl h).alloc _).alloc _
  have hn : w1.heap[w.heap.size + 1]? = some (.cells #[x0, x1, .int .i64 (v : Int), .string root, x4] 31) := by
    rw [hw1, show w.heap.size + 1 = (w.alloc (.cells #[] 77)).heap.size by simp]; exact heap_alloc_new _ _
  rw [← hw1]
  clear hw1
  have c2 : w1.cell? ⟨w.heap.size + 1, 2, none⟩ = some (.int .i64 (v : Int)) := Lib.cell_of_heap hn 2
  go_region_held3 (fun W => W.cell? ⟨w.heap.size + 1, 2, none⟩ = some (.int .i64 (v : Int)))
    (first | exact c2 | exact Lib.cell_of_heap hnA 2 | exact Lib.cell_of_heap hnB 2)
    (first | (go_at_call 37; refine (recNum_any _).mono ?_; rintro e wA ⟨rfl, hbA'⟩; have hbA : Below w1.heap.size w1 wA := (Below.refl w1.heap.size w1).drew.trans hbA'; have hnA := below_cells hbA hn) | (go_at_call 61; refine (HI.out _ (hp1.1.below hbA)).mono ?_; rintro e wB ⟨rfl, hpB⟩; have hnB := hpB.cells hnA (by omega) (by decide); have c3 := Lib.cell_of_heap hnB 3))
  go_wp2_with (first | (go_at_call 36; refine (wsized1 b root m _ hpB.1 (by omega)).mono ?_; rintro e wC ⟨rfl, hpC⟩))
  go_end0
  exact ⟨rfl, ((hp1.below hbA).trans hpB).trans hpC⟩
end Go.Proofs.Ytglpjoandgbngaa
