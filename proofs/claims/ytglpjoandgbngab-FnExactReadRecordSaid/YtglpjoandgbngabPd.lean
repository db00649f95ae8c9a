import Derived.Test.YtglpjoandgbngabPc
namespace Go.Proofs.Ytglpjoandgbngab
open Go.RowKit Go.Proofs.Sha

theorem wpadS (z : Nat) (low : Bool) (b : Nat) (s : ByteArray) (l : List UInt8) (w : World) (hz : 0 < z) (hz4 : z ≤ 7) (h : Bld b l w) (hl : l.length + s.size ≤ 70000) :
    Calls Try.prog 61 #[.pointer (some ⟨b, 0, none⟩), .iface 113 (.agg #[.iface 95 (.agg #[.int .i64 (z : Int), .bool low])]), .string s] w fun e w' => e = .returned (.tuple #[]) ∧ Put b (pad63 (l ++ numTo z low s.size z ++ s.data.toList)) w w' := by
  have hmt : ∀ w : World, (method 269 113 (.agg #[.iface 95 (.agg #[.int .i64 (z : Int), .bool low])]) "loop.example/s03048/impl.put").run Try.prog w = .ok (96, .agg #[.iface 95 (.agg #[.int .i64 (z : Int), .bool low])]) w := fun _ => by kernel_rfl
  have HC : Hid (Calls Try.prog 96 #[.agg #[.iface 95 (.agg #[.int .i64 (z : Int), .bool low])], .pointer (some ⟨b, 0, none⟩), .string s] w fun e w' => e = .returned (.tuple #[]) ∧ Put b (pad63 (l ++ numTo z low s.size z ++ s.data.toList)) w w') := padS_put z low b s l w hz hz4 h hl
  obtain ⟨m, hm⟩ : ∃ m, pad63 (l ++ numTo z low s.size z ++ s.data.toList) = m := ⟨_, rfl⟩
  rw [hm] at HC ⊢
  clear hm
  go_enter Try.func61, Try.ntmps61
  go_wp2_with (first | (go_at_call 96; refine HC.out.mono ?_; rintro e w2 ⟨rfl, hp2⟩))
  go_end0
  exact ⟨rfl, hp2⟩

theorem fresh_bld (w : World) : Bld w.heap.size [] (w.alloc (.cells #[.pointer none, .slice none 0 0] 60)) := Lib.IsBuilderF.of (Lib.fresh_isBuilder 60 5 w)

theorem bstring (b : Nat) (l : List UInt8) (w : World) (h : Bld b l w) :
    Calls Try.prog 35 #[.pointer (some ⟨b, 0, none⟩)] w fun e w' => e = .returned (.string ⟨l.toArray⟩) ∧ Below b w w' := by
  refine (Try.Builder_String_any_k b b l w h (Nat.le_of_lt h.lt)).mono ?_
  rintro e w' ⟨rfl, _, hb, _⟩
  exact ⟨rfl, hb⟩

theorem recNum_any (w : World) : Calls Try.prog 71 #[] w fun e w' => e = .returned (.agg #[.int .i64 4, .bool true]) ∧ Below w.heap.size w w' := by
  go_enter Try.func71, Try.ntmps71
  go_wp2
  have c0 := Lib.cell_of_heap (heap_alloc_new w (.cells #[.int .i64 4, .bool true] 93)) 0
  have c1 := Lib.cell_of_heap (heap_alloc_new w (.cells #[.int .i64 4, .bool true] 93)) 1
  refine bodyPost_ret (v := .agg #[.int .i64 4, .bool true]) ?_ rfl ⟨rfl, (Below.refl _ _).alloc (Nat.le_refl _) _⟩
  simp [results, Try.results71, go_sem, asAddr, c0, c1]

theorem nodeBody_any (w : World) : Calls Try.prog 70 #[] w fun e w' => e = .returned (.agg #[.iface 95 (.agg #[.int .i64 4, .bool true])]) ∧ Below w.heap.size w w' := by
  go_enter Try.func70, Try.ntmps70
  go_wp2_with (first | (go_at_call 71; refine (recNum_any _).mono ?_; rintro e w2 ⟨rfl, hb2⟩; have hn := below_cells hb2 (heap_alloc_new w (.cells #[.nilIface] 113)); have c0 := Lib.cell_of_heap hn 0; have f0 : w2.frozen? ⟨w.heap.size, 0, none⟩ = false := (by rw [World.frozen?, hn]; rfl)))
  have c1 : (w2.setCell ⟨w.heap.size, 0, none⟩ (.iface 95 (.agg #[.int .i64 4, .bool true]))).cell? ⟨w.heap.size, 0, none⟩ = some (.iface 95 (.agg #[.int .i64 4, .bool true])) := World.cell?_setCell_same _ _ _ c0
  refine bodyPost_ret (v := .agg #[.iface 95 (.agg #[.int .i64 4, .bool true])]) ?_ rfl ⟨rfl, ?_⟩
  · simp [results, Try.results70, go_sem, asAddr, c1]
  · exact (((Below.refl _ w).alloc (Nat.le_refl _) _).trans (hb2.mono (by simp))).setCell (Nat.le_refl _) _

theorem commitBody_any (w : World) : Calls Try.prog 81 #[] w fun e w' => e = .returned (.agg #[.iface 134 (.agg #[])]) ∧ Below w.heap.size w w' := by
  go_enter Try.func81, Try.ntmps81
  go_wp2
  have c0 := Lib.cell_of_heap (heap_alloc_new w (.cells #[.iface 134 (.agg #[])] 129)) 0
  refine bodyPost_ret (v := .agg #[.iface 134 (.agg #[])]) ?_ rfl ⟨rfl, (Below.refl _ _).alloc (Nat.le_refl _) _⟩
  simp [results, Try.results81, go_sem, asAddr, c0]

set_option maxRecDepth 100000 in
theorem written_S (I : Value) (s : ByteArray) (m : List UInt8) (w : World)
    (HC : Hid (∀ w', Bld w.heap.size [] w' → Calls Try.prog 61 #[.pointer (some ⟨w.heap.size, 0, none⟩), I, .string s] w' fun e w'' => e = .returned (.tuple #[]) ∧ Put w.heap.size m w' w'')) :
    Calls Try.prog 69 #[I, .string s] w fun e w' => ∃ t : ByteArray, e = .returned (.string t) ∧ Hid (t.data.toList = m) ∧ Below w.heap.size w w' := by
  go_enter Try.func69, Try.ntmps69
  go_wp2_with (first | (go_at_call 61; refine (HC.out _ (fresh_bld w)).mono ?_; rintro e w2 ⟨rfl, hp2⟩) | (go_at_call 35; refine (bstring _ _ _ hp2.1).mono ?_; rintro e w3 ⟨rfl, hb3⟩))
  go_ret
  exact ⟨_, rfl, rfl, (((Below.refl _ _).alloc (Nat.le_refl _) _).trans hp2.2.1).trans hb3⟩

theorem fresh_bld1 (w : World) (o : Obj) : Bld (w.heap.size + 1) [] ((w.alloc o).alloc (.cells #[.pointer none, .slice none 0 0] 60)) := by
  have := fresh_bld (w.alloc o)
  rwa [show (w.alloc o).heap.size = w.heap.size + 1 by simp] at this

set_option maxRecDepth 100000 in
theorem written_R (I : Value) (v0 v1 v2 v3 v4 : Value) (m : List UInt8) (w : World) 
    (HC : Hid (∀ b w', Bld b [] w' → Calls Try.prog 83 #[.pointer (some ⟨b, 0, none⟩), I, .agg #[v0, v1, v2, v3, v4]] w' fun e w'' => e = .returned (.tuple #[]) ∧ Put b m w' w'')) :
    Calls Try.prog 80 #[I, .agg #[v0, v1, v2, v3, v4]] w fun e w' => ∃ t : ByteArray, e = .returned (.string t) ∧ Hid (t.data.toList = m) ∧ Below w.heap.size w w' := by
  go_enter Try.func80, Try.ntmps80
  go_wp2_with (first | (go_at_call 83; refine (HC.out (w.heap.size + 1) _ (fresh_bld1 w _)).mono ?_; rintro e w2 ⟨rfl, hp2⟩) | (go_at_call 35; refine (bstring _ _ _ hp2.1).mono ?_; rintro e w3 ⟨rfl, hb3⟩))
  go_ret
  exact ⟨_, rfl, rfl, ((((Below.refl _ _).alloc (Nat.le_refl _) _).alloc (by simp) _).trans (hp2.2.1.mono (by omega))).trans (hb3.mono (by omega))⟩

end Go.Proofs.Ytglpjoandgbngab
