import Derived.Test.YtglpjoandgbngaaPe
namespace Go.Proofs.Ytglpjoandgbngaa
open Go.RowKit Go.Proofs.Sha

theorem wR77 (v0 v1 v2 v3 v4 : Value) (b : Nat) (l m : List UInt8) (w : World) (h : Bld b l w)
    (HC : Hid (∀ w', Bld b l w' → Calls Try.prog 69 #[.agg #[], .pointer (some ⟨b, 0, none⟩), .agg #[v0, v1, v2, v3, v4]] w' fun e w'' => e = .returned (.tuple #[]) ∧ Put b m w' w'')) :
    Calls Try.prog 16 #[.pointer (some ⟨b, 0, none⟩), .iface 77 (.agg #[]), .agg #[v0, v1, v2, v3, v4]] w fun e w' => e = .returned (.tuple #[]) ∧ Put b m w w' := by
  have hmt : ∀ w : World, (method 210 77 (.agg #[]) "loop.example/s03048/impl.put").run Try.prog w = .ok (69, .agg #[]) w := fun _ => by kernel_rfl
  go_enter Try.func16, Try.ntmps16
  go_wp2_with (first | (go_at_call 69; refine (HC.out _ (h.alloc _)).mono ?_; rintro e w2 ⟨rfl, hp2⟩))
  go_end0
  exact ⟨rfl, ((Put.refl h).alloc _).trans hp2⟩

theorem wR75 (v0 v1 v2 v3 v4 : Value) (b : Nat) (l m : List UInt8) (w : World) (h : Bld b l w)
    (HC : Hid (∀ w', Bld b l w' → Calls Try.prog 67 #[.agg #[.iface 77 (.agg #[])], .pointer (some ⟨b, 0, none⟩), .agg #[v0, v1, v2, v3, v4]] w' fun e w'' => e = .returned (.tuple #[]) ∧ Put b m w' w'')) :
    Calls Try.prog 16 #[.pointer (some ⟨b, 0, none⟩), .iface 75 (.agg #[.iface 77 (.agg #[])]), .agg #[v0, v1, v2, v3, v4]] w fun e w' => e = .returned (.tuple #[]) ∧ Put b m w w' := by
  have hmt : ∀ w : World, (method 210 75 (.agg #[.iface 77 (.agg #[])]) "loop.example/s03048/impl.put").run Try.prog w = .ok (67, .agg #[.iface 77 (.agg #[])]) w := fun _ => by kernel_rfl
  go_enter Try.func16, Try.ntmps16
  go_wp2_with (first | (go_at_call 67; refine (HC.out _ (h.alloc _)).mono ?_; rintro e w2 ⟨rfl, hp2⟩))
  go_end0
  exact ⟨rfl, ((Put.refl h).alloc _).trans hp2⟩

theorem wR34 (v0 v1 v2 v3 v4 : Value) (b : Nat) (l m : List UInt8) (w : World) (h : Bld b l w)
    (HC : Hid (∀ w', Bld b l w' → Calls Try.prog 38 #[.agg #[], .pointer (some ⟨b, 0, none⟩), .agg #[v0, v1, v2, v3, v4]] w' fun e w'' => e = .returned (.tuple #[]) ∧ Put b m w' w'')) :
    Calls Try.prog 16 #[.pointer (some ⟨b, 0, none⟩), .iface 34 (.agg #[]), .agg #[v0, v1, v2, v3, v4]] w fun e w' => e = .returned (.tuple #[]) ∧ Put b m w w' := by
  have hmt : ∀ w : World, (method 210 34 (.agg #[]) "loop.example/s03048/impl.put").run Try.prog w = .ok (38, .agg #[]) w := fun _ => by kernel_rfl
  go_enter Try.func16, Try.ntmps16
  go_wp2_with (first | (go_at_call 38; refine (HC.out _ (h.alloc _)).mono ?_; rintro e w2 ⟨rfl, hp2⟩))
  go_end0
  exact ⟨rfl, ((Put.refl h).alloc _).trans hp2⟩

theorem wR33 (v0 v1 v2 v3 v4 : Value) (b : Nat) (l m : List UInt8) (w : World) (h : Bld b l w)
    (HC : Hid (∀ w', Bld b l w' → Calls Try.prog 33 #[.agg #[], .pointer (some ⟨b, 0, none⟩), .agg #[v0, v1, v2, v3, v4]] w' fun e w'' => e = .returned (.tuple #[]) ∧ Put b m w' w'')) :
    Calls Try.prog 16 #[.pointer (some ⟨b, 0, none⟩), .iface 33 (.agg #[]), .agg #[v0, v1, v2, v3, v4]] w fun e w' => e = .returned (.tuple #[]) ∧ Put b m w w' := by
  have hmt : ∀ w : World, (method 210 33 (.agg #[]) "loop.example/s03048/impl.put").run Try.prog w = .ok (33, .agg #[]) w := fun _ => by kernel_rfl
  go_enter Try.func16, Try.ntmps16
  go_wp2_with (first | (go_at_call 33; refine (HC.out _ (h.alloc _)).mono ?_; rintro e w2 ⟨rfl, hp2⟩))
  go_end0
  exact ⟨rfl, ((Put.refl h).alloc _).trans hp2⟩

set_option maxRecDepth 100000 in
set_option maxHeartbeats 1000000 in
theorem padR_put (b : Nat) (v : Nat) (root : ByteArray) (x0 x1 x4 : Value) (l : List UInt8) (w : World) (h : Bld b l w) (hl : l.length ≤ 1000) (hv : v ≤ 1000000) (hr : root.size ≤ 32) :
    Calls Try.prog 67 #[.agg #[.iface 77 (.agg #[])], .pointer (some ⟨b, 0, none⟩), .agg #[x0, x1, .int .i64 (v : Int), .string root, x4]] w fun e w' => e = .returned (.tuple #[]) ∧ Put b (pad63 (l ++ numTo 4 true v 4 ++ [UInt8.ofNat root.size] ++ root.data.toList)) w w' := by
  obtain ⟨m, hm⟩ : ∃ m, l ++ numTo 4 true v 4 ++ [UInt8.ofNat root.size] ++ root.data.toList = m := ⟨_, rfl⟩
  have hm2 : m.length ≤ 71000 := by rw [← hm, List.length_append, List.length_append, List.length_append, numTo_length]; show l.length + 4 + 1 + root.size ≤ _; omega
  have HW : Hid (∀ w', Bld b l w' → Calls Try.prog 16 #[.pointer (some ⟨b, 0, none⟩), .iface 77 (.agg #[]), .agg #[x0, x1, .int .i64 (v : Int), .string root, x4]] w' fun e w'' => e = .returned (.tuple #[]) ∧ Put b m w' w'') := by
    intro w' h'
    refine wR77 _ _ _ _ _ b l m w' h' ?_
    intro w'' h''
    rw [← hm]
    exact commit_put b v root x0 x1 x4 l w'' h'' hl hv hr
  rw [hm]
  clear hm
  obtain ⟨g, hg⟩ : ∃ g, gap m.length = g := ⟨_, rfl⟩
  have g63 : g < 63 := by rw [← hg]; exact gap_lt _
  have HM : Hid (∀ w', Calls Try.prog 46 #[.int .i64 (m.length : Int)] w' fun e w'' => e = .returned (.int .i64 (g : Int)) ∧ w' = w'') := by
    intro w'
    rw [← hg]
    exact missing_any _ _ (by omega)
  have HP : Hid (pad63 m = m ++ List.replicate g 0) := by show _ = _; rw [← hg]; rfl
  obtain ⟨q, hq⟩ : ∃ q, pad63 m = q := ⟨_, rfl⟩
  rw [hq] at HP ⊢
  clear hg hq
  go_enter Try.func67, Try.ntmps67
  go_wp2_with (first | (go_at_call 16; refine (HW.out _ ((h.alloc _).alloc _)).mono ?_; rintro e w2 ⟨rfl, hp2⟩) | (go_at_call 47; refine (len_any b m _ hp2.1).mono ?_; rintro e w3 ⟨rfl, rfl⟩) | (go_at_call 46; refine (HM.out _).mono ?_; rintro e w4 ⟨rfl, rfl⟩) | (go_at_call 45; refine (repeat_any g _ (by omega)).mono ?_; rintro e w5 ⟨t, rfl, ht, HT, hb5⟩) | (go_at_call 44; refine (ws_any b m t _ (hp2.1.below hb5) (by omega)).mono ?_; rintro e w6 ⟨rfl, hp6⟩))
  go_end0
  refine ⟨rfl, ?_⟩
  rw [HT.out, ← HP.out] at hp6
  exact ((((Put.refl h).alloc _).alloc _).trans (hp2.below hb5)).trans hp6

set_option maxRecDepth 100000 in
set_option maxHeartbeats 1000000 in
theorem commitRec_put (b : Nat) (v : Nat) (root : ByteArray) (x0 x1 x4 : Value) (l : List UInt8) (w : World) (h : Bld b l w) (hl : l.length ≤ 1000) (hv : v ≤ 1000000) (hr : root.size ≤ 32) :
    Calls Try.prog 38 #[.agg #[], .pointer (some ⟨b, 0, none⟩), .agg #[x0, x1, .int .i64 (v : Int), .string root, x4]] w fun e w' => e = .returned (.tuple #[]) ∧ Put b (l ++ pad63 (numTo 4 true v 4 ++ [UInt8.ofNat root.size] ++ root.data.toList) ++ [67]) w w' := by
  obtain ⟨m, hm⟩ : ∃ m, pad63 (numTo 4 true v 4 ++ [UInt8.ofNat root.size] ++ root.data.toList) = m := ⟨_, rfl⟩
  have hm2 : m.length ≤ 1000 := by
    rw [← hm, pad63_length]
    have := gap_lt (numTo 4 true v 4 ++ [UInt8.ofNat root.size] ++ root.data.toList).length
    have e : (numTo 4 true v 4 ++ [UInt8.ofNat root.size] ++ root.data.toList).length = 4 + 1 + root.size := by rw [List.length_append, List.length_append, numTo_length]; rfl
    omega
  have HW : Hid (∀ w', Calls Try.prog 12 #[.iface 75 (.agg #[.iface 77 (.agg #[])]), .agg #[x0, x1, .int .i64 (v : Int), .string root, x4]] w' fun e w'' => ∃ t : ByteArray, e = .returned (.string t) ∧ Hid (t.data.toList = m) ∧ Below w'.heap.size w' w'') := by
    intro w'
    refine written_R _ _ _ _ _ _ m w' ?_
    intro b' w'' h''
    refine wR75 _ _ _ _ _ b' [] m w'' h'' ?_
    intro w3 h3
    rw [← hm]
    exact padR_put b' v root x0 x1 x4 [] w3 h3 (by simp) hv hr
  rw [hm]
  clear hm
  go_enter Try.func38, Try.ntmps38
  have hlt := h.lt
  go_wp2_with fail
  obtain ⟨w1, hw1⟩ : ∃ w1, w1 = (w.alloc (.cells #[] 34)).alloc (.cells #[x0, x1, .int .i64 (v : Int), .string root, x4] 31) := ⟨_, rfl⟩
  have hp1 : Put b l w w1 := by rw [hw1]; exact ((Put.refl h).alloc _).alloc _
  have hn : w1.heap[w.heap.size + 1]? = some (.cells #[x0, x1, .int .i64 (v : Int), .string root, x4] 31) := by
    rw [hw1, show w.heap.size + 1 = (w.alloc (.cells #[] 34)).heap.size by simp]; exact heap_alloc_new _ _
  rw [← hw1]
  clear hw1
  have HS : ∀ W : World, W.heap[w.heap.size + 1]? = some (.cells #[x0, x1, .int .i64 (v : Int), .string root, x4] 31) → W.cell? ⟨w.heap.size + 1, 0, none⟩ = some x0 ∧ W.cell? ⟨w.heap.size + 1, 1, none⟩ = some x1 ∧ W.cell? ⟨w.heap.size + 1, 2, none⟩ = some (.int .i64 (v : Int)) ∧ W.cell? ⟨w.heap.size + 1, 3, none⟩ = some (.string root) ∧ W.cell? ⟨w.heap.size + 1, 4, none⟩ = some x4 :=
    fun W hW => ⟨Lib.cell_of_heap hW 0, Lib.cell_of_heap hW 1, Lib.cell_of_heap hW 2, Lib.cell_of_heap hW 3, Lib.cell_of_heap hW 4⟩
  have HSh : Hid (∀ W : World, W.heap[w.heap.size + 1]? = some (.cells #[x0, x1, .int .i64 (v : Int), .string root, x4] 31) → W.cell? ⟨w.heap.size + 1, 0, none⟩ = some x0 ∧ W.cell? ⟨w.heap.size + 1, 1, none⟩ = some x1 ∧ W.cell? ⟨w.heap.size + 1, 2, none⟩ = some (.int .i64 (v : Int)) ∧ W.cell? ⟨w.heap.size + 1, 3, none⟩ = some (.string root) ∧ W.cell? ⟨w.heap.size + 1, 4, none⟩ = some x4) := HS
  clear HS
  go_region_held3 (fun W => W.cell? ⟨w.heap.size + 1, 0, none⟩ = some x0 ∧ W.cell? ⟨w.heap.size + 1, 1, none⟩ = some x1 ∧ W.cell? ⟨w.heap.size + 1, 2, none⟩ = some (.int .i64 (v : Int)) ∧ W.cell? ⟨w.heap.size + 1, 3, none⟩ = some (.string root) ∧ W.cell? ⟨w.heap.size + 1, 4, none⟩ = some x4)
    (first | exact HSh.out _ hnC | exact HSh.out _ hnB | exact HSh.out _ hnA | exact HSh.out _ hn)
    (first | (go_at_call 39; refine (commitBody_any _).mono ?_; rintro e wA ⟨rfl, hbA'⟩; have hbA : Below w1.heap.size w1 wA := (Below.refl w1.heap.size w1).drew.trans hbA'; have hnA := below_cells hbA hn) | (go_at_call 12; refine (HW.out _).mono ?_; rintro e wB ⟨t, rfl, HT, hbB⟩; have hnB := below_cells hbB hnA; have hts : t.size ≤ 1000 := (by have : t.data.toList.length ≤ 1000 := (by rw [HT.out]; exact hm2); exact this)) | (go_at_call 36; refine (wsector 67 b t l _ (by omega) ((hp1.1.below hbA).below hbB) (by omega)).mono ?_; rintro e wC ⟨rfl, hpC⟩; have hnC := hpC.cells hnB (by omega) (by decide)))
  go_wp2
  go_end0
  rw [HT.out] at hpC
  exact ⟨rfl, ((hp1.below hbA).below hbB).trans hpC⟩
end Go.Proofs.Ytglpjoandgbngaa
