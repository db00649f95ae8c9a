import Derived.Test.YtglpjoandgbngabNa
namespace Go.Proofs.Ytglpjoandgbngab
open Go.RowKit Go.Proofs.Sha

set_option maxRecDepth 100000 in
set_option maxHeartbeats 2000000 in
theorem node_put_f (f : Nat) (F : Int) (hFf : F = (f : Int)) (hf : F = 0 ∨ F = 1 ∨ F = 2 ∨ F = 3) (b : Nat) (n : Int) (k v l r : ByteArray) (q : List UInt8) (w : World) (h : Bld b q w) (hq : q.length ≤ 1000) (hk : k.size ≤ 256) (hv : v.size ≤ 2000) (hl : l.size ≤ 32) (hr : r.size ≤ 32)
    (HF : Hid (∀ w', Calls Try.prog 60 #[.agg #[.string k, .string v, .string l, .string r]] w' fun e w'' => e = .returned (.int .i64 F) ∧ Below w'.heap.size w' w'')) :
    Calls Try.prog 58 #[.agg #[.int .i64 n], .pointer (some ⟨b, 0, none⟩), .agg #[.string k, .string v, .string l, .string r]] w fun e w' => e = .returned (.tuple #[]) ∧ Put b (q ++ sized k.data.toList ++ sized v.data.toList ++ [UInt8.ofNat f] ++ l.data.toList ++ r.data.toList) w w' := by
  have hlt := h.lt
  obtain ⟨m1, hm1⟩ : ∃ m, q ++ sized k.data.toList = m := ⟨_, rfl⟩
  have z1 : m1.length ≤ 2000 := by rw [← hm1, List.length_append]; show q.length + (k.size + 1 + 1) ≤ _; omega
  obtain ⟨m2, hm2⟩ : ∃ m, m1 ++ sized v.data.toList = m := ⟨_, rfl⟩
  have z2 : m2.length ≤ 5000 := by rw [← hm2, List.length_append]; show m1.length + (v.size + 1 + 1) ≤ _; omega
  obtain ⟨m3, hm3⟩ : ∃ m, m2 ++ [UInt8.ofNat f] = m := ⟨_, rfl⟩
  have z3 : m3.length ≤ 5001 := by rw [← hm3, List.length_append]; show m2.length + 1 ≤ _; omega
  obtain ⟨m4, hm4⟩ : ∃ m, m3 ++ l.data.toList = m := ⟨_, rfl⟩
  have z4 : m4.length ≤ 6000 := by rw [← hm4, List.length_append]; show m3.length + l.size ≤ _; omega
  have HA : Hid (∀ w', Bld b q w' → Calls Try.prog 61 #[.pointer (some ⟨b, 0, none⟩), .iface 95 (.agg #[.int .i64 2, .bool false]), .string k] w' fun e w'' => e = .returned (.tuple #[]) ∧ Put b m1 w' w'') := fun w' h' => by rw [← hm1]; exact wsized2 b k q w' h' (by omega)
  have HB : Hid (∀ w', Bld b m1 w' → Calls Try.prog 61 #[.pointer (some ⟨b, 0, none⟩), .iface 95 (.agg #[.int .i64 2, .bool false]), .string v] w' fun e w'' => e = .returned (.tuple #[]) ∧ Put b m2 w' w'') := fun w' h' => by rw [← hm2]; exact wsized2 b v m1 w' h' (by omega)
  have HC : Hid (∀ w', Bld b m2 w' → Calls Try.prog 63 #[.pointer (some ⟨b, 0, none⟩), .iface 93 (.agg #[.int .i64 1, .bool false]), .int .i64 F] w' fun e w'' => e = .returned (.tuple #[]) ∧ Put b m3 w' w'') := fun w' h' => by rw [← hm3, hFf]; exact wint1 b f m2 w' h' (by omega) (by omega)
  have HD : Hid (∀ p w', Bld b m3 w' → Calls Try.prog 61 #[.pointer (some ⟨b, 0, none⟩), .iface 99 (.agg #[.int .i64 p]), .string l] w' fun e w'' => e = .returned (.tuple #[]) ∧ Put b m4 w' w'') := fun p w' h' => by rw [← hm4]; exact wplain p b l m3 w' h' (by omega)
  have HE : Hid (∀ p w', Bld b m4 w' → Calls Try.prog 61 #[.pointer (some ⟨b, 0, none⟩), .iface 99 (.agg #[.int .i64 p]), .string r] w' fun e w'' => e = .returned (.tuple #[]) ∧ Put b (m4 ++ r.data.toList) w' w'') := fun p w' h' => wplain p b r m4 w' h' (by omega)
  rw [hm1, hm2, hm3, hm4]
  clear hm1 hm2 hm3 hm4
  have HL : Hid (∀ p w', Calls Try.prog 57 #[.agg #[.int .i64 n], .int .i64 p] w' fun e w'' => ∃ p, e = .returned (.agg #[.int .i64 p]) ∧ Below w'.heap.size w' w'') := fun p w' => link_ex n p w'
  obtain ⟨m5, hm5⟩ : ∃ m, m4 ++ r.data.toList = m := ⟨_, rfl⟩
  rw [hm5] at HE ⊢
  clear hm5 hk hv hl hr hq z1 z2 z3 z4 hFf
  rcases hf with rfl | rfl | rfl | rfl
  all_goals
    go_enter Try.func58, Try.ntmps58
    go_wp2_with (first | (go_at_call 60; refine (HF.out _).mono ?_; rintro e w1 ⟨rfl, hb1⟩))
    have hp1 : Put b q w w1 := (((Put.refl h).alloc (.cells #[.int .i64 n] 42)).alloc (.cells #[.string k, .string v, .string l, .string r] 26)).below hb1
    have hf1 : w1.heap[w.heap.size]? = some (.cells #[.int .i64 n] 42) := below_cells hb1 (below_cells ((Below.refl _ _).alloc (Nat.le_refl _) _) (heap_alloc_new w (.cells #[.int .i64 n] 42)))
    have hn1 : w1.heap[w.heap.size + 1]? = some (.cells #[.string k, .string v, .string l, .string r] 26) := below_cells hb1 (by
      rw [show w.heap.size + 1 = (w.alloc (.cells #[.int .i64 n] 42)).heap.size by simp]; exact heap_alloc_new _ _)
    clear hb1
    have c0 : w1.cell? ⟨w.heap.size + 1, 0, none⟩ = some (.string k) := Lib.cell_of_heap hn1 0
    go_wp2_with fail
    go_region_held3 (fun W => W.cell? ⟨w.heap.size + 1, 0, none⟩ = some (.string k))
      (first | exact c0 | exact Lib.cell_of_heap hnA 0 | exact Lib.cell_of_heap hn2 0)
      (first | (go_at_call 62; refine (kept_any _).mono ?_; rintro e wA ⟨rfl, hbA'⟩; have hbA : Below w1.heap.size w1 wA := (Below.refl w1.heap.size w1).drew.trans hbA'; have hnA := below_cells hbA hn1) | (go_at_call 61; refine (HA.out _ (hp1.1.below hbA)).mono ?_; rintro e w2 ⟨rfl, hpA⟩; have hn2 := hpA.cells hnA (by omega) (by decide); have hf2 := hpA.cells (below_cells hbA hf1) (by omega) (by decide)))
    have hp2 := (hp1.below hbA).trans hpA
    clear hpA hbA' hbA hnA hp1 hn1 hf1 c0
    have c1 : w2.cell? ⟨w.heap.size + 1, 1, none⟩ = some (.string v) := Lib.cell_of_heap hn2 1
    go_wp2_with fail
    go_region_held3 (fun W => W.cell? ⟨w.heap.size + 1, 1, none⟩ = some (.string v))
      (first | exact c1 | exact Lib.cell_of_heap hnB 1 | exact Lib.cell_of_heap hn3 1)
      (first | (go_at_call 62; refine (kept_any _).mono ?_; rintro e wB ⟨rfl, hbB'⟩; have hbB : Below w2.heap.size w2 wB := (Below.refl w2.heap.size w2).drew.trans hbB'; have hnB := below_cells hbB hn2) | (go_at_call 61; refine (HB.out _ (hp2.1.below hbB)).mono ?_; rintro e w3 ⟨rfl, hpB⟩; have hn3 := hpB.cells hnB (by omega) (by decide); have hf3 := hpB.cells (below_cells hbB hf2) (by omega) (by decide)))
    have hp3 := (hp2.below hbB).trans hpB
    clear hpB hbB' hbB hnB hp2 hn2 hf2 c1
    go_wp2_with (first | (go_at_call 63; refine (HC.out _ hp3.1).mono ?_; rintro e w4 ⟨rfl, hpC⟩))
    have hn4 := hpC.cells hn3 (by omega) (by decide)
    have hf4 := hpC.cells hf3 (by omega) (by decide)
    have hp4 := hp3.trans hpC
    clear hpC hp3 hn3 hf3
    have c2 : w4.cell? ⟨w.heap.size + 1, 2, none⟩ = some (.string l) := Lib.cell_of_heap hn4 2
    have d2 : w4.cell? ⟨w.heap.size, 0, none⟩ = some (.int .i64 n) := Lib.cell_of_heap hf4 0
    go_region_held3 (fun W => W.cell? ⟨w.heap.size + 1, 2, none⟩ = some (.string l) ∧ W.cell? ⟨w.heap.size, 0, none⟩ = some (.int .i64 n))
      (first | exact ⟨c2, d2⟩ | exact ⟨Lib.cell_of_heap hnD 2, Lib.cell_of_heap hfD 0⟩ | exact ⟨Lib.cell_of_heap hn5 2, Lib.cell_of_heap hf5 0⟩)
      (first | (go_at_call 57; refine (HL.out _ _).mono ?_; rintro e wD ⟨p, rfl, hbD'⟩; have hbD : Below w4.heap.size w4 wD := (Below.refl w4.heap.size w4).drew.trans hbD'; have hnD := below_cells hbD hn4; have hfD := below_cells hbD hf4) | (go_at_call 61; refine (HD.out _ _ (hp4.1.below hbD)).mono ?_; rintro e w5 ⟨rfl, hpD⟩; have hn5 := hpD.cells hnD (by omega) (by decide); have hf5 := hpD.cells hfD (by omega) (by decide)))
    have hp5 := (hp4.below hbD).trans hpD
    clear hpD hbD' hbD hnD hp4 hn4 hf4 c2 d2 hfD
    have c3 : w5.cell? ⟨w.heap.size + 1, 3, none⟩ = some (.string r) := Lib.cell_of_heap hn5 3
    have d3 : w5.cell? ⟨w.heap.size, 0, none⟩ = some (.int .i64 n) := Lib.cell_of_heap hf5 0
    go_wp2_with fail
    go_region_held3 (fun W => W.cell? ⟨w.heap.size + 1, 3, none⟩ = some (.string r) ∧ W.cell? ⟨w.heap.size, 0, none⟩ = some (.int .i64 n))
      (first | exact ⟨c3, d3⟩ | exact ⟨Lib.cell_of_heap hnE 3, Lib.cell_of_heap hfE 0⟩ | exact ⟨Lib.cell_of_heap hn6 3, Lib.cell_of_heap hf6 0⟩)
      (first | (go_at_call 57; refine (HL.out _ _).mono ?_; rintro e wE ⟨p2, rfl, hbE'⟩; have hbE : Below w5.heap.size w5 wE := (Below.refl w5.heap.size w5).drew.trans hbE'; have hnE := below_cells hbE hn5; have hfE := below_cells hbE hf5) | (go_at_call 61; refine (HE.out _ _ (hp5.1.below hbE)).mono ?_; rintro e w6 ⟨rfl, hpE⟩; have hn6 := hpE.cells hnE (by omega) (by decide); have hf6 := hpE.cells hfE (by omega) (by decide)))
    go_wp2
    go_end0
    exact ⟨rfl, (hp5.below hbE).trans hpE⟩
end Go.Proofs.Ytglpjoandgbngab
