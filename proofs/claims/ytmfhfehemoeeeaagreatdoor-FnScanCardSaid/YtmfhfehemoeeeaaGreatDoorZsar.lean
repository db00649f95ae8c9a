import Derived.Test.YtmfhfehemoeeeaaGreatDoorZsaq
set_option maxRecDepth 100000
set_option maxHeartbeats 1000000
namespace Go.Proofs.YtmfhfehemoeeeaaGreatDoor
open Go.RowKit Go.Proofs.Sha

theorem rrec_commit (X : Int → ByteArray → Int → ByteArray → Int → Nat → Bool → Prop) (r : Nat) (s : ByteArray) (a : Nat) (f : Bool) (w : World) (h : Rd r s a f w)
    (HC : Hid (∀ w', Rd r s a f w' → Calls Tryz.prog 202 #[.agg #[], .pointer (some ⟨r, 0, none⟩)] w' fun e w'' => ∃ (k v nx : Int) (enc root : ByteArray) (a' : Nat) (f' : Bool), e = .returned (recV k enc v root nx) ∧ Hid (X k enc v root nx a' f') ∧ a' ≤ s.size ∧ Rd r s a' f' w'' ∧ Mv r w' w'')) :
    Calls Tryz.prog 96 #[.pointer (some ⟨r, 0, none⟩), .iface 219 (.agg #[])] w fun e w' => ∃ (k v nx : Int) (enc root : ByteArray) (a' : Nat) (f' : Bool), e = .returned (if f' = true then recV 0 ⟨#[]⟩ 0 ⟨#[]⟩ 0 else recV k enc v root nx) ∧ Hid (X k enc v root nx a' f') ∧ a' ≤ s.size ∧ Rd r s a' f' w' ∧ Mv r w w' := by
  have hmt : ∀ w : World, (method 356 219 (.agg #[]) "loop.example/s03048/impl.take").run Tryz.prog w = .ok (202, .agg #[]) w := fun _ => by kernel_rfl
  have hlt := h.lt
  obtain ⟨fb, hfb⟩ : ∃ fb, w.heap.size = fb := ⟨_, rfl⟩
  go_enter Tryz.func96, Tryz.ntmps96
  go_wp2_with fail
  refine (HC.out _ (h.alloc _)).mono ?_
  rintro e w1 ⟨k, v, nx, enc, root, a', f', rfl, HX, ha', hr1, hm1⟩
  have hn1 : RB fb 0 ⟨#[]⟩ 0 ⟨#[]⟩ 0 w1 := by rw [← hfb]; exact hm1.cells (heap_alloc_new _ _) (by omega)
  have hmw : Mv r w w1 := ((Mv.refl r w).alloc _).trans hm1
  have A1 : ∀ o, Rd r s a' f' (w1.alloc o) := fun o => hr1.alloc o
  have B1 : ∀ o, RB fb 0 ⟨#[]⟩ 0 ⟨#[]⟩ 0 (w1.alloc o) := fun o => below_cells ((Below.refl _ _).alloc (Nat.le_refl _) _) hn1
  have B2 : ∀ o o', RB fb 0 ⟨#[]⟩ 0 ⟨#[]⟩ 0 ((w1.alloc o).alloc o') := fun o o' => below_cells ((Below.refl _ _).alloc (Nat.le_refl _) _) (B1 o)
  have e1 : ∀ o, (w1.alloc o).cell? ⟨r, 2, none⟩ = some (.bool f') := fun o => Lib.cell_of_heap (A1 o) 2
  have b0 : ∀ o, (w1.alloc o).cell? ⟨fb, 0, none⟩ = some (.int .i64 0) := fun o => Lib.cell_of_heap (B1 o) 0
  have d0 : ∀ o, (w1.alloc o).frozen? ⟨fb, 0, none⟩ = false := fun o => frozen_of_heap (B1 o)
  have p0 : ∀ o o', ((w1.alloc o).alloc o').cell? ⟨fb, 0, none⟩ = some (.int .i64 0) := fun o o' => Lib.cell_of_heap (B2 o o') 0
  have q0 : ∀ o o', ((w1.alloc o).alloc o').frozen? ⟨fb, 0, none⟩ = false := fun o o' => frozen_of_heap (B2 o o')
  have b1 : ∀ o, (w1.alloc o).cell? ⟨fb, 1, none⟩ = some (.string ⟨#[]⟩) := fun o => Lib.cell_of_heap (B1 o) 1
  have d1 : ∀ o, (w1.alloc o).frozen? ⟨fb, 1, none⟩ = false := fun o => frozen_of_heap (B1 o)
  have p1 : ∀ o o', ((w1.alloc o).alloc o').cell? ⟨fb, 1, none⟩ = some (.string ⟨#[]⟩) := fun o o' => Lib.cell_of_heap (B2 o o') 1
  have q1 : ∀ o o', ((w1.alloc o).alloc o').frozen? ⟨fb, 1, none⟩ = false := fun o o' => frozen_of_heap (B2 o o')
  have b2 : ∀ o, (w1.alloc o).cell? ⟨fb, 2, none⟩ = some (.int .i64 0) := fun o => Lib.cell_of_heap (B1 o) 2
  have d2 : ∀ o, (w1.alloc o).frozen? ⟨fb, 2, none⟩ = false := fun o => frozen_of_heap (B1 o)
  have p2 : ∀ o o', ((w1.alloc o).alloc o').cell? ⟨fb, 2, none⟩ = some (.int .i64 0) := fun o o' => Lib.cell_of_heap (B2 o o') 2
  have q2 : ∀ o o', ((w1.alloc o).alloc o').frozen? ⟨fb, 2, none⟩ = false := fun o o' => frozen_of_heap (B2 o o')
  have b3 : ∀ o, (w1.alloc o).cell? ⟨fb, 3, none⟩ = some (.string ⟨#[]⟩) := fun o => Lib.cell_of_heap (B1 o) 3
  have d3 : ∀ o, (w1.alloc o).frozen? ⟨fb, 3, none⟩ = false := fun o => frozen_of_heap (B1 o)
  have p3 : ∀ o o', ((w1.alloc o).alloc o').cell? ⟨fb, 3, none⟩ = some (.string ⟨#[]⟩) := fun o o' => Lib.cell_of_heap (B2 o o') 3
  have q3 : ∀ o o', ((w1.alloc o).alloc o').frozen? ⟨fb, 3, none⟩ = false := fun o o' => frozen_of_heap (B2 o o')
  have b4 : ∀ o, (w1.alloc o).cell? ⟨fb, 4, none⟩ = some (.int .i64 0) := fun o => Lib.cell_of_heap (B1 o) 4
  have d4 : ∀ o, (w1.alloc o).frozen? ⟨fb, 4, none⟩ = false := fun o => frozen_of_heap (B1 o)
  have p4 : ∀ o o', ((w1.alloc o).alloc o').cell? ⟨fb, 4, none⟩ = some (.int .i64 0) := fun o o' => Lib.cell_of_heap (B2 o o') 4
  have q4 : ∀ o o', ((w1.alloc o).alloc o').frozen? ⟨fb, 4, none⟩ = false := fun o o' => frozen_of_heap (B2 o o')
  have HA : Hid (∀ o, Rd r s a' f' (w1.alloc o)) := A1
  have HB1 : Hid (∀ o, RB fb 0 ⟨#[]⟩ 0 ⟨#[]⟩ 0 (w1.alloc o)) := B1
  have HB2 : Hid (∀ o o', RB fb 0 ⟨#[]⟩ 0 ⟨#[]⟩ 0 ((w1.alloc o).alloc o')) := B2
  clear A1 B1 B2 hn1 hm1 HC hr1
  cases f'
  · go_wp2_with fail
    have hF := fun o => fin5 (HA.out o) (hmw.alloc o) hfb (Nat.le_refl fb) (by omega)
    exact retRec rfl (RecAt.set5 (RB.at (HB1.out _)) k enc v root nx) rfl rfl ⟨k, v, nx, enc, root, a', false, rfl, HX, ha', (hF _ _ _ _ _ _).1, (hF _ _ _ _ _ _).2⟩
  · go_wp2_with fail
    have hF := fun o o' => fin5 (Rd.alloc (HA.out o) o') ((hmw.alloc o).alloc o') hfb (Nat.le_refl fb) (by omega)
    exact retRec rfl (RecAt.set5 (RB.at (HB2.out _ _)) 0 ⟨#[]⟩ 0 ⟨#[]⟩ 0) rfl rfl ⟨k, v, nx, enc, root, a', true, rfl, HX, ha', (hF _ _ _ _ _ _ _).1, (hF _ _ _ _ _ _ _).2⟩
theorem rrec_pad (X : Int → ByteArray → Int → ByteArray → Int → Nat → Bool → Prop) (r : Nat) (s : ByteArray) (a : Nat) (f : Bool) (w : World) (h : Rd r s a f w)
    (HC : Hid (∀ w', Rd r s a f w' → Calls Tryz.prog 200 #[.agg #[.iface 219 (.agg #[])], .pointer (some ⟨r, 0, none⟩)] w' fun e w'' => ∃ (k v nx : Int) (enc root : ByteArray) (a' : Nat) (f' : Bool), e = .returned (recV k enc v root nx) ∧ Hid (X k enc v root nx a' f') ∧ a' ≤ s.size ∧ Rd r s a' f' w'' ∧ Mv r w' w'')) :
    Calls Tryz.prog 96 #[.pointer (some ⟨r, 0, none⟩), .iface 215 (.agg #[.iface 219 (.agg #[])])] w fun e w' => ∃ (k v nx : Int) (enc root : ByteArray) (a' : Nat) (f' : Bool), e = .returned (if f' = true then recV 0 ⟨#[]⟩ 0 ⟨#[]⟩ 0 else recV k enc v root nx) ∧ Hid (X k enc v root nx a' f') ∧ a' ≤ s.size ∧ Rd r s a' f' w' ∧ Mv r w w' := by
  have hmt : ∀ w : World, (method 356 215 (.agg #[.iface 219 (.agg #[])]) "loop.example/s03048/impl.take").run Tryz.prog w = .ok (200, .agg #[.iface 219 (.agg #[])]) w := fun _ => by kernel_rfl
  have hlt := h.lt
  obtain ⟨fb, hfb⟩ : ∃ fb, w.heap.size = fb := ⟨_, rfl⟩
  go_enter Tryz.func96, Tryz.ntmps96
  go_wp2_with fail
  refine (HC.out _ (h.alloc _)).mono ?_
  rintro e w1 ⟨k, v, nx, enc, root, a', f', rfl, HX, ha', hr1, hm1⟩
  have hn1 : RB fb 0 ⟨#[]⟩ 0 ⟨#[]⟩ 0 w1 := by rw [← hfb]; exact hm1.cells (heap_alloc_new _ _) (by omega)
  have hmw : Mv r w w1 := ((Mv.refl r w).alloc _).trans hm1
  have A1 : ∀ o, Rd r s a' f' (w1.alloc o) := fun o => hr1.alloc o
  have B1 : ∀ o, RB fb 0 ⟨#[]⟩ 0 ⟨#[]⟩ 0 (w1.alloc o) := fun o => below_cells ((Below.refl _ _).alloc (Nat.le_refl _) _) hn1
  have B2 : ∀ o o', RB fb 0 ⟨#[]⟩ 0 ⟨#[]⟩ 0 ((w1.alloc o).alloc o') := fun o o' => below_cells ((Below.refl _ _).alloc (Nat.le_refl _) _) (B1 o)
  have e1 : ∀ o, (w1.alloc o).cell? ⟨r, 2, none⟩ = some (.bool f') := fun o => Lib.cell_of_heap (A1 o) 2
  have b0 : ∀ o, (w1.alloc o).cell? ⟨fb, 0, none⟩ = some (.int .i64 0) := fun o => Lib.cell_of_heap (B1 o) 0
  have d0 : ∀ o, (w1.alloc o).frozen? ⟨fb, 0, none⟩ = false := fun o => frozen_of_heap (B1 o)
  have p0 : ∀ o o', ((w1.alloc o).alloc o').cell? ⟨fb, 0, none⟩ = some (.int .i64 0) := fun o o' => Lib.cell_of_heap (B2 o o') 0
  have q0 : ∀ o o', ((w1.alloc o).alloc o').frozen? ⟨fb, 0, none⟩ = false := fun o o' => frozen_of_heap (B2 o o')
  have b1 : ∀ o, (w1.alloc o).cell? ⟨fb, 1, none⟩ = some (.string ⟨#[]⟩) := fun o => Lib.cell_of_heap (B1 o) 1
  have d1 : ∀ o, (w1.alloc o).frozen? ⟨fb, 1, none⟩ = false := fun o => frozen_of_heap (B1 o)
  have p1 : ∀ o o', ((w1.alloc o).alloc o').cell? ⟨fb, 1, none⟩ = some (.string ⟨#[]⟩) := fun o o' => Lib.cell_of_heap (B2 o o') 1
  have q1 : ∀ o o', ((w1.alloc o).alloc o').frozen? ⟨fb, 1, none⟩ = false := fun o o' => frozen_of_heap (B2 o o')
  have b2 : ∀ o, (w1.alloc o).cell? ⟨fb, 2, none⟩ = some (.int .i64 0) := fun o => Lib.cell_of_heap (B1 o) 2
  have d2 : ∀ o, (w1.alloc o).frozen? ⟨fb, 2, none⟩ = false := fun o => frozen_of_heap (B1 o)
  have p2 : ∀ o o', ((w1.alloc o).alloc o').cell? ⟨fb, 2, none⟩ = some (.int .i64 0) := fun o o' => Lib.cell_of_heap (B2 o o') 2
  have q2 : ∀ o o', ((w1.alloc o).alloc o').frozen? ⟨fb, 2, none⟩ = false := fun o o' => frozen_of_heap (B2 o o')
  have b3 : ∀ o, (w1.alloc o).cell? ⟨fb, 3, none⟩ = some (.string ⟨#[]⟩) := fun o => Lib.cell_of_heap (B1 o) 3
  have d3 : ∀ o, (w1.alloc o).frozen? ⟨fb, 3, none⟩ = false := fun o => frozen_of_heap (B1 o)
  have p3 : ∀ o o', ((w1.alloc o).alloc o').cell? ⟨fb, 3, none⟩ = some (.string ⟨#[]⟩) := fun o o' => Lib.cell_of_heap (B2 o o') 3
  have q3 : ∀ o o', ((w1.alloc o).alloc o').frozen? ⟨fb, 3, none⟩ = false := fun o o' => frozen_of_heap (B2 o o')
  have b4 : ∀ o, (w1.alloc o).cell? ⟨fb, 4, none⟩ = some (.int .i64 0) := fun o => Lib.cell_of_heap (B1 o) 4
  have d4 : ∀ o, (w1.alloc o).frozen? ⟨fb, 4, none⟩ = false := fun o => frozen_of_heap (B1 o)
  have p4 : ∀ o o', ((w1.alloc o).alloc o').cell? ⟨fb, 4, none⟩ = some (.int .i64 0) := fun o o' => Lib.cell_of_heap (B2 o o') 4
  have q4 : ∀ o o', ((w1.alloc o).alloc o').frozen? ⟨fb, 4, none⟩ = false := fun o o' => frozen_of_heap (B2 o o')
  have HA : Hid (∀ o, Rd r s a' f' (w1.alloc o)) := A1
  have HB1 : Hid (∀ o, RB fb 0 ⟨#[]⟩ 0 ⟨#[]⟩ 0 (w1.alloc o)) := B1
  have HB2 : Hid (∀ o o', RB fb 0 ⟨#[]⟩ 0 ⟨#[]⟩ 0 ((w1.alloc o).alloc o')) := B2
  clear A1 B1 B2 hn1 hm1 HC hr1
  cases f'
  · go_wp2_with fail
    have hF := fun o => fin5 (HA.out o) (hmw.alloc o) hfb (Nat.le_refl fb) (by omega)
    exact retRec rfl (RecAt.set5 (RB.at (HB1.out _)) k enc v root nx) rfl rfl ⟨k, v, nx, enc, root, a', false, rfl, HX, ha', (hF _ _ _ _ _ _).1, (hF _ _ _ _ _ _).2⟩
  · go_wp2_with fail
    have hF := fun o o' => fin5 (Rd.alloc (HA.out o) o') ((hmw.alloc o).alloc o') hfb (Nat.le_refl fb) (by omega)
    exact retRec rfl (RecAt.set5 (RB.at (HB2.out _ _)) 0 ⟨#[]⟩ 0 ⟨#[]⟩ 0) rfl rfl ⟨k, v, nx, enc, root, a', true, rfl, HX, ha', (hF _ _ _ _ _ _ _).1, (hF _ _ _ _ _ _ _).2⟩
theorem rrec_node (X : Int → ByteArray → Int → ByteArray → Int → Nat → Bool → Prop) (r : Nat) (s : ByteArray) (a : Nat) (f : Bool) (w : World) (h : Rd r s a f w)
    (HC : Hid (∀ w', Rd r s a f w' → Calls Tryz.prog 132 #[.agg #[], .pointer (some ⟨r, 0, none⟩)] w' fun e w'' => ∃ (k v nx : Int) (enc root : ByteArray) (a' : Nat) (f' : Bool), e = .returned (recV k enc v root nx) ∧ Hid (X k enc v root nx a' f') ∧ a' ≤ s.size ∧ Rd r s a' f' w'' ∧ Mv r w' w'')) :
    Calls Tryz.prog 96 #[.pointer (some ⟨r, 0, none⟩), .iface 68 (.agg #[])] w fun e w' => ∃ (k v nx : Int) (enc root : ByteArray) (a' : Nat) (f' : Bool), e = .returned (if f' = true then recV 0 ⟨#[]⟩ 0 ⟨#[]⟩ 0 else recV k enc v root nx) ∧ Hid (X k enc v root nx a' f') ∧ a' ≤ s.size ∧ Rd r s a' f' w' ∧ Mv r w w' := by
  have hmt : ∀ w : World, (method 356 68 (.agg #[]) "loop.example/s03048/impl.take").run Tryz.prog w = .ok (132, .agg #[]) w := fun _ => by kernel_rfl
  have hlt := h.lt
  obtain ⟨fb, hfb⟩ : ∃ fb, w.heap.size = fb := ⟨_, rfl⟩
  go_enter Tryz.func96, Tryz.ntmps96
  go_wp2_with fail
  refine (HC.out _ (h.alloc _)).mono ?_
  rintro e w1 ⟨k, v, nx, enc, root, a', f', rfl, HX, ha', hr1, hm1⟩
  have hn1 : RB fb 0 ⟨#[]⟩ 0 ⟨#[]⟩ 0 w1 := by rw [← hfb]; exact hm1.cells (heap_alloc_new _ _) (by omega)
  have hmw : Mv r w w1 := ((Mv.refl r w).alloc _).trans hm1
  have A1 : ∀ o, Rd r s a' f' (w1.alloc o) := fun o => hr1.alloc o
  have B1 : ∀ o, RB fb 0 ⟨#[]⟩ 0 ⟨#[]⟩ 0 (w1.alloc o) := fun o => below_cells ((Below.refl _ _).alloc (Nat.le_refl _) _) hn1
  have B2 : ∀ o o', RB fb 0 ⟨#[]⟩ 0 ⟨#[]⟩ 0 ((w1.alloc o).alloc o') := fun o o' => below_cells ((Below.refl _ _).alloc (Nat.le_refl _) _) (B1 o)
  have e1 : ∀ o, (w1.alloc o).cell? ⟨r, 2, none⟩ = some (.bool f') := fun o => Lib.cell_of_heap (A1 o) 2
  have b0 : ∀ o, (w1.alloc o).cell? ⟨fb, 0, none⟩ = some (.int .i64 0) := fun o => Lib.cell_of_heap (B1 o) 0
  have d0 : ∀ o, (w1.alloc o).frozen? ⟨fb, 0, none⟩ = false := fun o => frozen_of_heap (B1 o)
  have p0 : ∀ o o', ((w1.alloc o).alloc o').cell? ⟨fb, 0, none⟩ = some (.int .i64 0) := fun o o' => Lib.cell_of_heap (B2 o o') 0
  have q0 : ∀ o o', ((w1.alloc o).alloc o').frozen? ⟨fb, 0, none⟩ = false := fun o o' => frozen_of_heap (B2 o o')
  have b1 : ∀ o, (w1.alloc o).cell? ⟨fb, 1, none⟩ = some (.string ⟨#[]⟩) := fun o => Lib.cell_of_heap (B1 o) 1
  have d1 : ∀ o, (w1.alloc o).frozen? ⟨fb, 1, none⟩ = false := fun o => frozen_of_heap (B1 o)
  have p1 : ∀ o o', ((w1.alloc o).alloc o').cell? ⟨fb, 1, none⟩ = some (.string ⟨#[]⟩) := fun o o' => Lib.cell_of_heap (B2 o o') 1
  have q1 : ∀ o o', ((w1.alloc o).alloc o').frozen? ⟨fb, 1, none⟩ = false := fun o o' => frozen_of_heap (B2 o o')
  have b2 : ∀ o, (w1.alloc o).cell? ⟨fb, 2, none⟩ = some (.int .i64 0) := fun o => Lib.cell_of_heap (B1 o) 2
  have d2 : ∀ o, (w1.alloc o).frozen? ⟨fb, 2, none⟩ = false := fun o => frozen_of_heap (B1 o)
  have p2 : ∀ o o', ((w1.alloc o).alloc o').cell? ⟨fb, 2, none⟩ = some (.int .i64 0) := fun o o' => Lib.cell_of_heap (B2 o o') 2
  have q2 : ∀ o o', ((w1.alloc o).alloc o').frozen? ⟨fb, 2, none⟩ = false := fun o o' => frozen_of_heap (B2 o o')
  have b3 : ∀ o, (w1.alloc o).cell? ⟨fb, 3, none⟩ = some (.string ⟨#[]⟩) := fun o => Lib.cell_of_heap (B1 o) 3
  have d3 : ∀ o, (w1.alloc o).frozen? ⟨fb, 3, none⟩ = false := fun o => frozen_of_heap (B1 o)
  have p3 : ∀ o o', ((w1.alloc o).alloc o').cell? ⟨fb, 3, none⟩ = some (.string ⟨#[]⟩) := fun o o' => Lib.cell_of_heap (B2 o o') 3
  have q3 : ∀ o o', ((w1.alloc o).alloc o').frozen? ⟨fb, 3, none⟩ = false := fun o o' => frozen_of_heap (B2 o o')
  have b4 : ∀ o, (w1.alloc o).cell? ⟨fb, 4, none⟩ = some (.int .i64 0) := fun o => Lib.cell_of_heap (B1 o) 4
  have d4 : ∀ o, (w1.alloc o).frozen? ⟨fb, 4, none⟩ = false := fun o => frozen_of_heap (B1 o)
  have p4 : ∀ o o', ((w1.alloc o).alloc o').cell? ⟨fb, 4, none⟩ = some (.int .i64 0) := fun o o' => Lib.cell_of_heap (B2 o o') 4
  have q4 : ∀ o o', ((w1.alloc o).alloc o').frozen? ⟨fb, 4, none⟩ = false := fun o o' => frozen_of_heap (B2 o o')
  have HA : Hid (∀ o, Rd r s a' f' (w1.alloc o)) := A1
  have HB1 : Hid (∀ o, RB fb 0 ⟨#[]⟩ 0 ⟨#[]⟩ 0 (w1.alloc o)) := B1
  have HB2 : Hid (∀ o o', RB fb 0 ⟨#[]⟩ 0 ⟨#[]⟩ 0 ((w1.alloc o).alloc o')) := B2
  clear A1 B1 B2 hn1 hm1 HC hr1
  cases f'
  · go_wp2_with fail
    have hF := fun o => fin5 (HA.out o) (hmw.alloc o) hfb (Nat.le_refl fb) (by omega)
    exact retRec rfl (RecAt.set5 (RB.at (HB1.out _)) k enc v root nx) rfl rfl ⟨k, v, nx, enc, root, a', false, rfl, HX, ha', (hF _ _ _ _ _ _).1, (hF _ _ _ _ _ _).2⟩
  · go_wp2_with fail
    have hF := fun o o' => fin5 (Rd.alloc (HA.out o) o') ((hmw.alloc o).alloc o') hfb (Nat.le_refl fb) (by omega)
    exact retRec rfl (RecAt.set5 (RB.at (HB2.out _ _)) 0 ⟨#[]⟩ 0 ⟨#[]⟩ 0) rfl rfl ⟨k, v, nx, enc, root, a', true, rfl, HX, ha', (hF _ _ _ _ _ _ _).1, (hF _ _ _ _ _ _ _).2⟩
theorem rrec_cr (X : Int → ByteArray → Int → ByteArray → Int → Nat → Bool → Prop) (r : Nat) (s : ByteArray) (a : Nat) (f : Bool) (w : World) (h : Rd r s a f w)
    (HC : Hid (∀ w', Rd r s a f w' → Calls Tryz.prog 145 #[.agg #[], .pointer (some ⟨r, 0, none⟩)] w' fun e w'' => ∃ (k v nx : Int) (enc root : ByteArray) (a' : Nat) (f' : Bool), e = .returned (recV k enc v root nx) ∧ Hid (X k enc v root nx a' f') ∧ a' ≤ s.size ∧ Rd r s a' f' w'' ∧ Mv r w' w'')) :
    Calls Tryz.prog 96 #[.pointer (some ⟨r, 0, none⟩), .iface 70 (.agg #[])] w fun e w' => ∃ (k v nx : Int) (enc root : ByteArray) (a' : Nat) (f' : Bool), e = .returned (if f' = true then recV 0 ⟨#[]⟩ 0 ⟨#[]⟩ 0 else recV k enc v root nx) ∧ Hid (X k enc v root nx a' f') ∧ a' ≤ s.size ∧ Rd r s a' f' w' ∧ Mv r w w' := by
  have hmt : ∀ w : World, (method 356 70 (.agg #[]) "loop.example/s03048/impl.take").run Tryz.prog w = .ok (145, .agg #[]) w := fun _ => by kernel_rfl
  have hlt := h.lt
  obtain ⟨fb, hfb⟩ : ∃ fb, w.heap.size = fb := ⟨_, rfl⟩
  go_enter Tryz.func96, Tryz.ntmps96
  go_wp2_with fail
  refine (HC.out _ (h.alloc _)).mono ?_
  rintro e w1 ⟨k, v, nx, enc, root, a', f', rfl, HX, ha', hr1, hm1⟩
  have hn1 : RB fb 0 ⟨#[]⟩ 0 ⟨#[]⟩ 0 w1 := by rw [← hfb]; exact hm1.cells (heap_alloc_new _ _) (by omega)
  have hmw : Mv r w w1 := ((Mv.refl r w).alloc _).trans hm1
  have A1 : ∀ o, Rd r s a' f' (w1.alloc o) := fun o => hr1.alloc o
  have B1 : ∀ o, RB fb 0 ⟨#[]⟩ 0 ⟨#[]⟩ 0 (w1.alloc o) := fun o => below_cells ((Below.refl _ _).alloc (Nat.le_refl _) _) hn1
  have B2 : ∀ o o', RB fb 0 ⟨#[]⟩ 0 ⟨#[]⟩ 0 ((w1.alloc o).alloc o') := fun o o' => below_cells ((Below.refl _ _).alloc (Nat.le_refl _) _) (B1 o)
  have e1 : ∀ o, (w1.alloc o).cell? ⟨r, 2, none⟩ = some (.bool f') := fun o => Lib.cell_of_heap (A1 o) 2
  have b0 : ∀ o, (w1.alloc o).cell? ⟨fb, 0, none⟩ = some (.int .i64 0) := fun o => Lib.cell_of_heap (B1 o) 0
  have d0 : ∀ o, (w1.alloc o).frozen? ⟨fb, 0, none⟩ = false := fun o => frozen_of_heap (B1 o)
  have p0 : ∀ o o', ((w1.alloc o).alloc o').cell? ⟨fb, 0, none⟩ = some (.int .i64 0) := fun o o' => Lib.cell_of_heap (B2 o o') 0
  have q0 : ∀ o o', ((w1.alloc o).alloc o').frozen? ⟨fb, 0, none⟩ = false := fun o o' => frozen_of_heap (B2 o o')
  have b1 : ∀ o, (w1.alloc o).cell? ⟨fb, 1, none⟩ = some (.string ⟨#[]⟩) := fun o => Lib.cell_of_heap (B1 o) 1
  have d1 : ∀ o, (w1.alloc o).frozen? ⟨fb, 1, none⟩ = false := fun o => frozen_of_heap (B1 o)
  have p1 : ∀ o o', ((w1.alloc o).alloc o').cell? ⟨fb, 1, none⟩ = some (.string ⟨#[]⟩) := fun o o' => Lib.cell_of_heap (B2 o o') 1
  have q1 : ∀ o o', ((w1.alloc o).alloc o').frozen? ⟨fb, 1, none⟩ = false := fun o o' => frozen_of_heap (B2 o o')
  have b2 : ∀ o, (w1.alloc o).cell? ⟨fb, 2, none⟩ = some (.int .i64 0) := fun o => Lib.cell_of_heap (B1 o) 2
  have d2 : ∀ o, (w1.alloc o).frozen? ⟨fb, 2, none⟩ = false := fun o => frozen_of_heap (B1 o)
  have p2 : ∀ o o', ((w1.alloc o).alloc o').cell? ⟨fb, 2, none⟩ = some (.int .i64 0) := fun o o' => Lib.cell_of_heap (B2 o o') 2
  have q2 : ∀ o o', ((w1.alloc o).alloc o').frozen? ⟨fb, 2, none⟩ = false := fun o o' => frozen_of_heap (B2 o o')
  have b3 : ∀ o, (w1.alloc o).cell? ⟨fb, 3, none⟩ = some (.string ⟨#[]⟩) := fun o => Lib.cell_of_heap (B1 o) 3
  have d3 : ∀ o, (w1.alloc o).frozen? ⟨fb, 3, none⟩ = false := fun o => frozen_of_heap (B1 o)
  have p3 : ∀ o o', ((w1.alloc o).alloc o').cell? ⟨fb, 3, none⟩ = some (.string ⟨#[]⟩) := fun o o' => Lib.cell_of_heap (B2 o o') 3
  have q3 : ∀ o o', ((w1.alloc o).alloc o').frozen? ⟨fb, 3, none⟩ = false := fun o o' => frozen_of_heap (B2 o o')
  have b4 : ∀ o, (w1.alloc o).cell? ⟨fb, 4, none⟩ = some (.int .i64 0) := fun o => Lib.cell_of_heap (B1 o) 4
  have d4 : ∀ o, (w1.alloc o).frozen? ⟨fb, 4, none⟩ = false := fun o => frozen_of_heap (B1 o)
  have p4 : ∀ o o', ((w1.alloc o).alloc o').cell? ⟨fb, 4, none⟩ = some (.int .i64 0) := fun o o' => Lib.cell_of_heap (B2 o o') 4
  have q4 : ∀ o o', ((w1.alloc o).alloc o').frozen? ⟨fb, 4, none⟩ = false := fun o o' => frozen_of_heap (B2 o o')
  have HA : Hid (∀ o, Rd r s a' f' (w1.alloc o)) := A1
  have HB1 : Hid (∀ o, RB fb 0 ⟨#[]⟩ 0 ⟨#[]⟩ 0 (w1.alloc o)) := B1
  have HB2 : Hid (∀ o o', RB fb 0 ⟨#[]⟩ 0 ⟨#[]⟩ 0 ((w1.alloc o).alloc o')) := B2
  clear A1 B1 B2 hn1 hm1 HC hr1
  cases f'
  · go_wp2_with fail
    have hF := fun o => fin5 (HA.out o) (hmw.alloc o) hfb (Nat.le_refl fb) (by omega)
    exact retRec rfl (RecAt.set5 (RB.at (HB1.out _)) k enc v root nx) rfl rfl ⟨k, v, nx, enc, root, a', false, rfl, HX, ha', (hF _ _ _ _ _ _).1, (hF _ _ _ _ _ _).2⟩
  · go_wp2_with fail
    have hF := fun o o' => fin5 (Rd.alloc (HA.out o) o') ((hmw.alloc o).alloc o') hfb (Nat.le_refl fb) (by omega)
    exact retRec rfl (RecAt.set5 (RB.at (HB2.out _ _)) 0 ⟨#[]⟩ 0 ⟨#[]⟩ 0) rfl rfl ⟨k, v, nx, enc, root, a', true, rfl, HX, ha', (hF _ _ _ _ _ _ _).1, (hF _ _ _ _ _ _ _).2⟩
end Go.Proofs.YtmfhfehemoeeeaaGreatDoor
