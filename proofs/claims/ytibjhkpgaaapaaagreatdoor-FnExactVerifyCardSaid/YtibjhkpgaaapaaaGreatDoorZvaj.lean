import Derived.Test.YtibjhkpgaaapaaaGreatDoorZvai
import Derived.Test.YtibjhkpgaaapaaaGreatDoorZvag
import Derived.Test.YtibjhkpgaaapaaaGreatDoorZvaa
import Derived.OrdersHeld
import Derived.Deep.RegionHeld3
namespace Go.Proofs.YtibjhkpgaaapaaaGreatDoor
open Go.RowKit Go.Proofs.Sha

theorem fin4 {w W : World} {fb r : Nat} {s : ByteArray} {a : Nat} {f : Bool} {y0 y1 y2 y3 k v l x : ByteArray} (hb : NB fb y0 y1 y2 y3 W) (hr : Rd r s a f W) (hm : Mv r w W) (hsz : w.heap.size = fb) (hl : r < fb) :
    NB fb k v l x ((((W.setCell ⟨fb, 0, none⟩ (.string k)).setCell ⟨fb, 1, none⟩ (.string v)).setCell ⟨fb, 2, none⟩ (.string l)).setCell ⟨fb, 3, none⟩ (.string x)) ∧
    Rd r s a f ((((W.setCell ⟨fb, 0, none⟩ (.string k)).setCell ⟨fb, 1, none⟩ (.string v)).setCell ⟨fb, 2, none⟩ (.string l)).setCell ⟨fb, 3, none⟩ (.string x)) ∧
    Mv r w ((((W.setCell ⟨fb, 0, none⟩ (.string k)).setCell ⟨fb, 1, none⟩ (.string v)).setCell ⟨fb, 2, none⟩ (.string l)).setCell ⟨fb, 3, none⟩ (.string x)) :=
  ⟨(((hb.s0 k).s1 v).s2 l).s3 x, (((hr.other (by omega)).other (by omega)).other (by omega)).other (by omega), (((hm.other hsz (by omega)).other hsz (by omega)).other hsz (by omega)).other hsz (by omega)⟩
theorem ret36 {w : World} {g : Nat} {k v l r : ByteArray} (h : NB g k v l r w) {a : Act} {R : Ending → World → Prop} (h4 : a.tmps.getD 4 undef = .pointer (some ⟨g, 0, none⟩)) (hd : a.defers = [])
    (hR : R (.returned (nodeV k v l r)) w) : bodyPost Tryz.prog Tryz.f204 R .ret a w := by
  have c0 : w.cell? ⟨g, 0, none⟩ = some (.string k) := Lib.cell_of_heap h 0
  have c1 : w.cell? ⟨g, 1, none⟩ = some (.string v) := Lib.cell_of_heap h 1
  have c2 : w.cell? ⟨g, 2, none⟩ = some (.string l) := Lib.cell_of_heap h 2
  have c3 : w.cell? ⟨g, 3, none⟩ = some (.string r) := Lib.cell_of_heap h 3
  have h4' : a.tmps[4]?.getD undef = .pointer (some ⟨g, 0, none⟩) := by simpa using h4
  exact bodyPost_ret (v := nodeV k v l r) (by simp [results, Tryz.results204, go_sem, h4', asAddr, c0, c1, c2, c3]) hd hR

set_option maxRecDepth 100000 in
theorem rnode (n : Nat) (r : Nat) (s : ByteArray) (a : Nat) (f : Bool) (w : World) (h : Rd r s a f w) (ha : a ≤ s.size) (hs : s.size ≤ 1048576) (hn : n ≤ 32) :
    Calls Tryz.prog 204 #[.pointer (some ⟨r, 0, none⟩), .iface 285 (.agg #[.int .i64 (n : Int)])] w fun e w' => ∃ (k v l x : ByteArray) (a' : Nat) (f' : Bool), e = .returned (if f' = true then nodeV ⟨#[]⟩ ⟨#[]⟩ ⟨#[]⟩ ⟨#[]⟩ else nodeV k v l x) ∧ Hid (NR n s a f k v l x a' f') ∧ a' ≤ s.size ∧ Rd r s a' f' w' ∧ Mv r w w' := by
  have hmt : ∀ w : World, (method 427 285 (.agg #[.int .i64 (n : Int)]) "loop.example/s03048/impl.take").run Tryz.prog w = .ok (247, .agg #[.int .i64 (n : Int)]) w := fun _ => by kernel_rfl
  have HC : Hid (∀ w', Rd r s a f w' → Calls Tryz.prog 247 #[.agg #[.int .i64 (n : Int)], .pointer (some ⟨r, 0, none⟩)] w' fun e w'' => ∃ (k v l x : ByteArray) (a' : Nat) (f' : Bool), e = .returned (nodeV k v l x) ∧ Hid (NR n s a f k v l x a' f') ∧ a' ≤ s.size ∧ k.size ≤ s.size ∧ v.size ≤ s.size ∧ l.size ≤ s.size ∧ x.size ≤ s.size ∧ Rd r s a' f' w'' ∧ Mv r w' w'') := fun w' h' => node_take n r s a f w' h' ha hs hn
  have hlt := h.lt
  obtain ⟨fb, hfb⟩ : ∃ fb, w.heap.size = fb := ⟨_, rfl⟩
  go_enter Tryz.func204, Tryz.ntmps204
  go_wp2_with fail
  refine (HC.out _ (h.alloc _)).mono ?_
  rintro e w1 ⟨k, v, l, x, a', f', rfl, HNR, ha', hk, hv, hl, hx, hr1, hm1⟩
  have hn1 : NB fb ⟨#[]⟩ ⟨#[]⟩ ⟨#[]⟩ ⟨#[]⟩ w1 := by rw [← hfb]; exact hm1.cells (heap_alloc_new _ _) (by omega)
  have hmw : Mv r w w1 := ((Mv.refl r w).alloc _).trans hm1
  have A1 : ∀ o, (w1.alloc o).heap[r]? = some (.cells #[.string s, .int .i64 (a' : Int), .bool f'] 138) := fun o => hr1.alloc o
  have B1 : ∀ o, NB fb ⟨#[]⟩ ⟨#[]⟩ ⟨#[]⟩ ⟨#[]⟩ (w1.alloc o) := fun o => below_cells ((Below.refl _ _).alloc (Nat.le_refl _) _) hn1
  have B2 : ∀ o o', NB fb ⟨#[]⟩ ⟨#[]⟩ ⟨#[]⟩ ⟨#[]⟩ ((w1.alloc o).alloc o') := fun o o' => below_cells ((Below.refl _ _).alloc (Nat.le_refl _) _) (B1 o)
  have e1 : ∀ o, (w1.alloc o).cell? ⟨r, 2, none⟩ = some (.bool f') := fun o => Lib.cell_of_heap (A1 o) 2
  have b0 : ∀ o, (w1.alloc o).cell? ⟨fb, 0, none⟩ = some (.string ⟨#[]⟩) := fun o => Lib.cell_of_heap (B1 o) 0
  have d0 : ∀ o, (w1.alloc o).frozen? ⟨fb, 0, none⟩ = false := fun o => frozen_of_heap (B1 o)
  have p0 : ∀ o o', ((w1.alloc o).alloc o').cell? ⟨fb, 0, none⟩ = some (.string ⟨#[]⟩) := fun o o' => Lib.cell_of_heap (B2 o o') 0
  have q0 : ∀ o o', ((w1.alloc o).alloc o').frozen? ⟨fb, 0, none⟩ = false := fun o o' => frozen_of_heap (B2 o o')
  have b1 : ∀ o, (w1.alloc o).cell? ⟨fb, 1, none⟩ = some (.string ⟨#[]⟩) := fun o => Lib.cell_of_heap (B1 o) 1
  have d1 : ∀ o, (w1.alloc o).frozen? ⟨fb, 1, none⟩ = false := fun o => frozen_of_heap (B1 o)
  have p1 : ∀ o o', ((w1.alloc o).alloc o').cell? ⟨fb, 1, none⟩ = some (.string ⟨#[]⟩) := fun o o' => Lib.cell_of_heap (B2 o o') 1
  have q1 : ∀ o o', ((w1.alloc o).alloc o').frozen? ⟨fb, 1, none⟩ = false := fun o o' => frozen_of_heap (B2 o o')
  have b2 : ∀ o, (w1.alloc o).cell? ⟨fb, 2, none⟩ = some (.string ⟨#[]⟩) := fun o => Lib.cell_of_heap (B1 o) 2
  have d2 : ∀ o, (w1.alloc o).frozen? ⟨fb, 2, none⟩ = false := fun o => frozen_of_heap (B1 o)
  have p2 : ∀ o o', ((w1.alloc o).alloc o').cell? ⟨fb, 2, none⟩ = some (.string ⟨#[]⟩) := fun o o' => Lib.cell_of_heap (B2 o o') 2
  have q2 : ∀ o o', ((w1.alloc o).alloc o').frozen? ⟨fb, 2, none⟩ = false := fun o o' => frozen_of_heap (B2 o o')
  have b3 : ∀ o, (w1.alloc o).cell? ⟨fb, 3, none⟩ = some (.string ⟨#[]⟩) := fun o => Lib.cell_of_heap (B1 o) 3
  have d3 : ∀ o, (w1.alloc o).frozen? ⟨fb, 3, none⟩ = false := fun o => frozen_of_heap (B1 o)
  have p3 : ∀ o o', ((w1.alloc o).alloc o').cell? ⟨fb, 3, none⟩ = some (.string ⟨#[]⟩) := fun o o' => Lib.cell_of_heap (B2 o o') 3
  have q3 : ∀ o o', ((w1.alloc o).alloc o').frozen? ⟨fb, 3, none⟩ = false := fun o o' => frozen_of_heap (B2 o o')
  have HA : Hid (∀ o, (w1.alloc o).heap[r]? = some (.cells #[.string s, .int .i64 (a' : Int), .bool f'] 138)) := A1
  have HB1 : Hid (∀ o, NB fb ⟨#[]⟩ ⟨#[]⟩ ⟨#[]⟩ ⟨#[]⟩ (w1.alloc o)) := B1
  have HB2 : Hid (∀ o o', NB fb ⟨#[]⟩ ⟨#[]⟩ ⟨#[]⟩ ⟨#[]⟩ ((w1.alloc o).alloc o')) := B2
  clear A1 B1 B2 hn1 hm1 HC hr1
  cases f'
  · go_wp2_with fail
    have hF := fun o => fin4 (k := k) (v := v) (l := l) (x := x) (HB1.out o) (HA.out o) (hmw.alloc o) hfb (by omega)
    exact ret36 (hF _).1 rfl rfl ⟨k, v, l, x, a', false, rfl, HNR, ha', (hF _).2.1, (hF _).2.2⟩
  · go_wp2_with fail
    have hF := fun o o' => fin4 (k := ⟨#[]⟩) (v := ⟨#[]⟩) (l := ⟨#[]⟩) (x := ⟨#[]⟩) (HB2.out o o') (Rd.alloc (HA.out o) o') ((hmw.alloc o).alloc o') hfb (by omega)
    exact ret36 (hF _ _).1 rfl rfl ⟨k, v, l, x, a', true, rfl, HNR, ha', (hF _ _).2.1, (hF _ _).2.2⟩

end Go.Proofs.YtibjhkpgaaapaaaGreatDoor
namespace Go.Proofs.YtibjhkpgaaapaaaGreatDoor
open Go.RowKit Go.Proofs.Sha

theorem ret24 {w : World} {g : Nat} {k v l r : ByteArray} (h : NB g k v l r w) {a : Act} {R : Ending → World → Prop} (b : Bool) (h4 : a.tmps.getD 4 undef = .pointer (some ⟨g, 0, none⟩)) (h5 : a.tmps.getD 5 undef = .bool b) (hd : a.defers = [])
    (hR : R (.returned (.tuple #[nodeV k v l r, .bool b])) w) : bodyPost Tryz.prog Tryz.f203 R .ret a w := by
  have c0 : w.cell? ⟨g, 0, none⟩ = some (.string k) := Lib.cell_of_heap h 0
  have c1 : w.cell? ⟨g, 1, none⟩ = some (.string v) := Lib.cell_of_heap h 1
  have c2 : w.cell? ⟨g, 2, none⟩ = some (.string l) := Lib.cell_of_heap h 2
  have c3 : w.cell? ⟨g, 3, none⟩ = some (.string r) := Lib.cell_of_heap h 3
  have h4' : a.tmps[4]?.getD undef = .pointer (some ⟨g, 0, none⟩) := by simpa using h4
  have h5' : a.tmps[5]?.getD undef = .bool b := by simpa using h5
  exact bodyPost_ret (v := .tuple #[nodeV k v l r, .bool b]) (by simp [results, Tryz.results203, go_sem, h4', h5', asAddr, c0, c1, c2, c3]) hd hR
/-- What readWhole of a node answers. -/
def wholeV (s : ByteArray) (k v l x : ByteArray) (a' : Nat) (f' : Bool) : Value := if f' = false ∧ a' = s.size then .tuple #[nodeV k v l x, .bool true] else .tuple #[nodeV ⟨#[]⟩ ⟨#[]⟩ ⟨#[]⟩ ⟨#[]⟩, .bool false]

set_option maxRecDepth 100000 in
set_option maxHeartbeats 1000000 in
theorem whole_node (n : Nat) (s : ByteArray) (w : World) (hs : s.size ≤ 1048576) (hn : n ≤ 32) :
    Calls Tryz.prog 203 #[.string s, .iface 285 (.agg #[.int .i64 (n : Int)])] w fun e w' => ∃ (k v l x : ByteArray) (a' : Nat) (f' : Bool), e = .returned (wholeV s k v l x a' f') ∧ Hid (NR n s 0 false k v l x a' f') ∧ a' ≤ s.size ∧ Below w.heap.size w w' := by
  obtain ⟨fb, hfb⟩ : ∃ fb, w.heap.size = fb := ⟨_, rfl⟩
  obtain ⟨w0, hw0⟩ : ∃ w0, w0 = (w.alloc (.cells #[.string ⟨#[]⟩, .string ⟨#[]⟩, .string ⟨#[]⟩, .string ⟨#[]⟩] 73)).alloc (.cells #[.string s, .int .i64 0, .bool false] 138) := ⟨_, rfl⟩
  have hr0 : Rd (fb + 1) s 0 false w0 := by
    rw [hw0]; unfold Rd; rw [show fb + 1 = (w.alloc (.cells #[.string ⟨#[]⟩, .string ⟨#[]⟩, .string ⟨#[]⟩, .string ⟨#[]⟩] 73)).heap.size by simp [hfb]]; exact heap_alloc_new _ _
  have hn0 : NB fb ⟨#[]⟩ ⟨#[]⟩ ⟨#[]⟩ ⟨#[]⟩ w0 := by
    rw [hw0]; exact below_cells ((Below.refl _ _).alloc (Nat.le_refl _) _) (by rw [← hfb]; exact heap_alloc_new _ _)
  have hb0 : Below fb w w0 := by rw [hw0]; exact ((Below.refl _ _).alloc (by omega) _).alloc (by simp; omega) _
  have hs0 : w0.heap.size = fb + 2 := by rw [hw0]; simp [hfb]
  go_enter Tryz.func203, Tryz.ntmps203
  go_wp2_with fail
  rw [← hw0]
  clear hw0
  refine (rnode n (fb + 1) s 0 false _ hr0 (by omega) hs hn).mono ?_
  rintro e w1 ⟨k, v, l, x, a', f', he, HNR, ha', hr1, hm1⟩
  have hn1 : NB fb ⟨#[]⟩ ⟨#[]⟩ ⟨#[]⟩ ⟨#[]⟩ w1 := hm1.cells hn0 (by omega)
  have hb1 : Below fb w w1 := hb0.trans (hm1.to_below (by omega) (by omega))
  have A1 : ∀ o, (w1.alloc o).heap[fb + 1]? = some (.cells #[.string s, .int .i64 (a' : Int), .bool f'] 138) := fun o => hr1.alloc o
  have B1 : ∀ o, NB fb ⟨#[]⟩ ⟨#[]⟩ ⟨#[]⟩ ⟨#[]⟩ (w1.alloc o) := fun o => below_cells ((Below.refl _ _).alloc (Nat.le_refl _) _) hn1
  have B2 : ∀ o o', NB fb ⟨#[]⟩ ⟨#[]⟩ ⟨#[]⟩ ⟨#[]⟩ ((w1.alloc o).alloc o') := fun o o' => below_cells ((Below.refl _ _).alloc (Nat.le_refl _) _) (B1 o)
  have e1 : ∀ o, (w1.alloc o).cell? ⟨fb + 1, 1, none⟩ = some (.int .i64 (a' : Int)) := fun o => Lib.cell_of_heap (A1 o) 1
  have e2 : ∀ o, (w1.alloc o).cell? ⟨fb + 1, 2, none⟩ = some (.bool f') := fun o => Lib.cell_of_heap (A1 o) 2
  have b0 : ∀ o, (w1.alloc o).cell? ⟨fb, 0, none⟩ = some (.string ⟨#[]⟩) := fun o => Lib.cell_of_heap (B1 o) 0
  have d0 : ∀ o, (w1.alloc o).frozen? ⟨fb, 0, none⟩ = false := fun o => frozen_of_heap (B1 o)
  have p0 : ∀ o o', ((w1.alloc o).alloc o').cell? ⟨fb, 0, none⟩ = some (.string ⟨#[]⟩) := fun o o' => Lib.cell_of_heap (B2 o o') 0
  have q0 : ∀ o o', ((w1.alloc o).alloc o').frozen? ⟨fb, 0, none⟩ = false := fun o o' => frozen_of_heap (B2 o o')
  have b1 : ∀ o, (w1.alloc o).cell? ⟨fb, 1, none⟩ = some (.string ⟨#[]⟩) := fun o => Lib.cell_of_heap (B1 o) 1
  have d1 : ∀ o, (w1.alloc o).frozen? ⟨fb, 1, none⟩ = false := fun o => frozen_of_heap (B1 o)
  have p1 : ∀ o o', ((w1.alloc o).alloc o').cell? ⟨fb, 1, none⟩ = some (.string ⟨#[]⟩) := fun o o' => Lib.cell_of_heap (B2 o o') 1
  have q1 : ∀ o o', ((w1.alloc o).alloc o').frozen? ⟨fb, 1, none⟩ = false := fun o o' => frozen_of_heap (B2 o o')
  have b2 : ∀ o, (w1.alloc o).cell? ⟨fb, 2, none⟩ = some (.string ⟨#[]⟩) := fun o => Lib.cell_of_heap (B1 o) 2
  have d2 : ∀ o, (w1.alloc o).frozen? ⟨fb, 2, none⟩ = false := fun o => frozen_of_heap (B1 o)
  have p2 : ∀ o o', ((w1.alloc o).alloc o').cell? ⟨fb, 2, none⟩ = some (.string ⟨#[]⟩) := fun o o' => Lib.cell_of_heap (B2 o o') 2
  have q2 : ∀ o o', ((w1.alloc o).alloc o').frozen? ⟨fb, 2, none⟩ = false := fun o o' => frozen_of_heap (B2 o o')
  have b3 : ∀ o, (w1.alloc o).cell? ⟨fb, 3, none⟩ = some (.string ⟨#[]⟩) := fun o => Lib.cell_of_heap (B1 o) 3
  have d3 : ∀ o, (w1.alloc o).frozen? ⟨fb, 3, none⟩ = false := fun o => frozen_of_heap (B1 o)
  have p3 : ∀ o o', ((w1.alloc o).alloc o').cell? ⟨fb, 3, none⟩ = some (.string ⟨#[]⟩) := fun o o' => Lib.cell_of_heap (B2 o o') 3
  have q3 : ∀ o o', ((w1.alloc o).alloc o').frozen? ⟨fb, 3, none⟩ = false := fun o o' => frozen_of_heap (B2 o o')
  have HB1 : Hid (∀ o, NB fb ⟨#[]⟩ ⟨#[]⟩ ⟨#[]⟩ ⟨#[]⟩ (w1.alloc o)) := B1
  have HB2 : Hid (∀ o o', NB fb ⟨#[]⟩ ⟨#[]⟩ ⟨#[]⟩ ⟨#[]⟩ ((w1.alloc o).alloc o')) := B2
  have hsz1 : fb ≤ w1.heap.size := by have := hm1.size; omega
  clear A1 B1 B2 hn1 hm1 hr1 hr0 hn0 hb0 hs0
  have HBl1 : Hid (∀ o (x0 x1 x2 x3 : Value), Below w.heap.size w (((((w1.alloc o).setCell ⟨fb, 0, none⟩ x0).setCell ⟨fb, 1, none⟩ x1).setCell ⟨fb, 2, none⟩ x2).setCell ⟨fb, 3, none⟩ x3)) := fun o x0 x1 x2 x3 => by
    rw [hfb]; exact (((((hb1.alloc hsz1 o).setCell (Nat.le_refl _) _).setCell (Nat.le_refl _) _).setCell (Nat.le_refl _) _).setCell (Nat.le_refl _) _)
  have HBl2 : Hid (∀ o o' (x0 x1 x2 x3 : Value), Below w.heap.size w ((((((w1.alloc o).alloc o').setCell ⟨fb, 0, none⟩ x0).setCell ⟨fb, 1, none⟩ x1).setCell ⟨fb, 2, none⟩ x2).setCell ⟨fb, 3, none⟩ x3)) := fun o o' x0 x1 x2 x3 => by
    rw [hfb]; exact ((((((hb1.alloc hsz1 o).alloc (by simp; omega) o').setCell (Nat.le_refl _) _).setCell (Nat.le_refl _) _).setCell (Nat.le_refl _) _).setCell (Nat.le_refl _) _)
  clear hb1 hsz1
  cases f'
  · rw [if_neg (by simp)] at he
    subst he
    by_cases hlt : a' < s.size
    · have z1 : decide ((a' : Int) < (s.size : Int)) = true := by simp; omega
      go_wp2_with fail
      refine ret24 ((((HB2.out _ _).s0 _).s1 _).s2 _ |>.s3 _) false rfl rfl rfl ⟨k, v, l, x, a', false, ?_, HNR, ha', HBl2.out _ _ _ _ _ _⟩
      unfold wholeV; rw [if_neg (by omega)]
    · have z1 : decide ((a' : Int) < (s.size : Int)) = false := by simp; omega
      go_wp2_with fail
      refine ret24 ((((HB1.out _).s0 _).s1 _).s2 _ |>.s3 _) true rfl rfl rfl ⟨k, v, l, x, a', false, ?_, HNR, ha', HBl1.out _ _ _ _ _⟩
      unfold wholeV; rw [if_pos ⟨rfl, by omega⟩]
  · rw [if_pos rfl] at he
    subst he
    go_wp2_with fail
    refine ret24 ((((HB2.out _ _).s0 _).s1 _).s2 _ |>.s3 _) false rfl rfl rfl ⟨k, v, l, x, a', true, ?_, HNR, ha', HBl2.out _ _ _ _ _ _⟩
    unfold wholeV; rw [if_neg (by simp)]
end Go.Proofs.YtibjhkpgaaapaaaGreatDoor
namespace Go.Proofs.YtibjhkpgaaapaaaGreatDoor
open Go.RowKit Go.Proofs.Sha

theorem ex_list (s : ByteArray) (a n : Nat) : (s.extract a (a + n)).data.toList = (s.data.toList.drop a).take n := by
  conv => lhs; rw [← T_of s, T_extract]
  rw [T_data, Nat.add_sub_cancel_left]
theorem ex_size (s : ByteArray) (a n : Nat) (h : a + n ≤ s.size) : (s.extract a (a + n)).size = n := by
  rw [ByteArray.size_extract]; omega
theorem byteAt_ex (s : ByteArray) (a n i : Nat) (hi : i < n) : byteAt (s.extract a (a + n)) i = (s.data.toList.getD (a + i) 0).toNat := by
  unfold byteAt
  rw [ex_list, List.getD_eq_getElem?_getD, List.getD_eq_getElem?_getD, List.getElem?_take_of_lt hi, List.getElem?_drop]
theorem or_add (x y k : Nat) (h : y < 2 ^ k) : x * 2 ^ k ||| y = x * 2 ^ k + y := by
  rw [Nat.mul_comm, ← Nat.two_pow_add_eq_or_of_lt h]
theorem val1 (b : Nat → Nat) : valTo 1 false b 1 = b 0 := by simp [valTo]
theorem val2 (b : Nat → Nat) (hb : ∀ i, b i < 256) : valTo 2 false b 2 = b 0 * 256 + b 1 := by
  have e : valTo 2 false b 2 = b 0 * 2 ^ 8 ||| b 1 := by simp [valTo]
  rw [e, or_add _ _ 8 (hb 1)]
theorem val4 (b : Nat → Nat) (hb : ∀ i, b i < 256) : valTo 4 true b 4 = b 0 + b 1 * 256 + b 2 * 65536 + b 3 * 16777216 := by
  have h0 := hb 0; have h1 := hb 1; have h2 := hb 2
  have e : valTo 4 true b 4 = ((b 0 ||| b 1 * 2 ^ 8) ||| b 2 * 2 ^ 16) ||| b 3 * 2 ^ 24 := by simp [valTo]
  rw [e, Nat.or_comm (b 0), or_add _ _ 8 (by omega), Nat.or_comm _ (b 2 * 2 ^ 16), or_add _ _ 16 (by omega), Nat.or_comm _ (b 3 * 2 ^ 24), or_add _ _ 24 (by omega)]
  omega

theorem SX2 {s : ByteArray} {a : Nat} {f : Bool} {t : ByteArray} {a' : Nat} {f' : Bool} (h : SX 2 false s a f t a' f') :
    (f = false ∧ pieceOk s a ∧ t = s.extract (a + 2) (a + 2 + szAt s a) ∧ a' = a + 2 + szAt s a ∧ f' = false) ∨ ((f = true ∨ ¬ pieceOk s a) ∧ f' = true) := by
  obtain ⟨t1, a1, f1, h1, h2⟩ := h
  rcases h1 with ⟨hf, hle, ht1, ha1, hf1⟩ | ⟨hf, ht1, ha1, hf1⟩
  · have hv : valTo 2 false (byteAt t1) t1.size = szAt s a := by
      rw [ht1, ex_size s a 2 hle, val2 _ (byteAt_lt _), byteAt_ex s a 2 0 (by omega), byteAt_ex s a 2 1 (by omega)]
      rfl
    rw [hv] at h2
    rcases h2 with ⟨_, hle2, ht, ha', hf'⟩ | ⟨hf2, _, _, hf'⟩
    · subst ha1
      exact .inl ⟨hf, ⟨hle, hle2⟩, ht, ha', hf'⟩
    · subst ha1
      refine .inr ⟨.inr fun hp => ?_, hf'⟩
      rcases hf2 with h | h
      · rw [hf1] at h; cases h
      · exact h hp.2
  · rcases h2 with ⟨hf2, _⟩ | ⟨_, _, _, hf'⟩
    · rw [hf1] at hf2; cases hf2
    · refine .inr ⟨?_, hf'⟩
      rcases hf with h | h
      · exact .inl h
      · exact .inr fun hp => h hp.1
theorem NX1 {s : ByteArray} {a : Nat} {f : Bool} {t : ByteArray} {a' : Nat} {f' : Bool} (h : NX s a f 1 t a' f') :
    (f = false ∧ a + 1 ≤ s.size ∧ valTo 1 false (byteAt t) t.size = (s.data.toList.getD a 0).toNat ∧ a' = a + 1 ∧ f' = false) ∨ ((f = true ∨ ¬ a + 1 ≤ s.size) ∧ f' = true) := by
  rcases h with ⟨hf, hle, ht, ha', hf'⟩ | ⟨hf, _, _, hf'⟩
  · refine .inl ⟨hf, hle, ?_, ha', hf'⟩
    rw [ht, ex_size s a 1 hle, val1, byteAt_ex s a 1 0 (by omega)]
    rfl
  · exact .inr ⟨hf, hf'⟩

/-- Where every step goes through. -/
theorem NR.ok {n : Nat} {s k v l x : ByteArray} {a' : Nat} (h : NR n s 0 false k v l x a' false) :
    ∃ a1 a2 fl, pieceOk s 0 ∧ k = s.extract (0 + 2) (0 + 2 + szAt s 0) ∧ a1 = 0 + 2 + szAt s 0 ∧ pieceOk s a1 ∧ v = s.extract (a1 + 2) (a1 + 2 + szAt s a1) ∧ a2 = a1 + 2 + szAt s a1 ∧ a2 + 1 ≤ s.size ∧ fl = (s.data.toList.getD a2 0).toNat ∧
      a2 + 1 + (if fl &&& 1 = 0 then 0 else n) + (if fl &&& 2 = 0 then 0 else n) ≤ s.size ∧ l = s.extract (a2 + 1) (a2 + 1 + (if fl &&& 1 = 0 then 0 else n)) ∧
      x = s.extract (a2 + 1 + (if fl &&& 1 = 0 then 0 else n)) (a2 + 1 + (if fl &&& 1 = 0 then 0 else n) + (if fl &&& 2 = 0 then 0 else n)) ∧ a' = a2 + 1 + (if fl &&& 1 = 0 then 0 else n) + (if fl &&& 2 = 0 then 0 else n) ∧ fl ≤ 3 ∧ nodeOk k.size v.size l.size x.size (n : Int) = true := by
  obtain ⟨a1, f1, a2, f2, fl, t3, a3, f3, a4, f4, f5, h1, h2, h3, hfl, h4, h5, hf⟩ := h
  have hf5 : f5 = false ∧ ¬ 3 < fl ∧ nodeOk k.size v.size l.size x.size (n : Int) = true := by
    cases f5
    · simp at hf; exact ⟨rfl, by omega, hf.2⟩
    · simp at hf
  rcases h5 with ⟨g4, hle5, hx, ha', _⟩ | ⟨_, _, _, g⟩
  rotate_left
  · rw [hf5.1] at g; cases g
  rcases h4 with ⟨g3, hle4, hl, ha4, _⟩ | ⟨_, _, _, g⟩
  rotate_left
  · rw [g4] at g; cases g
  rcases NX1 h3 with ⟨g2, hle3, hv3, ha3, _⟩ | ⟨_, g⟩
  rotate_left
  · rw [g3] at g; cases g
  rcases SX2 h2 with ⟨g1, hp2, hv, ha2, _⟩ | ⟨_, g⟩
  rotate_left
  · rw [g2] at g; cases g
  rcases SX2 h1 with ⟨_, hp1, hk, ha1, _⟩ | ⟨_, g⟩
  rotate_left
  · rw [g1] at g; cases g
  subst ha4 ha3
  exact ⟨a1, a2, fl, hp1, hk, ha1, hp2, hv, ha2, hle3, by rw [hfl, hv3], hle5, hl, hx, ha', by omega, hf5.2.2⟩
end Go.Proofs.YtibjhkpgaaapaaaGreatDoor
namespace Go.Proofs.YtibjhkpgaaapaaaGreatDoor
open Go.RowKit Go.Proofs.Sha

theorem zq1 {α : Type _} (l : List α) (i : Nat) (a : α) : l.toArray.setIfInBounds i a = (l.set i a).toArray := List.setIfInBounds_toArray l i a
theorem zq2 {α : Type _} {x : α} {xs : List α} {a : α} : (x :: xs).set 0 a = a :: xs := List.set_cons_zero
theorem zq3 {α : Type _} {x : α} {xs : List α} {i : Nat} {a : α} : (x :: xs).set (i + 1) a = x :: xs.set i a := List.set_cons_succ
theorem zq4 {α : Type _} {xs : List α} {i : Nat} (h : i < xs.toArray.size) : xs.toArray[i] = xs[i] := List.getElem_toArray h
theorem zq5 {α : Type _} (a : α) (bs : List α) (h : 0 < (a :: bs).length) : (a :: bs)[0] = a := List.getElem_cons_zero a bs h
theorem zq6 {α : Type _} (a : α) (bs : List α) (i : Nat) (h : i + 1 < (a :: bs).length) : (a :: bs)[i + 1] = bs[i]'(Nat.lt_of_succ_lt_succ h) := List.getElem_cons_succ a bs i h
theorem tkH {P : Program} {md : Region.Mode} {ops : Array Oper} {Q : Exit → Act → World → Prop} {S : World → Prop} {i : Nat} {oi : Oper} {v : Value} {fuel : Nat} {listed : Array Bool} {a : Act} {w : World} (hi : ops[i]? = some oi) (hy : YieldsIf P ops S oi v a)
    (h : wpAnyH P md ops Q S fuel (listed.setIfInBounds i true) (a.put oi.dst v) w)
    (hs : Region.noSelect ops = true := by kernel_rfl) (hf : Region.free md ops listed i = true := by kernel_rfl) (hr : (Region.ready md ops listed).contains i = true := by kernel_rfl)
    (hQ : ∀ c a w, Q (.panic c) (a.put oi.dst v) w → Q (.panic c) a w := by exact fun _ _ _ h => h) (hS : S w := by assumption) : wpAnyH P md ops Q S (fuel + 1) listed a w := wpAnyH_take hi hs hf hr hQ hy hS h
theorem zq {α : Type _} : (∀ (l : List α) (i : Nat) (a : α), l.toArray.setIfInBounds i a = (l.set i a).toArray) ∧ (∀ (x : α) xs a, (x :: xs).set 0 a = a :: xs) ∧ (∀ (x : α) xs i a, (x :: xs).set (i + 1) a = x :: xs.set i a) ∧ (∀ (xs : List α) i (h : i < xs.toArray.size), xs.toArray[i] = xs[i]) ∧ (∀ (a : α) bs (h : 0 < (a :: bs).length), (a :: bs)[0] = a) ∧ (∀ (a : α) bs i (h : i + 1 < (a :: bs).length), (a :: bs)[i + 1] = bs[i]'(Nat.lt_of_succ_lt_succ h)) :=
  ⟨zq1, fun _ _ _ => zq2, fun _ _ _ _ => zq3, fun _ _ => zq4, zq5, zq6⟩
theorem tkI {P : Program} {md : Region.Mode} {ops : Array Oper} {Q : Exit → Act → World → Prop} {S : World → Prop} (i : Nat) {oi : Oper} {v : Value} {fuel : Nat} {listed : Array Bool} {a : Act} {w : World}
    (h : wpAnyH P md ops Q S fuel (listed.setIfInBounds i true) (a.put oi.dst v) w) (hi : ops[i]? = some oi := by rfl) (hy : YieldsIf P ops S oi v a := by refine Or.inl ⟨by rfl, ?_⟩; intro w hSw; go_simp; rfl)
    (hs : Region.noSelect ops = true := by kernel_rfl) (hf : Region.free md ops listed i = true := by kernel_rfl) (hr : (Region.ready md ops listed).contains i = true := by kernel_rfl)
    (hQ : ∀ c a w, Q (.panic c) (a.put oi.dst v) w → Q (.panic c) a w := by exact fun _ _ _ h => h) (hS : S w := by assumption) : wpAnyH P md ops Q S (fuel + 1) listed a w := tkH hi hy h hs hf hr hQ hS
theorem rdH {P : Program} {md : Region.Mode} {ops : Array Oper} {Q : Exit → Act → World → Prop} {S : World → Prop} (i : Nat) {o : Oper} {fuel : Nat} {listed : Array Bool} {a : Act} {w : World}
    (h : ∀ K' : Act → World → Prop, Shut (∀ a w, S w → (S w → wpAnyH P md ops Q S fuel (listed.setIfInBounds i true) a w) → K' a w) → if Region.wanted o (yielded ops a.tmps) = true then Oper.wp P o a w K' Q else K' (a.put o.dst undef) w)
    (hr : Region.ready md ops listed = [i] := by kernel_rfl) (ho : ops[i]? = some o := by rfl) : wpAnyH P md ops Q S (fuel + 1) listed a w := wpAnyH_ready hr (by simp) (AllReadyH.cons ho h AllReadyH.nil)
end Go.Proofs.YtibjhkpgaaapaaaGreatDoor
