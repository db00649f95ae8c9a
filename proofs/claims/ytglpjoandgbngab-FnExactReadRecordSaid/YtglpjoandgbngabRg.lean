import Derived.Test.YtglpjoandgbngabRf
namespace Go.Proofs.Ytglpjoandgbngab
open Go.RowKit Go.Proofs.Sha

theorem fin4 {w W : World} {fb r : Nat} {s : ByteArray} {a : Nat} {f : Bool} {y0 y1 y2 y3 k v l x : ByteArray} (hb : NB fb y0 y1 y2 y3 W) (hr : Rd r s a f W) (hm : Mv r w W) (hsz : w.heap.size = fb) (hl : r < fb) :
    NB fb k v l x ((((W.setCell ⟨fb, 0, none⟩ (.string k)).setCell ⟨fb, 1, none⟩ (.string v)).setCell ⟨fb, 2, none⟩ (.string l)).setCell ⟨fb, 3, none⟩ (.string x)) ∧
    Rd r s a f ((((W.setCell ⟨fb, 0, none⟩ (.string k)).setCell ⟨fb, 1, none⟩ (.string v)).setCell ⟨fb, 2, none⟩ (.string l)).setCell ⟨fb, 3, none⟩ (.string x)) ∧
    Mv r w ((((W.setCell ⟨fb, 0, none⟩ (.string k)).setCell ⟨fb, 1, none⟩ (.string v)).setCell ⟨fb, 2, none⟩ (.string l)).setCell ⟨fb, 3, none⟩ (.string x)) :=
  ⟨(((hb.s0 k).s1 v).s2 l).s3 x, (((hr.other (by omega)).other (by omega)).other (by omega)).other (by omega), (((hm.other hsz (by omega)).other hsz (by omega)).other hsz (by omega)).other hsz (by omega)⟩
theorem ret36 {w : World} {g : Nat} {k v l r : ByteArray} (h : NB g k v l r w) {a : Act} {R : Ending → World → Prop} (h4 : a.tmps.getD 4 undef = .pointer (some ⟨g, 0, none⟩)) (hd : a.defers = [])
    (hR : R (.returned (nodeV k v l r)) w) : bodyPost Try.prog Try.f36 R .ret a w := by
  have c0 : w.cell? ⟨g, 0, none⟩ = some (.string k) := Lib.cell_of_heap h 0
  have c1 : w.cell? ⟨g, 1, none⟩ = some (.string v) := Lib.cell_of_heap h 1
  have c2 : w.cell? ⟨g, 2, none⟩ = some (.string l) := Lib.cell_of_heap h 2
  have c3 : w.cell? ⟨g, 3, none⟩ = some (.string r) := Lib.cell_of_heap h 3
  have h4' : a.tmps[4]?.getD undef = .pointer (some ⟨g, 0, none⟩) := by simpa using h4
  exact bodyPost_ret (v := nodeV k v l r) (by simp [results, Try.results36, go_sem, h4', asAddr, c0, c1, c2, c3]) hd hR

set_option maxRecDepth 100000 in
theorem rnode (n : Nat) (r : Nat) (s : ByteArray) (a : Nat) (f : Bool) (w : World) (h : Rd r s a f w) (ha : a ≤ s.size) (hs : s.size ≤ 1048576) (hn : n ≤ 32) :
    Calls Try.prog 36 #[.pointer (some ⟨r, 0, none⟩), .iface 42 (.agg #[.int .i64 (n : Int)])] w fun e w' => ∃ (k v l x : ByteArray) (a' : Nat) (f' : Bool), e = .returned (if f' = true then nodeV ⟨#[]⟩ ⟨#[]⟩ ⟨#[]⟩ ⟨#[]⟩ else nodeV k v l x) ∧ Hid (NR n s a f k v l x a' f') ∧ a' ≤ s.size ∧ Rd r s a' f' w' ∧ Mv r w w' := by
  have hmt : ∀ w : World, (method 269 42 (.agg #[.int .i64 (n : Int)]) "loop.example/s03048/impl.take").run Try.prog w = .ok (59, .agg #[.int .i64 (n : Int)]) w := fun _ => by kernel_rfl
  have HC : Hid (∀ w', Rd r s a f w' → Calls Try.prog 59 #[.agg #[.int .i64 (n : Int)], .pointer (some ⟨r, 0, none⟩)] w' fun e w'' => ∃ (k v l x : ByteArray) (a' : Nat) (f' : Bool), e = .returned (nodeV k v l x) ∧ Hid (NR n s a f k v l x a' f') ∧ a' ≤ s.size ∧ k.size ≤ s.size ∧ v.size ≤ s.size ∧ l.size ≤ s.size ∧ x.size ≤ s.size ∧ Rd r s a' f' w'' ∧ Mv r w' w'') := fun w' h' => node_take n r s a f w' h' ha hs hn
  have hlt := h.lt
  obtain ⟨fb, hfb⟩ : ∃ fb, w.heap.size = fb := ⟨_, rfl⟩
  go_enter Try.func36, Try.ntmps36
  go_wp2_with fail
  refine (HC.out _ (h.alloc _)).mono ?_
  rintro e w1 ⟨k, v, l, x, a', f', rfl, HNR, ha', hk, hv, hl, hx, hr1, hm1⟩
  have hn1 : NB fb ⟨#[]⟩ ⟨#[]⟩ ⟨#[]⟩ ⟨#[]⟩ w1 := by rw [← hfb]; exact hm1.cells (heap_alloc_new _ _) (by omega)
  have hmw : Mv r w w1 := ((Mv.refl r w).alloc _).trans hm1
  have A1 : ∀ o, (w1.alloc o).heap[r]? = some (.cells #[.string s, .int .i64 (a' : Int), .bool f'] 52) := fun o => hr1.alloc o
  have B1 : ∀ o, NB fb ⟨#[]⟩ ⟨#[]⟩ ⟨#[]⟩ ⟨#[]⟩ (w1.alloc o) := fun o => below_cells ((Below.refl _ _).alloc (Nat.le_refl _) _) hn1
  have B2 : ∀ o o', NB fb ⟨#[]⟩ ⟨#[]⟩ ⟨#[]⟩ ⟨#[]⟩ ((w1.alloc o).alloc o') := fun o o' => below_cells ((Below.refl _ _).alloc (Nat.le_refl _) _) (B1 o)
  have e1 : ∀ o, (w1.alloc o).cell? ⟨r, 2, none⟩ = some (.bool f') := fun o => Lib.cell_of_heap (A1 o) 2
  have b0 : ∀ o, (w1.alloc o).cell? ⟨fb, 0, none⟩ = some (.string ⟨#[]⟩) := fun o => Lib.cell_of_heap (B1 o) 0
  have d0 : ∀ o, (w1.alloc o).frozen? ⟨fb, 0, none⟩ = false := fun o => frozen_of_heap (B1 o)
  have p0 : ∀ o o', ((w1.alloc o).alloc o').cell? ⟨fb, 0, none⟩ = some (.string ⟨#[]⟩) := fun o o' => Lib.cell_of_heap (B2 o o') 0
  have q0 : ∀ o o', ((w1.alloc o).alloc o').frozen? ⟨fb, 0, none⟩ = false := fun o o' => frozen_of_heap (B2 o o')
  have b1 : ∀ o, (w1.alloc o).cell? ⟨fb, 1, none⟩ = some (.string ⟨#[]⟩) := fun o => Lib.cell_of_heap (B1 o) 1
  have d1 : ∀ o, (w1.alloc o).frozen? ⟨fb, 1, none⟩ = false := fun o => frozen_of_heap (B1 o)
  have p1 : ∀ o o', ((w1.alloc o).alloc o').cell? ⟨fb, 1, none⟩ = some (.string ⟨#[]⟩) := fun o o' => Lib.cell_of_heap (B2 o o') 1
  have q1 : ∀ o o', ((w1.alloc o).alloc o').frozen? ⟨fb, 1, none⟩ = false := fun o o' => frozen_of_heap (B2 o o')
  have b2 : ∀ o, (w1.alloc o).cell? ⟨fb, 2, none⟩ = some (.string ⟨#[]⟩) := fun o => Lib.cell_of_heap (B1 o) 2
  have d2 : ∀ o, (w1.alloc o).frozen? ⟨fb, 2, none⟩ = false := fun o => frozen_of_heap (B1 o)
  have p2 : ∀ o o', ((w1.alloc o).alloc o').cell? ⟨fb, 2, none⟩ = some (.string ⟨#[]⟩) := fun o o' => Lib.cell_of_heap (B2 o o') 2
  have q2 : ∀ o o', ((w1.alloc o).alloc o').frozen? ⟨fb, 2, none⟩ = false := fun o o' => frozen_of_heap (B2 o o')
  have b3 : ∀ o, (w1.alloc o).cell? ⟨fb, 3, none⟩ = some (.string ⟨#[]⟩) := fun o => Lib.cell_of_heap (B1 o) 3
  have d3 : ∀ o, (w1.alloc o).frozen? ⟨fb, 3, none⟩ = false := fun o => frozen_of_heap (B1 o)
  have p3 : ∀ o o', ((w1.alloc o).alloc o').cell? ⟨fb, 3, none⟩ = some (.string ⟨#[]⟩) := fun o o' => Lib.cell_of_heap (B2 o o') 3
  have q3 : ∀ o o', ((w1.alloc o).alloc o').frozen? ⟨fb, 3, none⟩ = false := fun o o' => frozen_of_heap (B2 o o')
  have HA : Hid (∀ o, (w1.alloc o).heap[r]? = some (.cells #[.string s, .int .i64 (a' : Int), .bool f'] 52)) := A1
  have HB1 : Hid (∀ o, NB fb ⟨#[]⟩ ⟨#[]⟩ ⟨#[]⟩ ⟨#[]⟩ (w1.alloc o)) := B1
  have HB2 : Hid (∀ o o', NB fb ⟨#[]⟩ ⟨#[]⟩ ⟨#[]⟩ ⟨#[]⟩ ((w1.alloc o).alloc o')) := B2
  clear A1 B1 B2 hn1 hm1 HC hr1
  cases f'
  · go_wp2_with fail
    have hF := fun o => fin4 (k := k) (v := v) (l := l) (x := x) (HB1.out o) (HA.out o) (hmw.alloc o) hfb (by omega)
    exact ret36 (hF _).1 rfl rfl ⟨k, v, l, x, a', false, rfl, HNR, ha', (hF _).2.1, (hF _).2.2⟩
  · go_wp2_with fail
    have hF := fun o o' => fin4 (k := ⟨#[]⟩) (v := ⟨#[]⟩) (l := ⟨#[]⟩) (x := ⟨#[]⟩) (HB2.out o o') (Rd.alloc (HA.out o) o') ((hmw.alloc o).alloc o') hfb (by omega)
    exact ret36 (hF _ _).1 rfl rfl ⟨k, v, l, x, a', true, rfl, HNR, ha', (hF _ _).2.1, (hF _ _).2.2⟩

end Go.Proofs.Ytglpjoandgbngab
