import Derived.Test.YtibjhkpgaaapaaaGreatDoorZxbv
namespace Go.Proofs.YtibjhkpgaaapaaaGreatDoor
open Go.RowKit Go.Proofs.Sha

theorem sh_leaf {y : ByteArray} {x : Nat} {t : PT} (h : ShAt y x t) (hl : isF t = false) : ∃ c : UInt8, y.data.toList.getD x 0 = c ∧ ((c.toNat : Int) != 70) = true ∧ x < y.size := by
  have hle := h.le
  have hlen := shapeP_len t
  have hg := h.get 0 (by omega)
  rw [Nat.add_zero] at hg
  refine ⟨_, hg, ?_, by omega⟩
  cases t with
  | e => rfl
  | s _ => rfl
  | f _ _ _ _ => cases hl
theorem sh_full {y : ByteArray} {x : Nat} {k v : ByteArray} {l r : PT} (h : ShAt y x (.f k v l r)) : y.data.toList.getD x 0 = 70 ∧ x < y.size := by
  have hle := h.le
  have hlen := shapeP_len (.f k v l r)
  have hg := h.get 0 (by omega)
  rw [Nat.add_zero] at hg
  exact ⟨hg, by omega⟩
set_option maxRecDepth 100000 in
set_option maxHeartbeats 1000000 in
theorem seek_leaf (n p1 p2 : Int) (x y i j : Nat) (h1 h2 y1 y2 : ByteArray) (a1 a2 : Option Addr) (l1 l2 c1 c2 : Nat) (s t : PT) (w : World) (q1 : ShAt y1 x s) (q2 : ShAt y2 y t) (hl : (isF s && isF t) = false) : Calls Tryz.prog 38 #[.agg #[.string h1, .slice a1 l1 c1, .string y1, .int .i64 p1], .agg #[.string h2, .slice a2 l2 c2, .string y2, .int .i64 p2], .int .i64 (x : Int), .int .i64 (y : Int), .int .i64 (i : Int), .int .i64 (j : Int), .int .i64 n] w fun e w' => e = .returned (.tuple #[.int .i64 (-1), .int .i64 (-1)]) ∧ Below w.heap.size w w' := by
  have hbA : Below w.heap.size w ((w.alloc (.cells #[.string h1, .slice a1 l1 c1, .string y1, .int .i64 p1] 65)).alloc (.cells #[.string h2, .slice a2 l2 c2, .string y2, .int .i64 p2] 65)) := ((Below.refl _ _).alloc (Nat.le_refl _) _).alloc (by simp) _
  cases hs : isF s with
  | false =>
    obtain ⟨c, hg, hc, hx⟩ := sh_leaf q1 hs
    have hbg := bget y1 x hx
    rw [hg] at hbg
    have z1 : (0 : Int) ≤ (x : Int) := by omega
    have z2 : (x : Int) < (y1.size : Int) := by omega
    clear q1 q2 hl hs hg
    go_enter Tryz.func38, Tryz.ntmps38
    go_wp2_with fail
    go_ret2
    exact ⟨rfl, hbA⟩
  | true =>
    have ht : isF t = false := by rw [hs] at hl; exact hl
    cases s with
    | e => cases hs
    | s _ => cases hs
    | f k v l r =>
      obtain ⟨hg, hx⟩ := sh_full q1
      obtain ⟨c, hg2, hc, hx2⟩ := sh_leaf q2 ht
      have hbg := bget y1 x hx
      rw [hg] at hbg
      have hbg2 := bget y2 y hx2
      rw [hg2] at hbg2
      have z1 : (0 : Int) ≤ (x : Int) := by omega
      have z2 : (x : Int) < (y1.size : Int) := by omega
      have z3 : (0 : Int) ≤ (y : Int) := by omega
      have z4 : (y : Int) < (y2.size : Int) := by omega
      clear q1 q2 hl hs hg ht hg2
      go_enter Tryz.func38, Tryz.ntmps38
      go_wp2_with fail
      go_ret2
      exact ⟨rfl, hbA⟩
/-- What is known when both are full. -/
structure SK (wd : Nat) (y1 : ByteArray) (n1s : List NodeT) (x i : Nat) (s : PT) : Prop where
  sh : ShAt y1 x s
  nd : NdAt wd n1s i s
  sm : smP wd s
set_option maxRecDepth 100000 in
set_option maxHeartbeats 2000000 in
theorem seek_diff (wd : Nat) (p1 p2 : Int) (x y i j : Nat) (h1 h2 y1 y2 : ByteArray) (a1 a2 : Option Addr) (n1s n2s : List NodeT) (c1 c2 : Nat) (k v k2 v2 : ByteArray) (l r l2 r2 : PT) (w : World) (q1 : SK wd y1 n1s x i (.f k v l r)) (q2 : SK wd y2 n2s y j (.f k2 v2 l2 r2)) (m1 : NArg a1 n1s w) (m2 : NArg a2 n2s w) (hne : encF wd k v l r ≠ encF wd k2 v2 l2 r2) : Calls Tryz.prog 38 #[.agg #[.string h1, .slice a1 n1s.length c1, .string y1, .int .i64 p1], .agg #[.string h2, .slice a2 n2s.length c2, .string y2, .int .i64 p2], .int .i64 (x : Int), .int .i64 (y : Int), .int .i64 (i : Int), .int .i64 (j : Int), .int .i64 (wd : Int)] w fun e w' => e = .returned (.tuple #[.int .i64 (i : Int), .int .i64 (j : Int)]) ∧ Below w.heap.size w w' := by
  obtain ⟨hg, hx⟩ := sh_full q1.sh
  obtain ⟨hg2, hx2⟩ := sh_full q2.sh
  obtain ⟨t1, t2⟩ := q1.nd.top
  obtain ⟨t3, t4⟩ := q2.nd.top
  have hbg := bget y1 x hx
  rw [hg] at hbg
  have hbg2 := bget y2 y hx2
  rw [hg2] at hbg2
  have z1 : (0 : Int) ≤ (x : Int) := by omega
  have z2 : (x : Int) < (y1.size : Int) := by omega
  have z3 : (0 : Int) ≤ (y : Int) := by omega
  have z4 : (y : Int) < (y2.size : Int) := by omega
  have z5 : (0 : Int) ≤ (i : Int) := by omega
  have z6 : (0 : Int) ≤ (j : Int) := by omega
  obtain ⟨b1, rfl, hb1, hc1⟩ := m1.cells (by omega)
  obtain ⟨b2, rfl, hb2, hc2⟩ := m2.cells (by omega)
  obtain ⟨d0, d1, d2, d3⟩ := hc1 i t1
  obtain ⟨f0, f1, f2, f3⟩ := hc2 j t3
  rw [t2] at d0 d1 d2 d3
  rw [t4] at f0 f1 f2 f3
  obtain ⟨N1, hN1⟩ : ∃ N, n1s.length = N := ⟨_, rfl⟩
  obtain ⟨N2, hN2⟩ : ∃ N, n2s.length = N := ⟨_, rfl⟩
  rw [hN1] at t1 ⊢
  rw [hN2] at t3 ⊢
  have z7 : (i : Int) < (N1 : Int) := by omega
  have z8 : (j : Int) < (N2 : Int) := by omega
  have e1 := q1.sm
  have e2 := q2.sm
  obtain ⟨⟨e10, e11, e12, e13⟩, _, _⟩ := e1
  obtain ⟨⟨e20, e21, e22, e23⟩, _, _⟩ := e2
  have HE1 : Hid (∀ W, Calls Tryz.prog 40 #[.agg #[.string k, .string v, .string (hashP wd l), .string (hashP wd r)], .int .i64 (wd : Int)] W fun e W' => e = .returned (.string (encF wd k v l r)) ∧ Below W.heap.size W W') := fun W => (enc_any k v (hashP wd l) (hashP wd r) wd W e10 e11 e12 e13).mono (by rintro e w' ⟨t, rfl, ht, hb⟩; exact ⟨by rw [ht.out]; rfl, hb⟩)
  have HE2 : Hid (∀ W, Calls Tryz.prog 40 #[.agg #[.string k2, .string v2, .string (hashP wd l2), .string (hashP wd r2)], .int .i64 (wd : Int)] W fun e W' => e = .returned (.string (encF wd k2 v2 l2 r2)) ∧ Below W.heap.size W W') := fun W => (enc_any k2 v2 (hashP wd l2) (hashP wd r2) wd W e20 e21 e22 e23).mono (by rintro e w' ⟨t, rfl, ht, hb⟩; exact ⟨by rw [ht.out]; rfl, hb⟩)
  have hEF : ((encF wd k v l r).toList == (encF wd k2 v2 l2 r2).toList) = false := str_ne hne
  clear hne
  generalize encF wd k v l r = E1 at HE1 hEF
  generalize encF wd k2 v2 l2 r2 = E2 at HE2 hEF
  generalize hashP wd l = kl at HE1 d2
  generalize hashP wd r = kr at HE1 d3
  generalize hashP wd l2 = kl2 at HE2 f2
  generalize hashP wd r2 = kr2 at HE2 f3
  have hD : Hid (∀ W, Below w.heap.size w W → (W.cell? ⟨b1, i * 4, none⟩ = some (.string k) ∧ W.cell? ⟨b1, i * 4 + 1, none⟩ = some (.string v) ∧ W.cell? ⟨b1, i * 4 + 2, none⟩ = some (.string kl) ∧ W.cell? ⟨b1, i * 4 + 3, none⟩ = some (.string kr)) ∧ (W.cell? ⟨b2, j * 4, none⟩ = some (.string k2) ∧ W.cell? ⟨b2, j * 4 + 1, none⟩ = some (.string v2) ∧ W.cell? ⟨b2, j * 4 + 2, none⟩ = some (.string kl2) ∧ W.cell? ⟨b2, j * 4 + 3, none⟩ = some (.string kr2))) := fun W hW => by
    have g1 : ∀ o, W.cell? ⟨b1, o, none⟩ = w.cell? ⟨b1, o, none⟩ := fun o => by unfold World.cell?; simp only [hW.block b1 hb1]
    have g2 : ∀ o, W.cell? ⟨b2, o, none⟩ = w.cell? ⟨b2, o, none⟩ := fun o => by unfold World.cell?; simp only [hW.block b2 hb2]
    simp only [g1, g2]
    exact ⟨⟨d0, d1, d2, d3⟩, f0, f1, f2, f3⟩
  clear q1 q2 hg hg2 hc1 hc2 m1 m2 t2 t4 d0 d1 d2 d3 f0 f1 f2 f3 e10 e11 e12 e13 e20 e21 e22 e23 hN1 hN2
  have hb0 : Below w.heap.size w ((w.alloc (.cells #[.string h1, .slice (some ⟨b1, 0, none⟩) N1 c1, .string y1, .int .i64 p1] 65)).alloc (.cells #[.string h2, .slice (some ⟨b2, 0, none⟩) N2 c2, .string y2, .int .i64 p2] 65)) := ((Below.refl _ _).alloc (Nat.le_refl _) _).alloc (by simp) _
  have nB := heap_alloc_new (w.alloc (.cells #[.string h1, .slice (some ⟨b1, 0, none⟩) N1 c1, .string y1, .int .i64 p1] 65)) (.cells #[.string h2, .slice (some ⟨b2, 0, none⟩) N2 c2, .string y2, .int .i64 p2] 65)
  have nA := (Below.heap_alloc (w.alloc (.cells #[.string h1, .slice (some ⟨b1, 0, none⟩) N1 c1, .string y1, .int .i64 p1] 65)) (.cells #[.string h2, .slice (some ⟨b2, 0, none⟩) N2 c2, .string y2, .int .i64 p2] 65) w.heap.size (by simp)).trans (heap_alloc_new w (.cells #[.string h1, .slice (some ⟨b1, 0, none⟩) N1 c1, .string y1, .int .i64 p1] 65))
  rw [World.size_alloc] at nB
  obtain ⟨ga, hga⟩ : ∃ ga, w.heap.size = ga := ⟨_, rfl⟩
  obtain ⟨gb, hgb⟩ : ∃ gb, ga + 1 = gb := ⟨_, rfl⟩
  rw [hga] at nA nB
  rw [hgb] at nB
  go_enter Tryz.func38, Tryz.ntmps38
  go_upto_region 1 with fail
  try rw [hga]
  try rw [hgb]
  generalize (w.alloc (.cells #[.string h1, .slice (some ⟨b1, 0, none⟩) N1 c1, .string y1, .int .i64 p1] 65)).alloc (.cells #[.string h2, .slice (some ⟨b2, 0, none⟩) N2 c2, .string y2, .int .i64 p2] 65) = W0 at hb0 nA nB ⊢
  have a1' := Lib.cell_of_heap nA 1
  have a2' := Lib.cell_of_heap nA 2
  have a3' := Lib.cell_of_heap nB 1
  have a4' := Lib.cell_of_heap nB 2
  obtain ⟨⟨d0, d1, d2, d3⟩, f0, f1, f2, f3⟩ := hD.out W0 hb0
  go_upto_region 4 with fail
  clear a1' a2' a3' a4' d0 d1 d2 d3 f0 f1 f2 f3
  have hbB : Below W0.heap.size W0 (W0.alloc (.cells #[.string k, .string v, .string kl, .string kr] 73)) := (Below.refl _ _).alloc (Nat.le_refl _) _
  have nC := heap_alloc_new W0 (.cells #[.string k, .string v, .string kl, .string kr] 73)
  have nA1 := below_cells hbB nA
  have nB1 := below_cells hbB nB
  have hb1' := hb0.trans (hbB.mono hb0.size)
  obtain ⟨gc, hgc⟩ : ∃ gc, W0.heap.size = gc := ⟨_, rfl⟩
  rw [hgc] at nC
  try rw [hgc]
  clear hbB nA nB
  generalize W0.alloc (.cells #[.string k, .string v, .string kl, .string kr] 73) = W1 at hb1' nC nA1 nB1 ⊢
  have a1' := Lib.cell_of_heap nA1 1
  have a3' := Lib.cell_of_heap nB1 1
  obtain ⟨⟨d0, d1, d2, d3⟩, f0, f1, f2, f3⟩ := hD.out W1 hb1'
  go_upto_region 5 with fail
  clear a1' a3' d0 d1 d2 d3 f0 f1 f2 f3
  have hbB : Below W1.heap.size W1 (W1.alloc (.cells #[.string k2, .string v2, .string kl2, .string kr2] 73)) := (Below.refl _ _).alloc (Nat.le_refl _) _
  have nD := heap_alloc_new W1 (.cells #[.string k2, .string v2, .string kl2, .string kr2] 73)
  have nA2 := below_cells hbB nA1
  have nB2 := below_cells hbB nB1
  have nC2 := below_cells hbB nC
  have hb2' := hb1'.trans (hbB.mono hb1'.size)
  obtain ⟨gd, hgd⟩ : ∃ gd, W1.heap.size = gd := ⟨_, rfl⟩
  rw [hgd] at nD
  try rw [hgd]
  clear hbB nA1 nB1 nC hgd hgc hb0 hb1'
  generalize W1.alloc (.cells #[.string k2, .string v2, .string kl2, .string kr2] 73) = W2 at hb2' nC2 nA2 nB2 nD ⊢
  have hC : Hid (∀ W, Below W2.heap.size W2 W → W.cell? ⟨gc, 0, none⟩ = some (.string k) ∧ W.cell? ⟨gc, 1, none⟩ = some (.string v) ∧ W.cell? ⟨gc, 2, none⟩ = some (.string kl) ∧ W.cell? ⟨gc, 3, none⟩ = some (.string kr) ∧ W.cell? ⟨gd, 0, none⟩ = some (.string k2) ∧ W.cell? ⟨gd, 1, none⟩ = some (.string v2) ∧ W.cell? ⟨gd, 2, none⟩ = some (.string kl2) ∧ W.cell? ⟨gd, 3, none⟩ = some (.string kr2)) := fun W hW => ⟨Lib.cell_of_heap (below_cells hW nC2) 0, Lib.cell_of_heap (below_cells hW nC2) 1, Lib.cell_of_heap (below_cells hW nC2) 2, Lib.cell_of_heap (below_cells hW nC2) 3, Lib.cell_of_heap (below_cells hW nD) 0, Lib.cell_of_heap (below_cells hW nD) 1, Lib.cell_of_heap (below_cells hW nD) 2, Lib.cell_of_heap (below_cells hW nD) 3⟩
  go_region_held3 (fun W => W.cell? ⟨gc, 0, none⟩ = some (.string k) ∧ W.cell? ⟨gc, 1, none⟩ = some (.string v) ∧ W.cell? ⟨gc, 2, none⟩ = some (.string kl) ∧ W.cell? ⟨gc, 3, none⟩ = some (.string kr) ∧ W.cell? ⟨gd, 0, none⟩ = some (.string k2) ∧ W.cell? ⟨gd, 1, none⟩ = some (.string v2) ∧ W.cell? ⟨gd, 2, none⟩ = some (.string kl2) ∧ W.cell? ⟨gd, 3, none⟩ = some (.string kr2)) (first | exact hC.out _ hx4 | exact hC.out _ hx3 | exact hC.out _ (Below.refl _ _) | exact hC.out _ (Below.refl _ _).drew) (first | (go_at_call_of 40 (Value.agg #[.string k, .string v, .string kl, .string kr]); refine (HE1.out _).mono ?_; rintro e W3 ⟨rfl, hb3⟩; have hx3 : Below W2.heap.size W2 W3 := (Below.refl W2.heap.size W2).drew.trans hb3) | (go_at_call_of 40 (Value.agg #[.string k2, .string v2, .string kl2, .string kr2]); refine (HE2.out _).mono ?_; rintro e W4 ⟨rfl, hb4⟩; have hx4 : Below W2.heap.size W2 W4 := hx3.trans (hb4.mono hx3.size)))
  have hw4 := hb2'.trans (hx4.mono hb2'.size)
  have nA4 := below_cells hx4 nA2
  have nB4 := below_cells hx4 nB2
  clear hC hx3 hx4 hb3 hb4 nC2 nD nA2 nB2 hb2' HE1 HE2
  go_wp2_with fail
  go_ret2
  exact ⟨rfl, hw4⟩
theorem wr_two (a b c : Nat) (h : a + b = c) (hc : c ≤ 1000000) : wrap64 ((a : Int) + (b : Int)) = (c : Int) ∧ IntKind.i64.wrap ((a : Int) + (b : Int)) = (c : Int) := by
  have e : (a : Int) + (b : Int) = (c : Int) := by omega
  rw [e]
  exact ⟨wr_in _ (by omega), wrapI_in _ (by omega)⟩
theorem wr_one (a c : Nat) (h : a + 1 = c) (hc : c ≤ 1000000) : wrap64 ((a : Int) + 1) = (c : Int) ∧ IntKind.i64.wrap ((a : Int) + 1) = (c : Int) := wr_two a 1 c h hc
set_option maxRecDepth 100000 in
set_option maxHeartbeats 2000000 in
theorem seek_go (wd : Nat) (p1 p2 : Int) (x y i j : Nat) (h1 h2 y1 y2 : ByteArray) (a1 a2 : Option Addr) (n1s n2s : List NodeT) (c1 c2 : Nat) (k v k2 v2 : ByteArray) (l r l2 r2 : PT) (w : World) (q1 : SK wd y1 n1s x i (.f k v l r)) (q2 : SK wd y2 n2s y j (.f k2 v2 l2 r2)) (m1 : NArg a1 n1s w) (m2 : NArg a2 n2s w) (N1 N2 : Nat) (hN1 : n1s.length = N1) (hN2 : n2s.length = N2) (hy1 : y1.size ≤ 100000) (hy2 : y2.size ≤ 100000) (heq : encF wd k v l r = encF wd k2 v2 l2 r2) (r1 : Option (Nat × Nat)) (RV : Value) (u2 v2' : Int) (hS : Hid (∀ p q, r1 = some (p, q) → RV = .tuple #[.int .i64 ((p : Nat) : Int), .int .i64 ((q : Nat) : Int)])) (hN : Hid (r1 = none → RV = .tuple #[.int .i64 u2, .int .i64 v2'])) (x' y' i' j' xs ys is js : Nat) (ex : x + 1 = x') (ey : y + 1 = y') (ei : i + 1 = i') (ej : j + 1 = j') (exs : x' + (shapeP l).length = xs) (eys : y' + (shapeP l2).length = ys) (eis : i' + cP l = is) (ejs : j' + cP l2 = js)
    (HL : Hid (∀ W, Below w.heap.size w W → Calls Tryz.prog 38 #[.agg #[.string h1, .slice a1 N1 c1, .string y1, .int .i64 p1], .agg #[.string h2, .slice a2 N2 c2, .string y2, .int .i64 p2], .int .i64 (x' : Int), .int .i64 (y' : Int), .int .i64 (i' : Int), .int .i64 (j' : Int), .int .i64 (wd : Int)] W fun e W' => e = .returned (seekV r1) ∧ Below W.heap.size W W'))
    (HR : Hid (∀ W, Below w.heap.size w W → Calls Tryz.prog 38 #[.agg #[.string h1, .slice a1 N1 c1, .string y1, .int .i64 p1], .agg #[.string h2, .slice a2 N2 c2, .string y2, .int .i64 p2], .int .i64 (xs : Int), .int .i64 (ys : Int), .int .i64 (is : Int), .int .i64 (js : Int), .int .i64 (wd : Int)] W fun e W' => e = .returned (.tuple #[.int .i64 u2, .int .i64 v2']) ∧ Below W.heap.size W W')) : Calls Tryz.prog 38 #[.agg #[.string h1, .slice a1 N1 c1, .string y1, .int .i64 p1], .agg #[.string h2, .slice a2 N2 c2, .string y2, .int .i64 p2], .int .i64 (x : Int), .int .i64 (y : Int), .int .i64 (i : Int), .int .i64 (j : Int), .int .i64 (wd : Int)] w fun e w' => e = .returned RV ∧ Below w.heap.size w w' := by
  obtain ⟨hg, hx⟩ := sh_full q1.sh
  obtain ⟨hg2, hx2⟩ := sh_full q2.sh
  obtain ⟨t1, t2⟩ := q1.nd.top
  obtain ⟨t3, t4⟩ := q2.nd.top
  have hbg := bget y1 x hx
  rw [hg] at hbg
  have hbg2 := bget y2 y hx2
  rw [hg2] at hbg2
  have z1 : (0 : Int) ≤ (x : Int) := by omega
  have z2 : (x : Int) < (y1.size : Int) := by omega
  have z3 : (0 : Int) ≤ (y : Int) := by omega
  have z4 : (y : Int) < (y2.size : Int) := by omega
  have z5 : (0 : Int) ≤ (i : Int) := by omega
  have z6 : (0 : Int) ≤ (j : Int) := by omega
  obtain ⟨b1, rfl, hb1, hc1⟩ := m1.cells (by omega)
  obtain ⟨b2, rfl, hb2, hc2⟩ := m2.cells (by omega)
  obtain ⟨d0, d1, d2, d3⟩ := hc1 i t1
  obtain ⟨f0, f1, f2, f3⟩ := hc2 j t3
  rw [t2] at d0 d1 d2 d3
  rw [t4] at f0 f1 f2 f3
  rw [hN1] at t1
  rw [hN2] at t3
  have hle1 := m1.le
  have hle2 := m2.le
  rw [hN1] at hle1
  rw [hN2] at hle2
  have z7 : (i : Int) < (N1 : Int) := by omega
  have z8 : (j : Int) < (N2 : Int) := by omega
  have e1 := q1.sm
  have e2 := q2.sm
  obtain ⟨⟨e10, e11, e12, e13⟩, _, _⟩ := e1
  obtain ⟨⟨e20, e21, e22, e23⟩, _, _⟩ := e2
  have HE1 : Hid (∀ W, Calls Tryz.prog 40 #[.agg #[.string k, .string v, .string (hashP wd l), .string (hashP wd r)], .int .i64 (wd : Int)] W fun e W' => e = .returned (.string (encF wd k v l r)) ∧ Below W.heap.size W W') := fun W => (enc_any k v (hashP wd l) (hashP wd r) wd W e10 e11 e12 e13).mono (by rintro e w' ⟨t, rfl, ht, hb⟩; exact ⟨by rw [ht.out]; rfl, hb⟩)
  have HE2 : Hid (∀ W, Calls Tryz.prog 40 #[.agg #[.string k2, .string v2, .string (hashP wd l2), .string (hashP wd r2)], .int .i64 (wd : Int)] W fun e W' => e = .returned (.string (encF wd k2 v2 l2 r2)) ∧ Below W.heap.size W W') := fun W => (enc_any k2 v2 (hashP wd l2) (hashP wd r2) wd W e20 e21 e22 e23).mono (by rintro e w' ⟨t, rfl, ht, hb⟩; exact ⟨by rw [ht.out]; rfl, hb⟩)
  have HS1 : Hid (∀ W, Calls Tryz.prog 87 #[.string y1, .int .i64 (x' : Int)] W fun e W' => e = .returned (.int .i64 (xs : Int)) ∧ Below W.heap.size W W') := fun W => by rw [← exs, ← ex]; exact q1.sh.left.skip W hy1
  have HS2 : Hid (∀ W, Calls Tryz.prog 87 #[.string y2, .int .i64 (y' : Int)] W fun e W' => e = .returned (.int .i64 (ys : Int)) ∧ Below W.heap.size W W') := fun W => by rw [← eys, ← ey]; exact q2.sh.left.skip W hy2
  have HC1 : Hid (∀ W, Calls Tryz.prog 88 #[.string y1, .int .i64 (x' : Int)] W fun e W' => e = .returned (.int .i64 (cP l : Int)) ∧ Below W.heap.size W W') := fun W => by rw [← ex]; exact q1.sh.left.count W hy1
  have HC2 : Hid (∀ W, Calls Tryz.prog 88 #[.string y2, .int .i64 (y' : Int)] W fun e W' => e = .returned (.int .i64 (cP l2 : Int)) ∧ Below W.heap.size W W') := fun W => by rw [← ey]; exact q2.sh.left.count W hy2
  have hcl1 : cP l ≤ 100000 := by have := q1.sh.left.le; have := shapeP_len l; omega
  have hcl2 : cP l2 ≤ 100000 := by have := q2.sh.left.le; have := shapeP_len l2; omega
  generalize cP l = C1 at HC1 eis hcl1
  generalize cP l2 = C2 at HC2 ejs hcl2
  rw [heq] at HE1
  have bx : x' ≤ 1000000 := by omega
  have by' : y' ≤ 1000000 := by omega
  have bi : i' ≤ 1000000 := by omega
  have bj : j' ≤ 1000000 := by omega
  have bis : is ≤ 1000000 := by omega
  have bjs : js ≤ 1000000 := by omega
  obtain ⟨s1, s1'⟩ := wr_one x x' ex bx
  obtain ⟨s2, s2'⟩ := wr_one y y' ey by'
  obtain ⟨s3, s3'⟩ := wr_one i i' ei bi
  obtain ⟨s4, s4'⟩ := wr_one j j' ej bj
  obtain ⟨s5, s5'⟩ := wr_two i' C1 is eis bis
  obtain ⟨s6, s6'⟩ := wr_two j' C2 js ejs bjs
  clear bx by' bi bj bis bjs hle1 hle2
  clear exs eys eis ejs ex ey ei ej heq hcl1 hcl2
  generalize encF wd k2 v2 l2 r2 = E2 at HE1 HE2
  generalize hashP wd l = kl at HE1 d2
  generalize hashP wd r = kr at HE1 d3
  generalize hashP wd l2 = kl2 at HE2 f2
  generalize hashP wd r2 = kr2 at HE2 f3
  have hD : Hid (∀ W, Below w.heap.size w W → (W.cell? ⟨b1, i * 4, none⟩ = some (.string k) ∧ W.cell? ⟨b1, i * 4 + 1, none⟩ = some (.string v) ∧ W.cell? ⟨b1, i * 4 + 2, none⟩ = some (.string kl) ∧ W.cell? ⟨b1, i * 4 + 3, none⟩ = some (.string kr)) ∧ (W.cell? ⟨b2, j * 4, none⟩ = some (.string k2) ∧ W.cell? ⟨b2, j * 4 + 1, none⟩ = some (.string v2) ∧ W.cell? ⟨b2, j * 4 + 2, none⟩ = some (.string kl2) ∧ W.cell? ⟨b2, j * 4 + 3, none⟩ = some (.string kr2))) := fun W hW => by
    have g1 : ∀ o, W.cell? ⟨b1, o, none⟩ = w.cell? ⟨b1, o, none⟩ := fun o => by unfold World.cell?; simp only [hW.block b1 hb1]
    have g2 : ∀ o, W.cell? ⟨b2, o, none⟩ = w.cell? ⟨b2, o, none⟩ := fun o => by unfold World.cell?; simp only [hW.block b2 hb2]
    simp only [g1, g2]
    exact ⟨⟨d0, d1, d2, d3⟩, f0, f1, f2, f3⟩
  clear q1 q2 hg hg2 hc1 hc2 m1 m2 t2 t4 d0 d1 d2 d3 f0 f1 f2 f3 e10 e11 e12 e13 e20 e21 e22 e23 hN1 hN2
  have hb0 : Below w.heap.size w ((w.alloc (.cells #[.string h1, .slice (some ⟨b1, 0, none⟩) N1 c1, .string y1, .int .i64 p1] 65)).alloc (.cells #[.string h2, .slice (some ⟨b2, 0, none⟩) N2 c2, .string y2, .int .i64 p2] 65)) := ((Below.refl _ _).alloc (Nat.le_refl _) _).alloc (by simp) _
  have nB := heap_alloc_new (w.alloc (.cells #[.string h1, .slice (some ⟨b1, 0, none⟩) N1 c1, .string y1, .int .i64 p1] 65)) (.cells #[.string h2, .slice (some ⟨b2, 0, none⟩) N2 c2, .string y2, .int .i64 p2] 65)
  have nA := (Below.heap_alloc (w.alloc (.cells #[.string h1, .slice (some ⟨b1, 0, none⟩) N1 c1, .string y1, .int .i64 p1] 65)) (.cells #[.string h2, .slice (some ⟨b2, 0, none⟩) N2 c2, .string y2, .int .i64 p2] 65) w.heap.size (by simp)).trans (heap_alloc_new w (.cells #[.string h1, .slice (some ⟨b1, 0, none⟩) N1 c1, .string y1, .int .i64 p1] 65))
  rw [World.size_alloc] at nB
  obtain ⟨ga, hga⟩ : ∃ ga, w.heap.size = ga := ⟨_, rfl⟩
  obtain ⟨gb, hgb⟩ : ∃ gb, ga + 1 = gb := ⟨_, rfl⟩
  rw [hga] at nA nB
  rw [hgb] at nB
  go_enter Tryz.func38, Tryz.ntmps38
  go_upto_region 1 with fail
  try rw [hga]
  try rw [hgb]
  generalize (w.alloc (.cells #[.string h1, .slice (some ⟨b1, 0, none⟩) N1 c1, .string y1, .int .i64 p1] 65)).alloc (.cells #[.string h2, .slice (some ⟨b2, 0, none⟩) N2 c2, .string y2, .int .i64 p2] 65) = W0 at hb0 nA nB ⊢
  have a1' := Lib.cell_of_heap nA 1
  have a2' := Lib.cell_of_heap nA 2
  have a3' := Lib.cell_of_heap nB 1
  have a4' := Lib.cell_of_heap nB 2
  obtain ⟨⟨d0, d1, d2, d3⟩, f0, f1, f2, f3⟩ := hD.out W0 hb0
  go_upto_region 4 with fail
  clear a1' a2' a3' a4' d0 d1 d2 d3 f0 f1 f2 f3
  have hbB : Below W0.heap.size W0 (W0.alloc (.cells #[.string k, .string v, .string kl, .string kr] 73)) := (Below.refl _ _).alloc (Nat.le_refl _) _
  have nC := heap_alloc_new W0 (.cells #[.string k, .string v, .string kl, .string kr] 73)
  have nA1 := below_cells hbB nA
  have nB1 := below_cells hbB nB
  have hb1' := hb0.trans (hbB.mono hb0.size)
  obtain ⟨gc, hgc⟩ : ∃ gc, W0.heap.size = gc := ⟨_, rfl⟩
  rw [hgc] at nC
  try rw [hgc]
  clear hbB nA nB
  generalize W0.alloc (.cells #[.string k, .string v, .string kl, .string kr] 73) = W1 at hb1' nC nA1 nB1 ⊢
  have a1' := Lib.cell_of_heap nA1 1
  have a3' := Lib.cell_of_heap nB1 1
  obtain ⟨⟨d0, d1, d2, d3⟩, f0, f1, f2, f3⟩ := hD.out W1 hb1'
  go_upto_region 5 with fail
  clear a1' a3' d0 d1 d2 d3 f0 f1 f2 f3
  have hbB : Below W1.heap.size W1 (W1.alloc (.cells #[.string k2, .string v2, .string kl2, .string kr2] 73)) := (Below.refl _ _).alloc (Nat.le_refl _) _
  have nD := heap_alloc_new W1 (.cells #[.string k2, .string v2, .string kl2, .string kr2] 73)
  have nA2 := below_cells hbB nA1
  have nB2 := below_cells hbB nB1
  have nC2 := below_cells hbB nC
  have hb2' := hb1'.trans (hbB.mono hb1'.size)
  obtain ⟨gd, hgd⟩ : ∃ gd, W1.heap.size = gd := ⟨_, rfl⟩
  rw [hgd] at nD
  try rw [hgd]
  clear hbB nA1 nB1 nC hgd hgc hb0 hb1'
  generalize W1.alloc (.cells #[.string k2, .string v2, .string kl2, .string kr2] 73) = W2 at hb2' nC2 nA2 nB2 nD ⊢
  have hC : Hid (∀ W, Below W2.heap.size W2 W → W.cell? ⟨gc, 0, none⟩ = some (.string k) ∧ W.cell? ⟨gc, 1, none⟩ = some (.string v) ∧ W.cell? ⟨gc, 2, none⟩ = some (.string kl) ∧ W.cell? ⟨gc, 3, none⟩ = some (.string kr) ∧ W.cell? ⟨gd, 0, none⟩ = some (.string k2) ∧ W.cell? ⟨gd, 1, none⟩ = some (.string v2) ∧ W.cell? ⟨gd, 2, none⟩ = some (.string kl2) ∧ W.cell? ⟨gd, 3, none⟩ = some (.string kr2)) := fun W hW => ⟨Lib.cell_of_heap (below_cells hW nC2) 0, Lib.cell_of_heap (below_cells hW nC2) 1, Lib.cell_of_heap (below_cells hW nC2) 2, Lib.cell_of_heap (below_cells hW nC2) 3, Lib.cell_of_heap (below_cells hW nD) 0, Lib.cell_of_heap (below_cells hW nD) 1, Lib.cell_of_heap (below_cells hW nD) 2, Lib.cell_of_heap (below_cells hW nD) 3⟩
  go_region_held3 (fun W => W.cell? ⟨gc, 0, none⟩ = some (.string k) ∧ W.cell? ⟨gc, 1, none⟩ = some (.string v) ∧ W.cell? ⟨gc, 2, none⟩ = some (.string kl) ∧ W.cell? ⟨gc, 3, none⟩ = some (.string kr) ∧ W.cell? ⟨gd, 0, none⟩ = some (.string k2) ∧ W.cell? ⟨gd, 1, none⟩ = some (.string v2) ∧ W.cell? ⟨gd, 2, none⟩ = some (.string kl2) ∧ W.cell? ⟨gd, 3, none⟩ = some (.string kr2)) (first | exact hC.out _ hx4 | exact hC.out _ hx3 | exact hC.out _ (Below.refl _ _) | exact hC.out _ (Below.refl _ _).drew) (first | (go_at_call_of 40 (Value.agg #[.string k, .string v, .string kl, .string kr]); refine (HE1.out _).mono ?_; rintro e W3 ⟨rfl, hb3⟩; have hx3 : Below W2.heap.size W2 W3 := (Below.refl W2.heap.size W2).drew.trans hb3) | (go_at_call_of 40 (Value.agg #[.string k2, .string v2, .string kl2, .string kr2]); refine (HE2.out _).mono ?_; rintro e W4 ⟨rfl, hb4⟩; have hx4 : Below W2.heap.size W2 W4 := hx3.trans (hb4.mono hx3.size)))
  have hw4 := hb2'.trans (hx4.mono hb2'.size)
  have nA4 := below_cells hx4 nA2
  have nB4 := below_cells hx4 nB2
  clear hC hx3 hx4 hb3 hb4 nC2 nD nA2 nB2 hb2' HE1 HE2
  have hC : Hid (∀ W, Below W4.heap.size W4 W → (W.cell? ⟨ga, 0, none⟩ = some (.string h1) ∧ W.cell? ⟨ga, 1, none⟩ = some (.slice (some ⟨b1, 0, none⟩) N1 c1) ∧ W.cell? ⟨ga, 2, none⟩ = some (.string y1) ∧ W.cell? ⟨ga, 3, none⟩ = some (.int .i64 p1)) ∧ W.cell? ⟨gb, 0, none⟩ = some (.string h2) ∧ W.cell? ⟨gb, 1, none⟩ = some (.slice (some ⟨b2, 0, none⟩) N2 c2) ∧ W.cell? ⟨gb, 2, none⟩ = some (.string y2) ∧ W.cell? ⟨gb, 3, none⟩ = some (.int .i64 p2)) := fun W hW => ⟨⟨Lib.cell_of_heap (below_cells hW nA4) 0, Lib.cell_of_heap (below_cells hW nA4) 1, Lib.cell_of_heap (below_cells hW nA4) 2, Lib.cell_of_heap (below_cells hW nA4) 3⟩, Lib.cell_of_heap (below_cells hW nB4) 0, Lib.cell_of_heap (below_cells hW nB4) 1, Lib.cell_of_heap (below_cells hW nB4) 2, Lib.cell_of_heap (below_cells hW nB4) 3⟩
  obtain ⟨⟨a0, a1, a2, a3⟩, a4, a5, a6, a7⟩ := hC.out W4 (Below.refl _ _)
  cases r1 with
  | some q =>
    obtain ⟨pp, qq⟩ := q
    have HL2 : Hid (∀ W, Below w.heap.size w W → Calls Tryz.prog 38 #[.agg #[.string h1, .slice (some ⟨b1, 0, none⟩) N1 c1, .string y1, .int .i64 p1], .agg #[.string h2, .slice (some ⟨b2, 0, none⟩) N2 c2, .string y2, .int .i64 p2], .int .i64 (x' : Int), .int .i64 (y' : Int), .int .i64 (i' : Int), .int .i64 (j' : Int), .int .i64 (wd : Int)] W fun e W' => e = .returned (.tuple #[.int .i64 (pp : Int), .int .i64 (qq : Int)]) ∧ Below W.heap.size W W') := HL.out
    have z9 : decide ((0 : Int) ≤ (pp : Int)) = true := by rw [decide_eq_true_eq]; omega
    have hR : Hid (RV = .tuple #[.int .i64 (pp : Int), .int .i64 (qq : Int)]) := hS.out pp qq rfl
    clear HL HR hC hS hN
    go_wp2_with (first | (go_at_call 38; refine (HL2.out _ hw4).mono ?_; rintro e W5 ⟨rfl, hb5⟩; have hw5 := hw4.trans (hb5.mono hw4.size)))
    go_ret2
    exact ⟨by rw [hR.out]; rfl, hw5⟩
  | none =>
    have HL2 : Hid (∀ W, Below w.heap.size w W → Calls Tryz.prog 38 #[.agg #[.string h1, .slice (some ⟨b1, 0, none⟩) N1 c1, .string y1, .int .i64 p1], .agg #[.string h2, .slice (some ⟨b2, 0, none⟩) N2 c2, .string y2, .int .i64 p2], .int .i64 (x' : Int), .int .i64 (y' : Int), .int .i64 (i' : Int), .int .i64 (j' : Int), .int .i64 (wd : Int)] W fun e W' => e = .returned (.tuple #[.int .i64 (-1), .int .i64 (-1)]) ∧ Below W.heap.size W W') := HL.out
    have hR : Hid (RV = .tuple #[.int .i64 u2, .int .i64 v2']) := hN.out rfl
    clear HL hS hN
    go_upto_region 10 with (first | (go_at_call 38; refine (HL2.out _ hw4).mono ?_; rintro e W5 ⟨rfl, hb5⟩))
    clear a0 a1 a2 a3 a4 a5 a6 a7
    go_region_held3 (fun W => (W.cell? ⟨ga, 0, none⟩ = some (.string h1) ∧ W.cell? ⟨ga, 1, none⟩ = some (.slice (some ⟨b1, 0, none⟩) N1 c1) ∧ W.cell? ⟨ga, 2, none⟩ = some (.string y1) ∧ W.cell? ⟨ga, 3, none⟩ = some (.int .i64 p1)) ∧ W.cell? ⟨gb, 0, none⟩ = some (.string h2) ∧ W.cell? ⟨gb, 1, none⟩ = some (.slice (some ⟨b2, 0, none⟩) N2 c2) ∧ W.cell? ⟨gb, 2, none⟩ = some (.string y2) ∧ W.cell? ⟨gb, 3, none⟩ = some (.int .i64 p2)) (first | exact hC.out _ hxa | exact hC.out _ hx9 | exact hC.out _ hx8 | exact hC.out _ hx7 | exact hC.out _ hx6 | exact hC.out _ hb5 | exact hC.out _ hb5.drew) (first | (go_at_call_of 87 (Value.string y1); refine (HS1.out _).mono ?_; rintro e W6 ⟨rfl, hb6⟩; have hx6 : Below W4.heap.size W4 W6 := hb5.drew.trans (hb6.mono hb5.size)) | (go_at_call_of 87 (Value.string y2); refine (HS2.out _).mono ?_; rintro e W7 ⟨rfl, hb7⟩; have hx7 : Below W4.heap.size W4 W7 := hx6.trans (hb7.mono hx6.size)) | (go_at_call_of 88 (Value.string y1); refine (HC1.out _).mono ?_; rintro e W8 ⟨rfl, hb8⟩; have hx8 : Below W4.heap.size W4 W8 := hx7.trans (hb8.mono hx7.size)) | (go_at_call_of 88 (Value.string y2); refine (HC2.out _).mono ?_; rintro e W9 ⟨rfl, hb9⟩; have hx9 : Below W4.heap.size W4 W9 := hx8.trans (hb9.mono hx8.size); have hw9 := hw4.trans (hx9.mono hw4.size)) | (go_at_call 38; refine (HR.out _ hw9).mono ?_; rintro e W10 ⟨rfl, hb10⟩; have hxa : Below W4.heap.size W4 W10 := hx9.trans (hb10.mono hx9.size)))
    go_wp2_with fail
    go_ret2
    exact ⟨by rw [hR.out]; rfl, hw4.trans (hxa.mono hw4.size)⟩
end Go.Proofs.YtibjhkpgaaapaaaGreatDoor
