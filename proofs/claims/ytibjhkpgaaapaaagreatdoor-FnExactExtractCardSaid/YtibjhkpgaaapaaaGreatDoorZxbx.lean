import Derived.Test.YtibjhkpgaaapaaaGreatDoorZxbw
namespace Go.Proofs.YtibjhkpgaaapaaaGreatDoor
open Go.RowKit Go.Proofs.Sha

theorem seekV_ex (r : Option (Nat × Nat)) : ∃ u v : Int, seekV r = .tuple #[.int .i64 u, .int .i64 v] := by
  cases r with
  | none => exact ⟨-1, -1, rfl⟩
  | some q => exact ⟨_, _, rfl⟩
theorem seekI_no (wd i j : Nat) (s t : PT) (h : (isF s && isF t) = false) : seekI wd i j s t = none := by
  cases s <;> cases t <;> first | (unfold seekI; rfl) | cases h
theorem narg_below {a : Option Addr} {ns : List NodeT} {w W : World} (h : NArg a ns w) (hb : Below w.heap.size w W) : NArg a ns W :=
  h.below hb (fun b e hn => by obtain ⟨b', e', hl', _⟩ := h.cells hn; rw [e] at e'; cases e'; exact hl')
theorem seek_any (wd : Nat) (p1 p2 : Int) (h1 h2 y1 y2 : ByteArray) (a1 a2 : Option Addr) (n1s n2s : List NodeT) (c1 c2 : Nat) (hy1 : y1.size ≤ 100000) (hy2 : y2.size ≤ 100000) : ∀ (s t : PT) (x y i j : Nat) (w : World), SK wd y1 n1s x i s → SK wd y2 n2s y j t → NArg a1 n1s w → NArg a2 n2s w →
    Calls Tryz.prog 38 #[.agg #[.string h1, .slice a1 n1s.length c1, .string y1, .int .i64 p1], .agg #[.string h2, .slice a2 n2s.length c2, .string y2, .int .i64 p2], .int .i64 (x : Int), .int .i64 (y : Int), .int .i64 (i : Int), .int .i64 (j : Int), .int .i64 (wd : Int)] w fun e w' => e = .returned (seekV (seekI wd i j s t)) ∧ Below w.heap.size w w' := by
  intro s
  induction s with
  | e => intro t x y i j w q1 q2 m1 m2; rw [seekI_no wd i j _ t rfl]; exact seek_leaf wd p1 p2 x y i j h1 h2 y1 y2 a1 a2 _ _ c1 c2 _ t w q1.sh q2.sh rfl
  | s h => intro t x y i j w q1 q2 m1 m2; rw [seekI_no wd i j _ t rfl]; exact seek_leaf wd p1 p2 x y i j h1 h2 y1 y2 a1 a2 _ _ c1 c2 _ t w q1.sh q2.sh rfl
  | f k v l r ihl ihr =>
    intro t x y i j w q1 q2 m1 m2
    cases t with
    | e => rw [seekI_no wd i j _ _ rfl]; exact seek_leaf wd p1 p2 x y i j h1 h2 y1 y2 a1 a2 _ _ c1 c2 _ _ w q1.sh q2.sh rfl
    | s h => rw [seekI_no wd i j _ _ rfl]; exact seek_leaf wd p1 p2 x y i j h1 h2 y1 y2 a1 a2 _ _ c1 c2 _ _ w q1.sh q2.sh rfl
    | f k2 v2 l2 r2 =>
      by_cases hne : encF wd k v l r = encF wd k2 v2 l2 r2
      · have sl1 : SK wd y1 n1s (x + 1) (i + 1) l := ⟨q1.sh.left, q1.nd.left, q1.sm.2.1⟩
        have sl2 : SK wd y2 n2s (y + 1) (j + 1) l2 := ⟨q2.sh.left, q2.nd.left, q2.sm.2.1⟩
        have sr1 : SK wd y1 n1s (x + 1 + (shapeP l).length) (i + 1 + cP l) r := ⟨q1.sh.right, q1.nd.right, q1.sm.2.2⟩
        have sr2 : SK wd y2 n2s (y + 1 + (shapeP l2).length) (j + 1 + cP l2) r2 := ⟨q2.sh.right, q2.nd.right, q2.sm.2.2⟩
        obtain ⟨u, v', huv⟩ := seekV_ex (seekI wd (i + 1 + cP l) (j + 1 + cP l2) r r2)
        have hst : seekI wd i j (.f k v l r) (.f k2 v2 l2 r2) = match seekI wd (i + 1) (j + 1) l l2 with | some q => some q | none => seekI wd (i + 1 + cP l) (j + 1 + cP l2) r r2 := by
          rw [seekI, if_neg (by simp [hne])]
          cases seekI wd (i + 1) (j + 1) l l2 <;> rfl
        rw [hst]
        refine seek_go wd p1 p2 x y i j h1 h2 y1 y2 a1 a2 n1s n2s c1 c2 k v k2 v2 l r l2 r2 w q1 q2 m1 m2 _ _ rfl rfl hy1 hy2 hne (seekI wd (i + 1) (j + 1) l l2) _ u v' ?_ ?_ _ _ _ _ _ _ _ _ rfl rfl rfl rfl rfl rfl rfl rfl ?_ ?_
        · intro p q e; rw [e]; rfl
        · intro e; rw [e]; exact huv
        · intro W hW; exact ihl l2 _ _ _ _ W sl1 sl2 (narg_below m1 hW) (narg_below m2 hW)
        · intro W hW; rw [← huv]; exact ihr r2 _ _ _ _ W sr1 sr2 (narg_below m1 hW) (narg_below m2 hW)
      · rw [show seekI wd i j (.f k v l r) (.f k2 v2 l2 r2) = some (i, j) by rw [seekI, if_pos hne]]
        exact seek_diff wd p1 p2 x y i j h1 h2 y1 y2 a1 a2 n1s n2s c1 c2 k v k2 v2 l r l2 r2 w q1 q2 m1 m2 hne
end Go.Proofs.YtibjhkpgaaapaaaGreatDoor
namespace Go.Proofs.YtibjhkpgaaapaaaGreatDoor
open Go.RowKit Go.Proofs.Sha

/-- What l5Whole answers, in one form. -/
structure WG (wd : Nat) (R : Option PT) (w : World) (x y : ByteArray) (al : Option Addr) (ln cl : Nat) (p : Int) (w' : World) : Prop where
  no : R = none → p = -1
  yes : ∀ t, R = some t → 0 ≤ p ∧ y.data.toList = shapeP t ∧ ln = (nodesP wd t).length ∧ w'.ownsRow w.heap.size 73 4 (.slice al (nodesP wd t).length cl) (nodesP wd t).length (flatN (nodesP wd t))
  bel : Below w.heap.size w w'
theorem whole_g (n : Int) (root lo hi s : ByteArray) (w : World) (hs : s.size ≤ 1048576) (hr : root.size ≤ 1048576) (hlo : lo.size ≤ 1048576) (hhi : hi.size ≤ 1048576) :
    Calls Tryz.prog 35 #[.int .i64 n, .string root, .string lo, .string hi, .string s] w fun e w' => ∃ x y al ln cl p, e = .returned (.agg #[.string x, .slice al ln cl, .string y, .int .i64 p]) ∧ WG n.toNat (accP n root lo hi s) w x y al ln cl p w' := by
  refine (whole_any n root lo hi s w hs hr hlo hhi).mono ?_
  rintro e w' ⟨h1, h2, hb⟩
  cases hR : accP n root lo hi s with
  | none => exact ⟨_, _, _, _, _, _, h2 hR, fun _ => rfl, fun t h => (by cases h), hb⟩
  | some t =>
    obtain ⟨x, y, al, cl, he, _, hy, ho⟩ := h1 t hR
    exact ⟨x, y, al, _, cl, _, he, fun h => (by cases h), fun t' h' => (by cases h'; exact ⟨by omega, hy.out, rfl, ho⟩), hb⟩
set_option maxRecDepth 100000 in
set_option maxHeartbeats 1000000 in
theorem sx_no (n : Int) (root lo hi s1 s2 : ByteArray) (w : World) (hs1 : s1.size ≤ 1048576) (hs2 : s2.size ≤ 1048576) (hr : root.size ≤ 1048576) (hlo : lo.size ≤ 1048576) (hhi : hi.size ≤ 1048576) (hno : accP n root lo hi s1 = none ∨ accP n root lo hi s2 = none) :
    Calls Tryz.prog 9 #[.int .i64 n, .string root, .string lo, .string hi, .string s1, .string s2] w fun e w' => e = .returned (.tuple #[.string ⟨#[]⟩, .string ⟨#[]⟩, .bool false]) ∧ Below w.heap.size w w' := by
  have HA := whole_g n root lo hi s1 w hs1 hr hlo hhi
  have HB : Hid (∀ W, Calls Tryz.prog 35 #[.int .i64 n, .string root, .string lo, .string hi, .string s2] W fun e w' => ∃ x y al ln cl p, e = .returned (.agg #[.string x, .slice al ln cl, .string y, .int .i64 p]) ∧ WG n.toNat (accP n root lo hi s2) W x y al ln cl p w') := fun W => whole_g n root lo hi s2 W hs2 hr hlo hhi
  generalize accP n root lo hi s1 = R1 at HA hno
  generalize accP n root lo hi s2 = R2 at HB hno
  clear hs1 hs2 hr hlo hhi
  go_enter Tryz.func9, Tryz.ntmps9
  go_upto_region 2 with (first | (go_at_call 35; refine HA.mono ?_; rintro e W1 ⟨x1, y1, a1, n1, c1, p1, rfl, g1⟩))
  have hb1 : Below w.heap.size w (W1.alloc (.cells #[.string x1, .slice a1 n1 c1, .string y1, .int .i64 p1] 65)) := g1.bel.alloc g1.bel.size _
  have nA := heap_alloc_new W1 (.cells #[.string x1, .slice a1 n1 c1, .string y1, .int .i64 p1] 65)
  obtain ⟨ga, hga⟩ : ∃ ga, W1.heap.size = ga := ⟨_, rfl⟩
  rw [hga] at nA
  try rw [hga]
  generalize W1.alloc (.cells #[.string x1, .slice a1 n1 c1, .string y1, .int .i64 p1] 65) = W2 at hb1 nA ⊢
  have HB2 := HB.out W2
  go_upto_region 3 with (first | (go_at_call 35; refine HB2.mono ?_; rintro e W3 ⟨x2, y2, a2, n2, c2, p2, rfl, g2⟩))
  have hb2 : Below w.heap.size w (W3.alloc (.cells #[.string x2, .slice a2 n2 c2, .string y2, .int .i64 p2] 65)) := (hb1.trans (g2.bel.mono hb1.size)).alloc (Nat.le_trans hb1.size g2.bel.size) _
  have nB := heap_alloc_new W3 (.cells #[.string x2, .slice a2 n2 c2, .string y2, .int .i64 p2] 65)
  have nA2 := (Below.heap_alloc W3 (.cells #[.string x2, .slice a2 n2 c2, .string y2, .int .i64 p2] 65) ga (Nat.lt_of_lt_of_le (Array.getElem?_eq_some_iff.1 nA).1 g2.bel.size)).trans (below_cells g2.bel nA)
  obtain ⟨gb, hgb⟩ : ∃ gb, W3.heap.size = gb := ⟨_, rfl⟩
  rw [hgb] at nB
  try rw [hgb]
  have hor : p1 < 0 ∨ (decide (p1 < 0) = false ∧ p2 < 0) := by
    by_cases h : p1 < 0
    · exact .inl h
    · refine .inr ⟨decide_eq_false h, ?_⟩
      rcases hno with hn | hn
      · have := g1.no hn; omega
      · have := g2.no hn; omega
  generalize W3.alloc (.cells #[.string x2, .slice a2 n2 c2, .string y2, .int .i64 p2] 65) = W4 at hb2 nB nA2 ⊢
  have l1 := Lib.cell_of_heap nA2 3
  have l2 := Lib.cell_of_heap nB 3
  clear HA HB HB2 hno g1 g2 nA hb1 hga hgb
  rcases hor with h | ⟨z1, h⟩
  · have z1 : decide (p1 < 0) = true := decide_eq_true h
    clear h
    go_quiet (first | fail)
    go_wp2_with fail
    exact bodyPost_ret (v := .tuple #[.string ⟨#[]⟩, .string ⟨#[]⟩, .bool false]) (by simp [results, Tryz.results9, go_sem]) rfl ⟨rfl, draws_below _ hb2⟩
  · have z2 : decide (p2 < 0) = true := decide_eq_true h
    clear h
    go_quiet (first | fail)
    go_wp2_with fail
    exact bodyPost_ret (v := .tuple #[.string ⟨#[]⟩, .string ⟨#[]⟩, .bool false]) (by simp [results, Tryz.results9, go_sem]) rfl ⟨rfl, draws_below _ hb2⟩
end Go.Proofs.YtibjhkpgaaapaaaGreatDoor
namespace Go.Proofs.YtibjhkpgaaapaaaGreatDoor
open Go.RowKit Go.Proofs.Sha

/-- What the walk needs of an accepted proof as l5Whole hands it back. -/
structure WY (wd : Nat) (lo hi : ByteArray) (t : PT) (al : Option Addr) (ln cl : Nat) (y : ByteArray) (w : World) : Prop where
  sk : SK wd y (nodesP wd t) 0 0 t
  ysz : y.size ≤ 100000
  ln : ln = (nodesP wd t).length
  na : NArg al (nodesP wd t) w
  sm : SmallP (shP lo hi t)
  od : ∀ m ∈ nodesP wd t, m.1.size ≤ 1048576 ∧ m.2.1.size ≤ 1048576
  eq : shF lo hi (nodesP wd t) [] = shP lo hi t
theorem WG.wy {n : Int} {root lo hi s : ByteArray} {t : PT} {w w' : World} {x y : ByteArray} {al : Option Addr} {ln cl : Nat} {p : Int} (h : WG n.toNat (accP n root lo hi s) w x y al ln cl p w') (hR : accP n root lo hi s = some t) : WY n.toNat lo hi t al ln cl y w' := by
  obtain ⟨_, hy, hl, ho⟩ := h.yes t hR
  have h1 := accP_ord hR
  have h2 := accP_cnt hR
  have h3 := nodesP_len n.toNat t
  have h4 := shapeP_len t
  have hz : y.size = (shapeP t).length := by rw [← hy]; rfl
  refine ⟨⟨⟨[], by rw [List.append_nil]; exact hy⟩, ⟨[], by rw [List.append_nil]; rfl⟩, (accP_sm hR).1⟩, by omega, hl, own4_narg ho (by omega), (shP_smallP lo hi hR).1, ordP_small n.toNat t _ _ h1, shF_all (lo := lo) (hi := hi) (wd := n.toNat) h1⟩
theorem WY.below {wd : Nat} {lo hi : ByteArray} {t : PT} {al : Option Addr} {ln cl : Nat} {y : ByteArray} {w W : World} (h : WY wd lo hi t al ln cl y w) (hb : Below w.heap.size w W) : WY wd lo hi t al ln cl y W :=
  ⟨h.sk, h.ysz, h.ln, narg_below h.na hb, h.sm, h.od, h.eq⟩
theorem WY.shown {wd : Nat} {lo hi : ByteArray} {t : PT} {al : Option Addr} {ln cl : Nat} {y : ByteArray} {w : World} (h : WY wd lo hi t al ln cl y w) (hlo : lo.size ≤ 1048576) (hhi : hi.size ≤ 1048576) : Calls Tryz.prog 37 #[.slice al ln cl, .string lo, .string hi] w fun e W' => ∃ a c, e = .returned (.slice a (shP lo hi t).length c) ∧ PArg a (shP lo hi t) W' ∧ Below w.heap.size w W' := by
  have := shown_any lo hi hlo hhi al (nodesP wd t) cl w h.na (fun b e hn => by obtain ⟨b', e', hl', _⟩ := h.na.cells hn; rw [e] at e'; cases e'; exact hl') h.od
  rw [h.eq, ← h.ln] at this
  refine this.mono ?_
  rintro e W' ⟨a2, c2, he, hO⟩
  exact ⟨a2, c2, he, own_parg hO.own h.sm, hO.bel⟩
end Go.Proofs.YtibjhkpgaaapaaaGreatDoor
namespace Go.Proofs.YtibjhkpgaaapaaaGreatDoor
open Go.RowKit Go.Proofs.Sha

theorem smP_nodes (wd : Nat) : ∀ (t : PT), smP wd t → ∀ m ∈ nodesP wd t, m.1.size ≤ 1048576 ∧ m.2.1.size ≤ 1048576 ∧ m.2.2.1.size ≤ 1048576 ∧ m.2.2.2.size ≤ 1048576
  | .e, _, m, hm => by cases hm
  | .s _, _, m, hm => by cases hm
  | .f k v l r, ⟨h0, h1, h2⟩, m, hm => by
    rw [nodesP] at hm
    rcases List.mem_cons.1 hm with hm | hm
    · rw [hm]; exact h0
    · rcases List.mem_append.1 hm with hm | hm
      · exact smP_nodes wd l h1 m hm
      · exact smP_nodes wd r h2 m hm
/-- One node's way to its text. -/
theorem node_at {wd : Nat} {lo hi : ByteArray} {t : PT} {al : Option Addr} {ln cl : Nat} {y : ByteArray} {w : World} (h : WY wd lo hi t al ln cl y w) (p : Nat) (hp : p < (nodesP wd t).length) : ∃ b k v l r, al = some ⟨b, 0, none⟩ ∧ (nodesP wd t).getD p noNode = (k, v, l, r) ∧ p < ln ∧ (∀ W, Below w.heap.size w W → W.cell? ⟨b, p * 4, none⟩ = some (.string k) ∧ W.cell? ⟨b, p * 4 + 1, none⟩ = some (.string v) ∧ W.cell? ⟨b, p * 4 + 2, none⟩ = some (.string l) ∧ W.cell? ⟨b, p * 4 + 3, none⟩ = some (.string r)) ∧ (∀ W, Calls Tryz.prog 40 #[.agg #[.string k, .string v, .string l, .string r], .int .i64 (wd : Int)] W fun e W' => e = .returned (.string (encN wd ((nodesP wd t).getD p noNode))) ∧ Below W.heap.size W W') := by
  obtain ⟨⟨k, v, l, r⟩, hn⟩ : ∃ q, (nodesP wd t).getD p noNode = q := ⟨_, rfl⟩
  obtain ⟨b, hb, hlt, hc⟩ := h.na.cells (by omega)
  have hmem : (k, v, l, r) ∈ nodesP wd t := by
    rw [← hn, List.getD_eq_getElem?_getD, List.getElem?_eq_getElem hp]; exact List.getElem_mem hp
  obtain ⟨e1, e2, e3, e4⟩ := smP_nodes wd t h.sk.sm _ hmem
  refine ⟨b, k, v, l, r, hb, hn, by rw [h.ln]; exact hp, fun W hW => ?_, fun W => ?_⟩
  · have g1 : ∀ o, W.cell? ⟨b, o, none⟩ = w.cell? ⟨b, o, none⟩ := fun o => by unfold World.cell?; simp only [hW.block b hlt]
    have := hc p hp
    rw [hn] at this
    simp only [g1]
    exact this
  · rw [hn]
    exact (enc_any k v l r wd W e1 e2 e3 e4).mono (by rintro e w' ⟨t, rfl, ht, hb⟩; exact ⟨by rw [ht.out]; rfl, hb⟩)
theorem encN_size (wd : Nat) (m : NodeT) : (encN wd m).size ≤ 1048576 := by
  have := (encS_size m.1 m.2.1 m.2.2.1 m.2.2.2 wd).1
  unfold encN
  omega
theorem WY.seek {wd : Nat} {lo hi : ByteArray} {s t : PT} {a1 a2 : Option Addr} {n1 n2 c1 c2 : Nat} {y1 y2 : ByteArray} {w : World} (h : WY wd lo hi s a1 n1 c1 y1 w) (h' : WY wd lo hi t a2 n2 c2 y2 w) (x1 x2 : ByteArray) (p1 p2 : Int) : Calls Tryz.prog 38 #[.agg #[.string x1, .slice a1 n1 c1, .string y1, .int .i64 p1], .agg #[.string x2, .slice a2 n2 c2, .string y2, .int .i64 p2], .int .i64 0, .int .i64 0, .int .i64 0, .int .i64 0, .int .i64 (wd : Int)] w fun e w' => e = .returned (seekV (seekI wd 0 0 s t)) ∧ Below w.heap.size w w' := by
  have := seek_any wd p1 p2 x1 x2 y1 y2 a1 a2 (nodesP wd s) (nodesP wd t) c1 c2 h.ysz h'.ysz s t 0 0 0 0 w h.sk h'.sk h.na h'.na
  rw [← h.ln, ← h'.ln] at this
  exact this
end Go.Proofs.YtibjhkpgaaapaaaGreatDoor
namespace Go.Proofs.YtibjhkpgaaapaaaGreatDoor
open Go.RowKit Go.Proofs.Sha

set_option maxRecDepth 100000 in
set_option maxHeartbeats 1000000 in
theorem sx_yes (n : Int) (root lo hi s1 s2 : ByteArray) (w : World) (hs1 : s1.size ≤ 1048576) (hs2 : s2.size ≤ 1048576) (hr : root.size ≤ 1048576) (hlo : lo.size ≤ 1048576) (hhi : hi.size ≤ 1048576) (s t : PT) (hR1 : accP n root lo hi s1 = some s) (hR2 : accP n root lo hi s2 = some t) :
    Calls Tryz.prog 9 #[.int .i64 n, .string root, .string lo, .string hi, .string s1, .string s2] w fun e w' => e = .returned (exV (exR n lo hi (some s) (some t))) ∧ Below w.heap.size w w' := by
  obtain ⟨wd, hwd⟩ : ∃ wd, n.toNat = wd := ⟨_, rfl⟩
  have hn : n = (wd : Int) := by obtain ⟨m, hm⟩ := (accP_sm hR1).2; omega
  have HA : Calls Tryz.prog 35 #[.int .i64 n, .string root, .string lo, .string hi, .string s1] w fun e w' => ∃ x y al ln cl p, e = .returned (.agg #[.string x, .slice al ln cl, .string y, .int .i64 p]) ∧ WY wd lo hi s al ln cl y w' ∧ 0 ≤ p ∧ Below w.heap.size w w' := (whole_g n root lo hi s1 w hs1 hr hlo hhi).mono (by
    rintro e w' ⟨x, y, al, ln, cl, p, he, g⟩
    have := g.wy hR1
    rw [hwd] at this
    exact ⟨x, y, al, ln, cl, p, he, this, (g.yes s hR1).1, g.bel⟩)
  have HB : Hid (∀ W, Calls Tryz.prog 35 #[.int .i64 n, .string root, .string lo, .string hi, .string s2] W fun e w' => ∃ x y al ln cl p, e = .returned (.agg #[.string x, .slice al ln cl, .string y, .int .i64 p]) ∧ WY wd lo hi t al ln cl y w' ∧ 0 ≤ p ∧ Below W.heap.size W w') := fun W => (whole_g n root lo hi s2 W hs2 hr hlo hhi).mono (by
    rintro e w' ⟨x, y, al, ln, cl, p, he, g⟩
    have := g.wy hR2
    rw [hwd] at this
    exact ⟨x, y, al, ln, cl, p, he, this, (g.yes t hR2).1, g.bel⟩)
  have hex : Hid (exR n lo hi (some s) (some t) = if shP lo hi s = shP lo hi t then none else twinP wd s t) := by rw [← hwd]; rfl
  obtain ⟨RR, hRR⟩ : ∃ RR, exR n lo hi (some s) (some t) = RR := ⟨_, rfl⟩
  rw [hRR] at hex ⊢
  have HE : Hid (∀ a c b d W, PArg a (shP lo hi s) W → PArg b (shP lo hi t) W → Calls Tryz.prog 36 #[.slice a (shP lo hi s).length c, .slice b (shP lo hi t).length d] W fun e W' => e = .returned (.bool (decide (shP lo hi s = shP lo hi t))) ∧ Below W.heap.size W W') := fun a c b d W h1 h2 => same_any a b _ _ c d W h1 h2
  subst hn
  clear hR1 hR2 hs1 hs2 hr hRR hwd
  go_enter Tryz.func9, Tryz.ntmps9
  go_upto_region 2 with (first | (go_at_call 35; refine HA.mono ?_; rintro e W1 ⟨x1, y1, a1, n1, c1, p1, rfl, v1, q1, g1⟩))
  have hbB : Below W1.heap.size W1 (W1.alloc (.cells #[.string x1, .slice a1 n1 c1, .string y1, .int .i64 p1] 65)) := (Below.refl _ _).alloc (Nat.le_refl _) _
  have v1' := v1.below hbB
  have hb1 := g1.trans (hbB.mono g1.size)
  have nA := heap_alloc_new W1 (.cells #[.string x1, .slice a1 n1 c1, .string y1, .int .i64 p1] 65)
  obtain ⟨ga, hga⟩ : ∃ ga, W1.heap.size = ga := ⟨_, rfl⟩
  rw [hga] at nA
  try rw [hga]
  clear v1 hbB g1
  generalize W1.alloc (.cells #[.string x1, .slice a1 n1 c1, .string y1, .int .i64 p1] 65) = W2 at hb1 nA v1' ⊢
  have HB2 := HB.out W2
  go_upto_region 3 with (first | (go_at_call 35; refine HB2.mono ?_; rintro e W3 ⟨x2, y2, a2, n2, c2, p2, rfl, v2, q2, g2⟩))
  have hbB : Below W3.heap.size W3 (W3.alloc (.cells #[.string x2, .slice a2 n2 c2, .string y2, .int .i64 p2] 65)) := (Below.refl _ _).alloc (Nat.le_refl _) _
  have hb3 := hb1.trans (g2.mono hb1.size)
  have u1 := (v1'.below g2).below hbB
  have u2 := v2.below hbB
  have nA2 := below_cells hbB (below_cells g2 nA)
  have nB := heap_alloc_new W3 (.cells #[.string x2, .slice a2 n2 c2, .string y2, .int .i64 p2] 65)
  have hb4 := hb3.trans (hbB.mono hb3.size)
  obtain ⟨gb, hgb⟩ : ∃ gb, W3.heap.size = gb := ⟨_, rfl⟩
  rw [hgb] at nB
  try rw [hgb]
  clear v1' v2 g2 hbB nA hb1 hb3 HA HB HB2 hga hgb
  generalize W3.alloc (.cells #[.string x2, .slice a2 n2 c2, .string y2, .int .i64 p2] 65) = W4 at hb4 nB nA2 u1 u2 ⊢
  have z1 : decide (p1 < 0) = false := decide_eq_false (by omega)
  have z2 : decide (p2 < 0) = false := decide_eq_false (by omega)
  have hC : Hid (∀ W, Below W4.heap.size W4 W → (W.cell? ⟨ga, 1, none⟩ = some (.slice a1 n1 c1) ∧ W.cell? ⟨ga, 3, none⟩ = some (.int .i64 p1)) ∧ W.cell? ⟨gb, 1, none⟩ = some (.slice a2 n2 c2) ∧ W.cell? ⟨gb, 3, none⟩ = some (.int .i64 p2)) := fun W hW => ⟨⟨Lib.cell_of_heap (below_cells hW nA2) 1, Lib.cell_of_heap (below_cells hW nA2) 3⟩, Lib.cell_of_heap (below_cells hW nB) 1, Lib.cell_of_heap (below_cells hW nB) 3⟩
  have HS1 : Hid (∀ W, Below W4.heap.size W4 W → Calls Tryz.prog 37 #[.slice a1 n1 c1, .string lo, .string hi] W fun e W' => ∃ a c, e = .returned (.slice a (shP lo hi s).length c) ∧ PArg a (shP lo hi s) W' ∧ Below W.heap.size W W') := fun W hW => (u1.below hW).shown hlo hhi
  have HS2 : Hid (∀ W, Below W4.heap.size W4 W → Calls Tryz.prog 37 #[.slice a2 n2 c2, .string lo, .string hi] W fun e W' => ∃ a c, e = .returned (.slice a (shP lo hi t).length c) ∧ PArg a (shP lo hi t) W' ∧ Below W.heap.size W W') := fun W hW => (u2.below hW).shown hlo hhi
  have hP : decide (shP lo hi s = shP lo hi t) = true ∨ decide (shP lo hi s = shP lo hi t) = false := by cases decide (shP lo hi s = shP lo hi t) <;> simp
  generalize shP lo hi s = P at HS1 HE hex hP
  generalize shP lo hi t = Q at HS2 HE hex hP
  generalize P.length = LP at HS1 HE
  generalize Q.length = LQ at HS2 HE
  rcases hP with hP | hP
  · have hR : Hid (exV RR = .tuple #[.string ⟨#[]⟩, .string ⟨#[]⟩, .bool false]) := by
      show exV RR = _
      rw [hex.out, if_pos (of_decide_eq_true hP)]
      rfl
    have HE' : Hid (∀ a c b d W, PArg a P W → PArg b Q W → Calls Tryz.prog 36 #[.slice a LP c, .slice b LQ d] W fun e W' => e = .returned (.bool true) ∧ Below W.heap.size W W') := fun a c b d W h1 h2 => by rw [← hP]; exact HE.out a c b d W h1 h2
    clear hex hP HE q1 q2
    go_region_held3 (fun W => (W.cell? ⟨ga, 1, none⟩ = some (.slice a1 n1 c1) ∧ W.cell? ⟨ga, 3, none⟩ = some (.int .i64 p1)) ∧ W.cell? ⟨gb, 1, none⟩ = some (.slice a2 n2 c2) ∧ W.cell? ⟨gb, 3, none⟩ = some (.int .i64 p2)) (first | exact hC.out _ hx7 | exact hC.out _ hx6 | exact hC.out _ hx5 | exact hC.out _ (Below.refl _ _) | exact hC.out _ (Below.refl _ _).drew) (first | (go_at_call_of 37 (Value.slice a1 n1 c1); refine (HS1.out _ (Below.refl W4.heap.size W4).drew).mono ?_; rintro e W5 ⟨a5, c5, rfl, pa5, hb5⟩; have hx5 : Below W4.heap.size W4 W5 := (Below.refl W4.heap.size W4).drew.trans hb5) | (go_at_call_of 37 (Value.slice a2 n2 c2); refine (HS2.out _ hx5).mono ?_; rintro e W6 ⟨a6, c6, rfl, pa6, hb6⟩; have hx6 : Below W4.heap.size W4 W6 := hx5.trans (hb6.mono hx5.size); have pa5' := pa5.below hb6) | (go_at_call 36; refine (HE'.out _ _ _ _ _ pa5' pa6).mono ?_; rintro e W7 ⟨rfl, hb7⟩; have hx7 : Below W4.heap.size W4 W7 := hx6.trans (hb7.mono hx6.size)))
    go_wp2_with fail
    exact bodyPost_ret (v := .tuple #[.string ⟨#[]⟩, .string ⟨#[]⟩, .bool false]) (by simp [results, Tryz.results9, go_sem]) rfl ⟨by rw [hR.out], hb4.trans (hx7.mono hb4.size)⟩
  · have hR : Hid (RR = twinP wd s t) := by
      show RR = _
      rw [hex.out, if_neg (of_decide_eq_false hP)]
    have HE' : Hid (∀ a c b d W, PArg a P W → PArg b Q W → Calls Tryz.prog 36 #[.slice a LP c, .slice b LQ d] W fun e W' => e = .returned (.bool false) ∧ Below W.heap.size W W') := fun a c b d W h1 h2 => by rw [← hP]; exact HE.out a c b d W h1 h2
    clear hex hP HE q1 q2
    go_region_held3 (fun W => (W.cell? ⟨ga, 1, none⟩ = some (.slice a1 n1 c1) ∧ W.cell? ⟨ga, 3, none⟩ = some (.int .i64 p1)) ∧ W.cell? ⟨gb, 1, none⟩ = some (.slice a2 n2 c2) ∧ W.cell? ⟨gb, 3, none⟩ = some (.int .i64 p2)) (first | exact hC.out _ hx7 | exact hC.out _ hx6 | exact hC.out _ hx5 | exact hC.out _ (Below.refl _ _) | exact hC.out _ (Below.refl _ _).drew) (first | (go_at_call_of 37 (Value.slice a1 n1 c1); refine (HS1.out _ (Below.refl W4.heap.size W4).drew).mono ?_; rintro e W5 ⟨a5, c5, rfl, pa5, hb5⟩; have hx5 : Below W4.heap.size W4 W5 := (Below.refl W4.heap.size W4).drew.trans hb5) | (go_at_call_of 37 (Value.slice a2 n2 c2); refine (HS2.out _ hx5).mono ?_; rintro e W6 ⟨a6, c6, rfl, pa6, hb6⟩; have hx6 : Below W4.heap.size W4 W6 := hx5.trans (hb6.mono hx5.size); have pa5' := pa5.below hb6) | (go_at_call 36; refine (HE'.out _ _ _ _ _ pa5' pa6).mono ?_; rintro e W7 ⟨rfl, hb7⟩; have hx7 : Below W4.heap.size W4 W7 := hx6.trans (hb7.mono hx6.size)))
    have hw7 := hb4.trans (hx7.mono hb4.size)
    have r1 := u1.below hx7
    have r2 := u2.below hx7
    have nA7 := below_cells hx7 nA2
    have nB7 := below_cells hx7 nB
    have hsk := r1.seek r2 x1 x2 p1 p2
    have htw := seek_twin wd (nodesP wd s) (nodesP wd t) s t 0 0 r1.sk.nd r2.sk.nd
    clear hC hb5 hb6 hb7 hx5 hx6 hx7 pa5 pa5' pa6 HS1 HS2 HE' nA2 nB u1 u2 hb4
    have l0 := Lib.cell_of_heap nA7 0
    have l1 := Lib.cell_of_heap nA7 1
    have l2 := Lib.cell_of_heap nA7 2
    have l3 := Lib.cell_of_heap nA7 3
    have l4 := Lib.cell_of_heap nB7 0
    have l5 := Lib.cell_of_heap nB7 1
    have l6 := Lib.cell_of_heap nB7 2
    have l7 := Lib.cell_of_heap nB7 3
    rcases htw with ⟨e1, e2⟩ | ⟨pp, qq, e1, e2, e3, e4⟩
    · have hv : Hid (exV RR = .tuple #[.string ⟨#[]⟩, .string ⟨#[]⟩, .bool false]) := by
        show exV RR = _
        rw [hR.out, e2]
        rfl
      rw [e1] at hsk
      unfold seekV at hsk
      clear e1 e2 r1 r2 nA7 nB7 hR
      go_wp2_with (first | (go_at_call 38; refine hsk.mono ?_; rintro e W8 ⟨rfl, hb8⟩))
      exact bodyPost_ret (v := .tuple #[.string ⟨#[]⟩, .string ⟨#[]⟩, .bool false]) (by simp [results, Tryz.results9, go_sem]) rfl ⟨by rw [hv.out], hw7.trans (hb8.mono hw7.size)⟩
    · obtain ⟨b1, k1, w1', kl1, kr1, ha1, _, hp1, hc1, HE1⟩ := node_at r1 pp e2
      obtain ⟨b2, k2, w2', kl2, kr2, ha2, _, hp2, hc2, HE2⟩ := node_at r2 qq e3
      have hz1 := encN_size wd ((nodesP wd s).getD pp noNode)
      have hz2 := encN_size wd ((nodesP wd t).getD qq noNode)
      generalize encN wd ((nodesP wd s).getD pp noNode) = E1 at HE1 hz1 e4
      generalize encN wd ((nodesP wd t).getD qq noNode) = E2 at HE2 hz2 e4
      have HT1 : Hid (∀ W, Calls Tryz.prog 39 #[.string E1] W fun e W' => e = .returned (.string (txt E1)) ∧ W' = W) := fun W => ltxt2_any E1 W hz1
      have HT2 : Hid (∀ W, Calls Tryz.prog 39 #[.string E2] W fun e W' => e = .returned (.string (txt E2)) ∧ W' = W) := fun W => ltxt2_any E2 W hz2
      have hv : Hid (exV RR = .tuple #[.string (txt E1), .string (txt E2), .bool true]) := by
        show exV RR = _
        rw [hR.out, e4]
        rfl
      generalize txt E1 = T1 at HT1 hv
      generalize txt E2 = T2 at HT2 hv
      replace HE1 : Hid _ := HE1
      replace HE2 : Hid _ := HE2
      rw [e1] at hsk
      unfold seekV at hsk
      subst ha1 ha2
      have x1' : (0 : Int) ≤ (pp : Int) := by omega
      have x2' : (pp : Int) < (n1 : Int) := by omega
      have x3' : (0 : Int) ≤ (qq : Int) := by omega
      have x4' : (qq : Int) < (n2 : Int) := by omega
      have x5' : decide ((pp : Int) < 0) = false := decide_eq_false (by omega)
      have hD : Hid (∀ W, Below W7.heap.size W7 W → (W.cell? ⟨ga, 1, none⟩ = some (.slice (some ⟨b1, 0, none⟩) n1 c1) ∧ W.cell? ⟨gb, 1, none⟩ = some (.slice (some ⟨b2, 0, none⟩) n2 c2)) ∧ (W.cell? ⟨b1, pp * 4, none⟩ = some (.string k1) ∧ W.cell? ⟨b1, pp * 4 + 1, none⟩ = some (.string w1') ∧ W.cell? ⟨b1, pp * 4 + 2, none⟩ = some (.string kl1) ∧ W.cell? ⟨b1, pp * 4 + 3, none⟩ = some (.string kr1)) ∧ (W.cell? ⟨b2, qq * 4, none⟩ = some (.string k2) ∧ W.cell? ⟨b2, qq * 4 + 1, none⟩ = some (.string w2') ∧ W.cell? ⟨b2, qq * 4 + 2, none⟩ = some (.string kl2) ∧ W.cell? ⟨b2, qq * 4 + 3, none⟩ = some (.string kr2))) := fun W hW => ⟨⟨Lib.cell_of_heap (below_cells hW nA7) 1, Lib.cell_of_heap (below_cells hW nB7) 1⟩, hc1 W hW, hc2 W hW⟩
      clear e1 e2 e3 e4 r1 r2 nA7 nB7 hR hc1 hc2 hz1 hz2 hp1 hp2
      go_upto_region 8 with (first | (go_at_call 38; refine hsk.mono ?_; rintro e W8 ⟨rfl, hb8⟩))
      clear l0 l1 l2 l3 l4 l5 l6 l7 hsk
      go_region_held3 (fun W => (W.cell? ⟨ga, 1, none⟩ = some (.slice (some ⟨b1, 0, none⟩) n1 c1) ∧ W.cell? ⟨gb, 1, none⟩ = some (.slice (some ⟨b2, 0, none⟩) n2 c2)) ∧ (W.cell? ⟨b1, pp * 4, none⟩ = some (.string k1) ∧ W.cell? ⟨b1, pp * 4 + 1, none⟩ = some (.string w1') ∧ W.cell? ⟨b1, pp * 4 + 2, none⟩ = some (.string kl1) ∧ W.cell? ⟨b1, pp * 4 + 3, none⟩ = some (.string kr1)) ∧ (W.cell? ⟨b2, qq * 4, none⟩ = some (.string k2) ∧ W.cell? ⟨b2, qq * 4 + 1, none⟩ = some (.string w2') ∧ W.cell? ⟨b2, qq * 4 + 2, none⟩ = some (.string kl2) ∧ W.cell? ⟨b2, qq * 4 + 3, none⟩ = some (.string kr2))) (first | exact hD.out _ hx10 | exact hD.out _ hx9 | exact hD.out _ hb8 | exact hD.out _ hb8.drew) (first | (go_at_call_of 40 (Value.agg #[.string k1, .string w1', .string kl1, .string kr1]); refine (HE1.out _).mono ?_; rintro e W9 ⟨rfl, hb9⟩; have hx9 : Below W7.heap.size W7 W9 := hb8.drew.trans (hb9.mono hb8.size)) | (go_at_call_of 39 (Value.string E1); refine (HT1.out _).mono ?_; rintro e Wz ⟨rfl, rfl⟩) | (go_at_call_of 40 (Value.agg #[.string k2, .string w2', .string kl2, .string kr2]); refine (HE2.out _).mono ?_; rintro e W10 ⟨rfl, hb10⟩; have hx10 : Below W7.heap.size W7 W10 := hx9.trans (hb10.mono hx9.size)) | (go_at_call_of 39 (Value.string E2); refine (HT2.out _).mono ?_; rintro e Wy ⟨rfl, rfl⟩))
      go_wp2_with fail
      exact bodyPost_ret (v := .tuple #[.string T1, .string T2, .bool true]) (by simp [results, Tryz.results9, go_sem]) rfl ⟨by rw [hv.out], hw7.trans (hx10.mono hw7.size)⟩
end Go.Proofs.YtibjhkpgaaapaaaGreatDoor
