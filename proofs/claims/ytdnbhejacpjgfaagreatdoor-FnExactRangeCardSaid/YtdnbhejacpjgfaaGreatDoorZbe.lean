import Derived.Test.YtdnbhejacpjgfaaGreatDoorZbd
namespace Go.Proofs.YtdnbhejacpjgfaaGreatDoor
open Go.RowKit Go.Proofs.Sha

set_option maxRecDepth 100000 in
set_option maxHeartbeats 2000000 in
theorem law_rg {K : World → Prop} (keep : Hid (∀ w1 w2, K w1 → Below w1.heap.size w1 w2 → K w2)) (n : Int) (a : Option Addr) (ss : List ByteArray) (c : Nat) (root lo hi : ByteArray) (w : World) (h : RArg a ss w) (hN : ss.length ≤ maxLen) (hM : ∀ j, (ss.getD j ⟨#[]⟩).size ≤ maxLen) (hr : root.size ≤ maxLen) (hlo : lo.size ≤ maxLen) (hhi : hi.size ≤ maxLen) (hK : K w)
    (P : List PairT) (xc : Int) (hP5 : P.length ≤ 500) (hPs : SmallP P)
    (H5 : Hid (root.size ≤ 1048576 → lo.size ≤ 1048576 → hi.size ≤ 1048576 → SmallS ss → ∀ g w', SArg (some ⟨g, 0, none⟩) ss w' → Calls Tryz.prog 5 #[.agg #[.int .i64 n, .slice (some ⟨g, 0, none⟩) ss.length ss.length], .string root, .string lo, .string hi] w' (RangeAt (P, xc) w')))
    (H7 : Hid (root.size ≤ 1048576 → ∀ g w', SArg (some ⟨g, 0, none⟩) ss w' → K w' → Calls Tryz.prog 7 #[.agg #[.int .i64 n, .slice (some ⟨g, 0, none⟩) ss.length ss.length], .string root, .string lo, .string hi] w' (RangeAt (P, xc) w'))) :
    Calls Tryz.prog 3 #[.agg #[.int .i64 n, .slice a ss.length c], .string root, .string lo, .string hi] w fun e w' => e = .returned (.bool true) ∧ Below w.heap.size w w' := by
  unfold maxLen at hr hlo hhi
  have hb0 : Below w.heap.size w (w.alloc (.cells #[.int .i64 n, .slice a ss.length c] 24)) := (Below.refl _ _).alloc (Nat.le_refl _) _
  by_cases hx0 : 1048576 < root.size
  · have z1 : decide ((1048576 : Int) < (root.size : Int)) = true := by rw [decide_eq_true_eq]; omega
    go_enter Tryz.func3, Tryz.ntmps3
    go_wp2_with fail
    go_ret
    exact ⟨rfl, hb0⟩
  have z1 : decide ((1048576 : Int) < (root.size : Int)) = false := by rw [decide_eq_false_iff_not]; omega
  by_cases hx1 : 1048576 < lo.size
  · have z2 : decide ((1048576 : Int) < (lo.size : Int)) = true := by rw [decide_eq_true_eq]; omega
    go_enter Tryz.func3, Tryz.ntmps3
    go_wp2_with fail
    go_ret
    exact ⟨rfl, hb0⟩
  have z2 : decide ((1048576 : Int) < (lo.size : Int)) = false := by rw [decide_eq_false_iff_not]; omega
  by_cases hx2 : 1048576 < hi.size
  · have z3 : decide ((1048576 : Int) < (hi.size : Int)) = true := by rw [decide_eq_true_eq]; omega
    go_enter Tryz.func3, Tryz.ntmps3
    go_wp2_with fail
    go_ret
    exact ⟨rfl, hb0⟩
  have z3 : decide ((1048576 : Int) < (hi.size : Int)) = false := by rw [decide_eq_false_iff_not]; omega
  have HS : Hid (∀ w', RArg a ss w' → Calls Tryz.prog 4 #[.agg #[.int .i64 n, .slice a ss.length c], .int .i64 1048576] w' fun e w'' => ∃ r : Int, e = .returned (.int .i64 r) ∧ Hid (0 ≤ r → SmallS ss) ∧ Below w'.heap.size w' w'') := fun w' h' => szPool_any n a ss c w' h' hN hM
  have HT : Hid (SmallS ss → ∀ w', RArg a ss w' → Calls Tryz.prog 6 #[.agg #[.int .i64 n, .slice a ss.length c]] w' fun e w'' => ∃ g, e = .returned (.agg #[.int .i64 n, .slice (some ⟨g, 0, none⟩) ss.length ss.length]) ∧ Row w'' w'.heap.size g ss.length ss.length (ss.map Value.string) ∧ SArg (some ⟨g, 0, none⟩) ss w'' ∧ Below w'.heap.size w' w'') := fun hs w' h' => by
    refine (toPool_row n a ss c w' (h'.sarg hs)).mono ?_
    rintro e w'' ⟨g, he, hrow, hb⟩
    exact ⟨g, he, hrow, Row.sarg hrow hs, hb⟩
  have HQ : Hid (∀ g g2 w', SArg (some ⟨g, 0, none⟩) ss w' → SArg (some ⟨g2, 0, none⟩) ss w' → Calls Tryz.prog 9 #[.agg #[.int .i64 n, .slice (some ⟨g, 0, none⟩) ss.length ss.length], .agg #[.int .i64 n, .slice (some ⟨g2, 0, none⟩) ss.length ss.length]] w' fun e w'' => e = .returned (.bool true) ∧ Below w'.heap.size w' w'') := fun g g2 w' hw hw2 => eqPool_same n _ _ ss _ _ w' hw hw2
  have HE : Hid (∀ a1 c1 a2 c2 w', PArg a1 P w' → PArg a2 P w' → Calls Tryz.prog 8 #[.slice a1 P.length c1, .slice a2 P.length c2] w' fun e w'' => e = .returned (.bool true) ∧ Below w'.heap.size w' w'') := fun a1 c1 a2 c2 w' q1 q2 => eqPairS_any a1 a2 P c1 c2 w' q1 q2
  obtain ⟨M, hMM⟩ := mark_ex
  have HM : Hid (MarkSaid M) := hMM
  clear hMM hM hN
  go_enter Tryz.func3, Tryz.ntmps3
  go_wp2_with fail
  refine (HS.out _ (h.below hb0)).mono ?_
  rintro e w1 ⟨x1, rfl, HX, hb1⟩
  have hn1 := pblk_below hb1 (heap_alloc_new w (.cells #[.int .i64 n, .slice a ss.length c] 24))
  have hw1 : Below w.heap.size w w1 := hb0.trans (hb1.mono (by simp))
  clear hb1 hb0
  by_cases hx : x1 < 0
  · have zx : decide (x1 < 0) = true := decide_eq_true hx
    clear hx
    go_wp2_with fail
    go_ret
    exact ⟨rfl, hw1⟩
  have hs := HX.out (by omega)
  have zx : decide (x1 < 0) = false := decide_eq_false hx
  have H5' : Hid (∀ g w', SArg (some ⟨g, 0, none⟩) ss w' → Calls Tryz.prog 5 #[.agg #[.int .i64 n, .slice (some ⟨g, 0, none⟩) ss.length ss.length], .string root, .string lo, .string hi] w' (RangeAt (P, xc) w')) := H5.out (by omega) (by omega) (by omega) hs
  have H7' : Hid (∀ g w', SArg (some ⟨g, 0, none⟩) ss w' → K w' → Calls Tryz.prog 7 #[.agg #[.int .i64 n, .slice (some ⟨g, 0, none⟩) ss.length ss.length], .string root, .string lo, .string hi] w' (RangeAt (P, xc) w')) := H7.out (by omega)
  have HT' : Hid (∀ w', RArg a ss w' → Calls Tryz.prog 6 #[.agg #[.int .i64 n, .slice a ss.length c]] w' fun e w'' => ∃ g, e = .returned (.agg #[.int .i64 n, .slice (some ⟨g, 0, none⟩) ss.length ss.length]) ∧ Row w'' w'.heap.size g ss.length ss.length (ss.map Value.string) ∧ SArg (some ⟨g, 0, none⟩) ss w'' ∧ Below w'.heap.size w' w'') := HT.out hs
  have hsl : ss.length ≤ 1048576 := hs.1
  clear H5 H7 HT HX hx hs HS hx0 hx1 hx2 hr hlo hhi
  obtain ⟨ga, hga⟩ : ∃ ga, w.heap.size = ga := ⟨_, rfl⟩
  rw [hga] at hn1
  rw [hga]
  have hgaH : Hid (w.heap.size = ga) := hga
  clear hga
  have c0 := Lib.cell_of_heap hn1 0
  have c1 := Lib.cell_of_heap hn1 1
  go_wp2_with fail
  refine (HT'.out _ (h.below hw1)).mono ?_
  rintro e w2 ⟨g2, rfl, _, hi2, hb2⟩
  have hn2 := pblk_below hb2 hn1
  have hw2 := hw1.trans (hb2.mono hw1.size)
  clear hb2 hn1 hw1 c0 c1
  go_wp2_with fail
  refine (H5'.out _ _ hi2).mono ?_
  rintro e w3 ⟨⟨aw, cw, rfl, ow⟩, hb3⟩
  simp only at ow
  have pw3 := own_parg ow hPs
  have lw3 : ∀ b off, aw = some ⟨b, off, none⟩ → b < w3.heap.size := fun b off e => (own_in ow b off e).2
  have hn3 := pblk_below hb3 hn2
  have hw3 := hw2.trans (hb3.mono hw2.size)
  clear hb3 hn2 hw2 hi2 ow
  have c0 := Lib.cell_of_heap hn3 0
  have c1 := Lib.cell_of_heap hn3 1
  go_wp2_with fail
  refine (HT'.out _ (h.below hw3)).mono ?_
  rintro e w5 ⟨g5, rfl, rx5, hi5, hb5⟩
  have hn5 := pblk_below hb5 hn3
  have pw5 := pw3.below hb5
  have hw5 := hw3.trans (hb5.mono hw3.size)
  have lw5 : ∀ b off, aw = some ⟨b, off, none⟩ → b < g5 := fun b off e => by have := lw3 b off e; have := rx5.ge; omega
  have hga5 : ga < g5 := by have := rx5.ge; have := (Array.getElem?_eq_some_iff.1 hn3).1; omega
  have rx5' := rx5.mono hw3.size
  clear hb5 hn3 hw3 c0 c1 pw3 lw3 rx5
  have al5 : Below w5.heap.size w5 (w5.alloc (.cells #[.int .i64 n, .slice (some ⟨g5, 0, none⟩) ss.length ss.length] 29)) := (Below.refl _ _).alloc (Nat.le_refl _) _
  have hw6 := hw5.trans (al5.mono hw5.size)
  have hn6 := pblk_below al5 hn5
  have pw6 := pw5.below al5
  have hi6 := hi5.below al5
  have rx6 := rx5'.below al5
  have nX := heap_alloc_new w5 (.cells #[.int .i64 n, .slice (some ⟨g5, 0, none⟩) ss.length ss.length] 29)
  have hg5 : g5 < w5.heap.size := rx5'.lt
  obtain ⟨gx, hgx⟩ : ∃ gx, w5.heap.size = gx := ⟨_, rfl⟩
  rw [hgx] at nX hg5
  clear al5 hn5 pw5 hw5 hi5 rx5'
  go_upto_region 13 with fail
  generalize w5.alloc (.cells #[.int .i64 n, .slice (some ⟨g5, 0, none⟩) ss.length ss.length] 29) = W6 at hw6 hn6 pw6 hi6 rx6 nX ⊢
  clear hgx
  have d0 := Lib.cell_of_heap nX 0
  have d1 := Lib.cell_of_heap nX 1
  have hgxl : gx < W6.heap.size := (Array.getElem?_eq_some_iff.1 nX).1
  go_wp2_with fail
  refine (H7'.out _ _ hi6 (keep.out _ _ hK hw6)).mono ?_
  rintro e w7 ⟨⟨ag, cg, rfl, og⟩, hb7⟩
  simp only at og
  have pg7 := own_parg og hPs
  have rg7 := own_prow og
  have lg7 : ∀ b off, ag = some ⟨b, off, none⟩ → W6.heap.size ≤ b := fun b off e => (own_in og b off e).1
  have hn7 := pblk_below hb7 hn6
  have nX7 := pblk_below hb7 nX
  have hi7 := hi6.below hb7
  have pw7 := pw6.below hb7
  have rx7 := rx6.below hb7
  have hw7 := hw6.trans (hb7.mono hw6.size)
  clear hb7 hn6 nX hi6 pw6 rx6 d0 d1 og
  have y : (xc != xc) = false := by simp
  have HE1 := HE.out ag cg aw cw w7 pg7 pw7
  go_upto_region 16 with (first | (go_at_call 8; refine HE1.mono ?_; rintro e w9 ⟨rfl, hb9⟩))
  have hn9 := pblk_below hb9 hn7
  have nX9 := pblk_below hb9 nX7
  have hi9 := hi7.below hb9
  have pw9 := pw7.below hb9
  have pg9 := pg7.below hb9
  have rg9 := rg7.below hb9
  have rx9 := rx7.below hb9
  have hw9 := hw7.trans (hb9.mono hw7.size)
  clear hb9 hn7 nX7 hi7 pw7 pg7 rg7 rx7 hw7 HE1
  have c0 := Lib.cell_of_heap hn9 0
  have c1 := Lib.cell_of_heap hn9 1
  have d0 := Lib.cell_of_heap nX9 0
  have d1 := Lib.cell_of_heap nX9 1
  have hC : Hid (∀ W : World, Below w9.heap.size w9 W → W.cell? ⟨ga, 0, none⟩ = some (.int .i64 n) ∧ W.cell? ⟨ga, 1, none⟩ = some (.slice a ss.length c) ∧ W.cell? ⟨gx, 0, none⟩ = some (.int .i64 n) ∧ W.cell? ⟨gx, 1, none⟩ = some (.slice (some ⟨g5, 0, none⟩) ss.length ss.length)) := fun W hW => ⟨Lib.cell_of_heap (pblk_below hW hn9) 0, Lib.cell_of_heap (pblk_below hW hn9) 1, Lib.cell_of_heap (pblk_below hW nX9) 0, Lib.cell_of_heap (pblk_below hW nX9) 1⟩
  go_region_held3 (fun W => W.cell? ⟨ga, 0, none⟩ = some (.int .i64 n) ∧ W.cell? ⟨ga, 1, none⟩ = some (.slice a ss.length c) ∧ W.cell? ⟨gx, 0, none⟩ = some (.int .i64 n) ∧ W.cell? ⟨gx, 1, none⟩ = some (.slice (some ⟨g5, 0, none⟩) ss.length ss.length)) (first | exact ⟨c0, c1, d0, d1⟩ | exact hC.out _ hx10 | exact hC.out _ hx11) (first | (go_at_call 6; refine (HT'.out _ ((h.below hw9).below (Below.refl w9.heap.size w9).drew)).mono ?_; rintro e w10 ⟨g10, rfl, _, hi10, hb10⟩; have hx10 : Below w9.heap.size w9 w10 := (Below.refl w9.heap.size w9).drew.trans hb10; have hi10' := hi9.below hx10; clear hb10) | (go_at_call 9; refine (HQ.out _ _ _ hi10' hi10).mono ?_; rintro e w11 ⟨rfl, hb11⟩; have hx11 : Below w9.heap.size w9 w11 := hx10.trans (hb11.mono hx10.size)))
  have hw11 := hw9.trans (hx11.mono hw9.size)
  have hn11 := pblk_below hx11 hn9
  have nX11 := pblk_below hx11 nX9
  have pw11 := pw9.below hx11
  have pg11 := pg9.below hx11
  have rg11 := rg9.below hx11
  have rx11 := rx9.below hx11
  clear hn9 nX9 hi9 pw9 pg9 rg9 rx9 hw9 c0 c1 d0 d1 hC hi10 hi10' hb11 hx10 hx11 HQ
  have d0 := Lib.cell_of_heap nX11 0
  have d1 := Lib.cell_of_heap nX11 1
  have HMk := markPool_any M HM w.heap.size g5 ss.length 1 n _ w11 rx11 (Nat.le_refl _) (by omega) hw11.size
  obtain ⟨p, hp⟩ : ∃ p : Nat, 1 + ss.length = p := ⟨_, rfl⟩
  rw [hp] at HMk
  have hgg : Hid (w.heap.size ≤ g5) := rx11.ge
  have zp : decide ((p : Int) < 0) = false := by rw [decide_eq_false_iff_not]; omega
  clear hp rx11
  go_upto_region 20 with (first | (go_at_call 10; refine HMk.mono ?_; rintro e w12 ⟨rfl, hg12⟩))
  have hw12 : Below w.heap.size w w12 := hw11.trans (below_of_grown hg12 hgg.out hw11.size)
  have hn12 := (hg12.block ga (Array.getElem?_eq_some_iff.1 hn11).1 (by intro e; have := Option.some.inj e; omega)).trans hn11
  have pw12 := pw11.grown hg12 (fun b off e _ q => by have := lw5 b off e; have := Option.some.inj q; omega)
  have pg12 := pg11.grown hg12 (fun b off e _ q => by have := lg7 b off e; have := Option.some.inj q; omega)
  have rg12 : PRow w12 W6.heap.size ag P.length cg (flatP P) := by
    rcases rg11 with h0 | ⟨g, e, hr⟩
    · exact .inl h0
    · exact .inr ⟨g, e, hr.kept hg12 (fun q => by have := lg7 g 0 e; have := Option.some.inj q; omega)⟩
  clear hn11 pw11 pg11 rg11 hw11 hg12 HMk nX11 d0 d1
  have HE2 := HE.out ag cg aw cw w12 pg12 pw12
  go_upto_region 23 with (first | (go_at_call 8; refine HE2.mono ?_; rintro e w13 ⟨rfl, hb13⟩))
  have hn13 := pblk_below hb13 hn12
  have pw13 := pw12.below hb13
  have rg13 := rg12.below hb13
  have hw13 := hw12.trans (hb13.mono hw12.size)
  clear hb13 hn12 pw12 pg12 rg12 hw12 HE2
  have HM2 := markP_any M HM W6.heap.size P.length cg 1 ag _ w13 rg13 (Nat.le_refl _) (by omega)
  have HH2 : Hid (∀ w', PRow w' W6.heap.size ag P.length cg (marksV M 1 (P.length * 2)) → Calls Tryz.prog 12 #[.slice ag P.length cg, .int .i64 1] w' fun e w'' => e = .returned (.int .i64 ((1 + P.length * 2 : Nat) : Int)) ∧ Below w'.heap.size w' w'') := fun w' q => heldP_any M HM W6.heap.size P.length cg 1 ag w' q (Nat.le_refl _) (by omega)
  generalize marksV M 1 (P.length * 2) = mV at HM2 HH2
  obtain ⟨m, hm⟩ : ∃ m : Nat, 1 + P.length * 2 = m := ⟨_, rfl⟩
  rw [hm] at HM2 HH2
  have zm : decide ((m : Int) < 0) = false := by rw [decide_eq_false_iff_not]; omega
  have zm2 : ((m : Int) != (m : Int)) = false := by simp
  clear hm
  go_upto_region 24 with (first | (go_at_call 11; refine HM2.mono ?_; rintro e w14 ⟨rfl, rg14, hg14⟩))
  have hrow : ∀ q, (if P.length = 0 then none else (Value.slice ag P.length cg).ownBlock) = some q → W6.heap.size ≤ q := fun q hq => by
    by_cases h0 : P.length = 0
    · rw [if_pos h0] at hq; cases hq
    · rw [if_neg h0] at hq
      cases ag with
      | none => cases hq
      | some x =>
        obtain ⟨b, o, el⟩ := x
        rcases rg13 with h | ⟨g, e, hr⟩
        · exact absurd h h0
        · cases e; cases hq; exact hr.ge
  have hw14 : Below w.heap.size w w14 := hw13.grown hg14 hw13.size (fun q hq => by have := hrow q hq; have := hw6.size; omega)
  have hn14 := (hg14.block ga (Array.getElem?_eq_some_iff.1 hn13).1 (by intro e; have := hrow ga e.symm; omega)).trans hn13
  have pw14 := pw13.grown hg14 (fun b off e _ q => by have := lw5 b off e; have := hrow b q.symm; omega)
  clear hn13 pw13 rg13 hw13 hg14 HM2 hrow
  go_upto_region 30 with (first | (go_at_call 12; refine (HH2.out _ rg14).mono ?_; rintro e w15 ⟨rfl, hb15⟩))
  have hn15 := pblk_below hb15 hn14
  have pw15 := pw14.below hb15
  have hw15 := hw14.trans (hb15.mono hw14.size)
  clear hb15 hn14 pw14 rg14 hw14 HH2
  have c0 := Lib.cell_of_heap hn15 0
  have c1 := Lib.cell_of_heap hn15 1
  go_wp2_with fail
  refine (HT'.out _ (h.below hw15)).mono ?_
  rintro e w16 ⟨g16, rfl, _, hi16, hb16⟩
  have pw16 := pw15.below hb16
  have hw16 := hw15.trans (hb16.mono hw15.size)
  clear hb16 pw15 hw15 c0 c1 hn15
  go_wp2_with fail
  refine (H7'.out _ _ hi16 (keep.out _ _ hK hw16)).mono ?_
  rintro e w17 ⟨⟨ah, ch, rfl, oh⟩, hb17⟩
  simp only at oh
  have ph17 := own_parg oh hPs
  have pw17 := pw16.below hb17
  have hw17 := hw16.trans (hb17.mono hw16.size)
  clear hb17 pw16 hw16 hi16 oh
  have HE3 := HE.out ah ch aw cw w17 ph17 pw17
  go_wp2_with (first | (go_at_call 8; refine HE3.mono ?_; rintro e w18 ⟨rfl, hb18⟩))
  go_ret
  exact ⟨rfl, hw17.trans (hb18.mono hw17.size)⟩
end Go.Proofs.YtdnbhejacpjgfaaGreatDoor
