import Derived.Test.YtliapnhckdimoacGreatDoorZk
namespace Go.Proofs.YtliapnhckdimoacGreatDoor
open Go.RowKit Go.Proofs.Sha

set_option maxRecDepth 100000 in
set_option maxHeartbeats 2000000 in
theorem law_sc {K : World → Prop} (keep : Hid (∀ w1 w2, K w1 → Below w1.heap.size w1 w2 → K w2)) (s : ByteArray) (n : Int) (hs : s.size ≤ 1048576) (R : Nat → RecT) (wd : Nat) (HE : Hid (EndOk R wd)) (H4 : Hid (∀ w', Calls Tryz.prog 4 #[.string s, .int .i64 n] w' (ScanPost R wd w'))) (H5 : Hid (∀ w', K w' → Calls Tryz.prog 5 #[.string s, .int .i64 n] w' (ScanPost R wd w')))
    (w : World) (hK : K w) : Calls Tryz.prog 3 #[.string s, .int .i64 n] w fun e w' => e = .returned (.bool true) ∧ Below w.heap.size w w' := by
  obtain ⟨M, hM⟩ := mark_ex
  have HM : Hid (MarkSaid M) := hM
  clear hM
  have z0 : decide ((s.size : Int) > 1048576) = false := by rw [decide_eq_false_iff_not]; omega
  have z1 : decide ((1048576 : Int) < (s.size : Int)) = false := by rw [decide_eq_false_iff_not]; omega
  go_enter Tryz.func3, Tryz.ntmps3
  go_upto_region 3 with fail
  go_upto_region 4 with (first | (go_at_call 4; refine (H4.out _).mono ?_; rintro e w1 ⟨st, aN0, cN0, aR0, cR0, rfl, hre, hend, oN0, oR0, hd0, hb1⟩))
  obtain ⟨hlen, hszN, hszR⟩ := HE.out st hre
  have hreH : Hid _ := hre
  have hendH : Hid _ := hend
  clear hre hend hd0 H4
  obtain ⟨⟨N, A, Rs, fin, sec⟩, hst⟩ : ∃ s2 : SS, st = s2 := ⟨_, rfl⟩
  have sN0 : SArg aN0 st.nodes w1 := own_sarg oN0 (by omega) hszN
  have sR0 : SArg aR0 st.roots w1 := own_sarg oR0 (by omega) hszR
  subst hst
  simp only at hlen hszN hszR sN0 sR0 oN0 oR0 ⊢
  have al1 : Below w1.heap.size w1 (w1.alloc (.cells #[.slice aN0 N.length cN0, .slice aR0 Rs.length cR0, .int .i64 (fin : Int)] 24)) := (Below.refl _ _).alloc (Nat.le_refl _) _
  have nW := heap_alloc_new w1 (.cells #[.slice aN0 N.length cN0, .slice aR0 Rs.length cR0, .int .i64 (fin : Int)] 24)
  have sN1 := sN0.below al1
  have sR1 := sR0.below al1
  have hw2 := hb1.trans (al1.mono hb1.size)
  obtain ⟨gw, hgw⟩ : ∃ gw, w1.heap.size = gw := ⟨_, rfl⟩
  rw [hgw] at nW
  try rw [hgw]
  generalize w1.alloc (.cells #[.slice aN0 N.length cN0, .slice aR0 Rs.length cR0, .int .i64 (fin : Int)] 24) = W2 at nW sN1 sR1 hw2 ⊢
  clear al1 sN0 sR0 oN0 oR0 hb1 hgw
  go_upto_region 5 with (first | (go_at_call 5; refine (H5.out _ (keep.out _ _ hK hw2)).mono ?_; rintro e w3 ⟨st, aN1, cN1, aR1, cR1, rfl, hre, hend, oN, oR, hd, hb3⟩))
  obtain rfl := hre.one hreH.out hend hendH.out
  simp only at oN oR hd ⊢
  clear hre hend
  have nW3 := sblk nW hb3
  have sN3 := sN1.below hb3
  have sR3 := sR1.below hb3
  have hw3 := hw2.trans (hb3.mono hw2.size)
  have al3 : Below w3.heap.size w3 (w3.alloc (.cells #[.slice aN1 N.length cN1, .slice aR1 Rs.length cR1, .int .i64 (fin : Int)] 24)) := (Below.refl _ _).alloc (Nat.le_refl _) _
  have nG := heap_alloc_new w3 (.cells #[.slice aN1 N.length cN1, .slice aR1 Rs.length cR1, .int .i64 (fin : Int)] 24)
  have nW4 := sblk nW3 al3
  have sN4 := sN3.below al3
  have sR4 := sR3.below al3
  have hw4 := hw3.trans (al3.mono hw3.size)
  have oN4 := oN.alloc (.cells #[.slice aN1 N.length cN1, .slice aR1 Rs.length cR1, .int .i64 (fin : Int)] 24)
  have oR4 := oR.alloc (.cells #[.slice aN1 N.length cN1, .slice aR1 Rs.length cR1, .int .i64 (fin : Int)] 24)
  obtain ⟨gg, hgg⟩ : ∃ gg, w3.heap.size = gg := ⟨_, rfl⟩
  rw [hgg] at nG
  try rw [hgg]
  have hlN : ∀ g, (Value.slice aN1 N.length cN1).ownBlock = some g → W2.heap.size ≤ g ∧ g < gg := fun g e => by obtain ⟨q1, q2, _⟩ := own_cells oN e; omega
  have hlR : ∀ g, (Value.slice aR1 Rs.length cR1).ownBlock = some g → W2.heap.size ≤ g ∧ g < gg := fun g e => by obtain ⟨q1, q2, _⟩ := own_cells oR e; omega
  have hgw : gw < W2.heap.size := (Array.getElem?_eq_some_iff.1 nW).1
  have hlt0N : ∀ b off, aN0 = some ⟨b, off, none⟩ → 0 < N.length → b < W2.heap.size := fun b off e hn => by obtain ⟨b', o', e', hl, _⟩ := sN1.at_ hn; rw [e] at e'; cases e'; exact hl
  have hlt0R : ∀ b off, aR0 = some ⟨b, off, none⟩ → 0 < Rs.length → b < W2.heap.size := fun b off e hn => by obtain ⟨b', o', e', hl, _⟩ := sR1.at_ hn; rw [e] at e'; cases e'; exact hl
  have hz2 : W2.heap.size ≤ w3.heap.size := hb3.size
  generalize w3.alloc (.cells #[.slice aN1 N.length cN1, .slice aR1 Rs.length cR1, .int .i64 (fin : Int)] 24) = W4 at nG nW4 sN4 sR4 hw4 oN4 oR4 ⊢
  clear al3 nW3 sN3 sR3 hw3 oN oR hb3 nW sN1 sR1
  have tN : SArg aN1 N W4 := own_sarg oN4 (by omega) hszN
  have tR : SArg aR1 Rs W4 := own_sarg oR4 (by omega) hszR
  have HQ : Hid (Calls Tryz.prog 6 #[.agg #[.slice aN1 N.length cN1, .slice aR1 Rs.length cR1, .int .i64 (fin : Int)], .agg #[.slice aN0 N.length cN0, .slice aR0 Rs.length cR0, .int .i64 (fin : Int)]] W4 fun e w' => e = .returned (.bool true) ∧ Below W4.heap.size W4 w') := eqScanned_same aN1 cN1 aR1 cR1 aN0 cN0 aR0 cR0 N Rs (fin : Int) W4 tN tR sN4 sR4
  have c0 := Lib.cell_of_heap nG 0
  have c1 := Lib.cell_of_heap nG 1
  have c2 := Lib.cell_of_heap nG 2
  have d0 := Lib.cell_of_heap nW4 0
  have d1 := Lib.cell_of_heap nW4 1
  have d2 := Lib.cell_of_heap nW4 2
  clear tN tR
  go_upto_region 8 with (first | (go_at_call 6; refine HQ.out.mono ?_; rintro e w5 ⟨rfl, hb5⟩))
  have nG5 := sblk nG hb5
  have nW5 := sblk nW4 hb5
  have sN5 := sN4.below hb5
  have sR5 := sR4.below hb5
  have hw5 := hw4.trans (hb5.mono hw4.size)
  have rN5 : SRow w5 W2.heap.size aN1 N.length cN1 (N.map Value.string) := (own_srow oN4).below hb5
  have rR5 : SRow w5 W2.heap.size aR1 Rs.length cR1 (Rs.map Value.string) := (own_srow oR4).below hb5
  have hbs5 : W2.heap.size ≤ w5.heap.size := by have := hb5.size; have := (Array.getElem?_eq_some_iff.1 nG).1; omega
  have hdd : ∀ g, aN1 = some ⟨g, 0, none⟩ → aR1 ≠ some ⟨g, 0, none⟩ := fun g e1 e2 => hd g (by rw [e1]; rfl) (by rw [e2]; rfl)
  have HMk : Hid (Calls Tryz.prog 7 #[.agg #[.slice aN1 N.length cN1, .slice aR1 Rs.length cR1, .int .i64 (fin : Int)], .int .i64 1] w5 fun e w' => e = .returned (.int .i64 ((1 + N.length + Rs.length : Nat) : Int)) ∧ SRow w' W2.heap.size aN1 N.length cN1 (marksV M 1 N.length) ∧ SRow w' W2.heap.size aR1 Rs.length cR1 (marksV M (1 + N.length) Rs.length) ∧ Only aN1 aR1 w5 w') := markScanned_any M HM W2.heap.size aN1 N.length cN1 aR1 Rs.length cR1 (fin : Int) _ _ w5 rN5 rR5 hdd hbs5 (by omega)
  have HHd : Hid (∀ w', SRow w' W2.heap.size aN1 N.length cN1 (marksV M 1 N.length) → SRow w' W2.heap.size aR1 Rs.length cR1 (marksV M (1 + N.length) Rs.length) → Calls Tryz.prog 8 #[.agg #[.slice aN1 N.length cN1, .slice aR1 Rs.length cR1, .int .i64 (fin : Int)], .int .i64 1] w' fun e w'' => e = .returned (.int .i64 ((1 + N.length + Rs.length : Nat) : Int)) ∧ Below w'.heap.size w' w'') := fun w' q1 q2 => heldScanned_any M HM W2.heap.size aN1 N.length cN1 aR1 Rs.length cR1 (fin : Int) w' q1 q2 (by omega)
  generalize marksV M 1 N.length = mN at HMk HHd
  generalize marksV M (1 + N.length) Rs.length = mR at HMk HHd
  obtain ⟨p, hp⟩ : ∃ p : Nat, 1 + N.length + Rs.length = p := ⟨_, rfl⟩
  rw [hp] at HMk HHd
  clear hp HQ c0 c1 c2 d0 d1 d2 nG nW4 sN4 sR4 hw4 oN4 oR4 hb5 rN5 rR5 hd hdd
  have z2 : decide ((p : Int) < 0) = false := by rw [decide_eq_false_iff_not]; omega
  have z3 : ((p : Int) != (p : Int)) = false := by simp
  have c0 := Lib.cell_of_heap nG5 0
  have c1 := Lib.cell_of_heap nG5 1
  have c2 := Lib.cell_of_heap nG5 2
  go_upto_region 10 with (first | (go_at_call 7; refine HMk.out.mono ?_; rintro e w6 ⟨rfl, mN6, mR6, ho6⟩))
  have hn1 : ∀ k, (k < W2.heap.size ∨ gg ≤ k) → (∀ o, aN1 ≠ some ⟨k, o, none⟩) := fun k hk o e => by have := hlN k (by rw [e]; rfl); omega
  have hn2 : ∀ k, (k < W2.heap.size ∨ gg ≤ k) → (∀ o, aR1 ≠ some ⟨k, o, none⟩) := fun k hk o e => by have := hlR k (by rw [e]; rfl); omega
  have nG6 := (ho6.block gg (Array.getElem?_eq_some_iff.1 nG5).1 (hn1 gg (.inr (Nat.le_refl _))) (hn2 gg (.inr (Nat.le_refl _)))).trans nG5
  have nW6 := (ho6.block gw (Array.getElem?_eq_some_iff.1 nW5).1 (hn1 gw (.inl hgw)) (hn2 gw (.inl hgw))).trans nW5
  have sN6 := ho6.sarg sN5 (fun b off e hn => ⟨hn1 b (.inl (hlt0N b off e hn)), hn2 b (.inl (hlt0N b off e hn))⟩)
  have sR6 := ho6.sarg sR5 (fun b off e hn => ⟨hn1 b (.inl (hlt0R b off e hn)), hn2 b (.inl (hlt0R b off e hn))⟩)
  have hw6 : Below w.heap.size w w6 := hw5.trans ⟨ho6.os, ho6.tape, ho6.output, ho6.size, fun k hk => ho6.block k (Nat.lt_of_lt_of_le hk hw5.size) (hn1 k (.inl (Nat.lt_of_lt_of_le hk hw2.size))) (hn2 k (.inl (Nat.lt_of_lt_of_le hk hw2.size)))⟩
  clear c0 c1 c2 HMk nG5 nW5 sN5 sR5 hw5 ho6 hn1 hn2 hlN hlR hlt0N hlt0R
  have c0 := Lib.cell_of_heap nG6 0
  have c1 := Lib.cell_of_heap nG6 1
  have c2 := Lib.cell_of_heap nG6 2
  go_upto_region 15 with (first | (go_at_call 8; refine (HHd.out _ mN6 mR6).mono ?_; rintro e w7 ⟨rfl, hb7⟩))
  have nW7 := sblk nW6 hb7
  have sN7 := sN6.below hb7
  have sR7 := sR6.below hb7
  have hw7 := hw6.trans (hb7.mono hw6.size)
  clear c0 c1 c2 HHd nG6 nW6 sN6 sR6 hw6 hb7 mN6 mR6
  go_upto_region 16 with (first | (go_at_call 5; refine (H5.out _ (keep.out _ _ hK hw7)).mono ?_; rintro e w8 ⟨st, aN2, cN2, aR2, cR2, rfl, hre, hend, oN, oR, hd, hb8⟩))
  obtain rfl := hre.one hreH.out hend hendH.out
  simp only at oN oR hd ⊢
  clear hre hend hd
  have nW8 := sblk nW7 hb8
  have sN8 := sN7.below hb8
  have sR8 := sR7.below hb8
  have hw8 := hw7.trans (hb8.mono hw7.size)
  have al8 : Below w8.heap.size w8 (w8.alloc (.cells #[.slice aN2 N.length cN2, .slice aR2 Rs.length cR2, .int .i64 (fin : Int)] 24)) := (Below.refl _ _).alloc (Nat.le_refl _) _
  have nH := heap_alloc_new w8 (.cells #[.slice aN2 N.length cN2, .slice aR2 Rs.length cR2, .int .i64 (fin : Int)] 24)
  have nW9 := sblk nW8 al8
  have sN9 := sN8.below al8
  have sR9 := sR8.below al8
  have hw9 := hw8.trans (al8.mono hw8.size)
  have tN : SArg aN2 N (w8.alloc (.cells #[.slice aN2 N.length cN2, .slice aR2 Rs.length cR2, .int .i64 (fin : Int)] 24)) := own_sarg (oN.alloc _) (by omega) hszN
  have tR : SArg aR2 Rs (w8.alloc (.cells #[.slice aN2 N.length cN2, .slice aR2 Rs.length cR2, .int .i64 (fin : Int)] 24)) := own_sarg (oR.alloc _) (by omega) hszR
  obtain ⟨gh, hgh⟩ : ∃ gh, w8.heap.size = gh := ⟨_, rfl⟩
  rw [hgh] at nH
  try rw [hgh]
  generalize w8.alloc (.cells #[.slice aN2 N.length cN2, .slice aR2 Rs.length cR2, .int .i64 (fin : Int)] 24) = W9 at nH nW9 sN9 sR9 hw9 tN tR ⊢
  have HQ : Hid (Calls Tryz.prog 6 #[.agg #[.slice aN2 N.length cN2, .slice aR2 Rs.length cR2, .int .i64 (fin : Int)], .agg #[.slice aN0 N.length cN0, .slice aR0 Rs.length cR0, .int .i64 (fin : Int)]] W9 fun e w' => e = .returned (.bool true) ∧ Below W9.heap.size W9 w') := eqScanned_same aN2 cN2 aR2 cR2 aN0 cN0 aR0 cR0 N Rs (fin : Int) W9 tN tR sN9 sR9
  clear al8 nW8 sN8 sR8 hw8 oN oR hb8 nW7 sN7 sR7 hw7 tN tR hgh
  have c0 := Lib.cell_of_heap nH 0
  have c1 := Lib.cell_of_heap nH 1
  have c2 := Lib.cell_of_heap nH 2
  have d0 := Lib.cell_of_heap nW9 0
  have d1 := Lib.cell_of_heap nW9 1
  have d2 := Lib.cell_of_heap nW9 2
  go_wp2_with (first | (go_at_call 6; refine HQ.out.mono ?_; rintro e w10 ⟨rfl, hb10⟩))
  go_ret
  exact ⟨rfl, hw9.trans (hb10.mono hw9.size)⟩
end Go.Proofs.YtliapnhckdimoacGreatDoor
