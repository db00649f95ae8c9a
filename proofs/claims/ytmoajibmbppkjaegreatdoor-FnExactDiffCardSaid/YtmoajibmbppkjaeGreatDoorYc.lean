import Derived.Test.YtmoajibmbppkjaeGreatDoorYb
import Derived.Test.YtmoajibmbppkjaeGreatDoorZbd
import Derived.Test.YtmoajibmbppkjaeGreatDoorZbw
import Derived.ProofKit
import Derived.OpenShut
import Derived.ChangeSlices
import Derived.Deep.Strs
import Derived.Lib.SmallJoins
import Derived.Test.YtmoajibmbppkjaeGreatDoorCards
import Derived.Test.YtmoajibmbppkjaeGreatDoorTie
import Derived.Deep.DeepHandedRow
import Derived.Lib.LaidTab
namespace Go.Proofs.YtmoajibmbppkjaeGreatDoor
open Go.RowKit Go.Proofs.Sha

set_option maxRecDepth 100000 in
set_option maxHeartbeats 1000000 in
theorem heldC_any (M : Nat → ByteArray) (HM : Hid (MarkSaid M)) (base n c k0 : Nat) (a : Option Addr) (w : World) (h : CRow w base a n (marksC M k0 (n * 5))) (h1 : 1 ≤ k0) (h2 : k0 + n * 5 ≤ 4000000) :
    Calls Tryz.prog 35 #[.slice a n c, .int .i64 (k0 : Int)] w fun e w' => e = .returned (.int .i64 ((k0 + n * 5 : Nat) : Int)) ∧ Below w.heap.size w w' := by
  obtain ⟨z, hz⟩ : ∃ z : Int, ((k0 + n * 5 : Nat) : Int) = z := ⟨_, rfl⟩
  rw [hz]
  have HZ : Hid (((k0 + n * 5 : Nat) : Int) = z) := hz
  clear hz
  go_enter Tryz.func35, Tryz.ntmps35
  go_wp2_with fail
  go_loopw [1, 5] (fun t1 t5 wr => ∃ k : Nat, k ≤ n ∧ t1 = .int .i64 ((k0 + k * 5 : Nat) : Int) ∧ t5 = .int .i64 (k : Int) ∧ Below w.heap.size w wr) (fun _ t5 _ => n - (intOf t5).toNat)
  case atStart => exact ⟨0, Nat.zero_le _, rfl, rfl, Below.refl _ _⟩
  case round =>
    obtain ⟨k, hk, rfl, rfl, hbw⟩ := hrel
    by_cases hlt : k < n
    · have z1 : decide ((k : Int) < (n : Int)) = true := by simp; omega
      have hx0 : (0 : Int) ≤ (k : Int) := Int.natCast_nonneg _
      have hx1 : (k : Int) < (n : Int) := by omega
      have HK : ∀ i, i ≤ 4 → ∀ w', Calls Tryz.prog 57 #[.int .i64 ((k0 + (k * 5 + i) : Nat) : Int)] w' fun e w'' => e = .returned (.string (M (k0 + (k * 5 + i)))) ∧ Below w'.heap.size w' w'' := fun i hi w' => HM.out (k0 + (k * 5 + i)) (by omega) (by omega) w'
      rcases h.below hbw with h0 | ⟨g, rfl, hrow⟩
      · omega
      have hcell : ∀ W, Below wr.heap.size wr W → ∀ i, i ≤ 4 → W.cell? ⟨g, k * 5 + i, none⟩ = some (mkV M k0 (k * 5 + i)) := fun W hW i hi => by
        rw [(hrow.below hW).cell (k * 5 + i) (by omega), List.getElem?_eq_getElem (by rw [marksC_len]; omega), marksC_at]
      have K0 := HK 0 (by omega)
      have K2 := HK 2 (by omega)
      have K4 := HK 4 (by omega)
      have C0 := fun W hW => hcell W hW 0 (by omega)
      have C1 := fun W hW => hcell W hW 1 (by omega)
      have C2 := fun W hW => hcell W hW 2 (by omega)
      have C3 := fun W hW => hcell W hW 3 (by omega)
      have C4 := fun W hW => hcell W hW 4 (by omega)
      rw [mkV_s M k0 k 0 (.inl rfl)] at C0
      rw [mkV_b M k0 k 1 (.inl rfl)] at C1
      rw [mkV_s M k0 k 2 (.inr (.inl rfl))] at C2
      rw [mkV_b M k0 k 3 (.inr rfl)] at C3
      rw [mkV_s M k0 k 4 (.inr (.inr rfl))] at C4
      rw [show k0 + (k * 5 + 0) = k0 + k * 5 from rfl] at K0 C0
      rw [show k0 + (k * 5 + 2) = k0 + k * 5 + 2 from rfl] at K2 C2
      rw [show k0 + (k * 5 + 4) = k0 + k * 5 + 4 from rfl] at K4 C4
      rw [show k0 + (k * 5 + 1) = k0 + k * 5 + 1 from rfl] at C1
      rw [show k0 + (k * 5 + 3) = k0 + k * 5 + 3 from rfl] at C3
      obtain ⟨p, hp⟩ : ∃ p : Nat, k0 + k * 5 = p := ⟨_, rfl⟩
      rw [hp] at K0 K2 K4 C0 C1 C2 C3 C4 ⊢
      rw [show ((p + 2 : Nat) : Int) = (p : Int) + 1 + 1 by omega] at K2
      rw [show ((p + 4 : Nat) : Int) = (p : Int) + 1 + 1 + 1 + 1 by omega] at K4
      rw [show ((p + 1 : Nat) : Int) = (p : Int) + 1 by omega] at C1
      rw [show ((p + 3 : Nat) : Int) = (p : Int) + 1 + 1 + 1 by omega] at C3
      have hpb : p ≤ 4000000 := by omega
      have hpn : Hid (k0 + (k + 1) * 5 = p + 1 + 1 + 1 + 1 + 1) := by show _ = _; omega
      generalize M p = X0 at *
      generalize M (p + 2) = X2 at *
      generalize M (p + 4) = X4 at *
      have HC : Hid (∀ W : World, Below wr.heap.size wr W → W.cell? ⟨g, k * 5, none⟩ = some (.string X0) ∧ W.cell? ⟨g, k * 5 + 1, none⟩ = some (.bool (((p : Int) + 1) % 3 == 0)) ∧ W.cell? ⟨g, k * 5 + 2, none⟩ = some (.string X2) ∧ W.cell? ⟨g, k * 5 + 3, none⟩ = some (.bool (((p : Int) + 1 + 1 + 1) % 3 == 0)) ∧ W.cell? ⟨g, k * 5 + 4, none⟩ = some (.string X4)) := fun W hW => ⟨C0 W hW, C1 W hW, C2 W hW, C3 W hW, C4 W hW⟩
      replace K0 : Hid _ := K0
      replace K2 : Hid _ := K2
      replace K4 : Hid _ := K4
      clear hp HK hcell C0 C1 C2 C3 C4 hrow
      have q0 : (X0.toList != X0.toList) = false := by simp
      have q2 : (X2.toList != X2.toList) = false := by simp
      have q4 : (X4.toList != X4.toList) = false := by simp
      have d0 := (HC.out _ (Below.refl _ _)).1
      go_upto_region 4 with fail
      go_region_held3 (fun W => W.cell? ⟨g, k * 5, none⟩ = some (.string X0)) (first | exact d0 | exact (HC.out _ hb1).1) (first | (go_at_call 57; refine (K0.out _).mono ?_; rintro e w1 ⟨rfl, hb1'⟩; have hb1 : Below wr.heap.size wr w1 := (Below.refl wr.heap.size wr).drew.trans hb1'; clear hb1'))
      obtain ⟨_, d1, d2, _, _⟩ := HC.out _ hb1
      go_upto_region 10 with fail
      go_region_held3 (fun W => W.cell? ⟨g, k * 5 + 2, none⟩ = some (.string X2)) (first | exact d2 | exact (HC.out _ hb2).2.2.1) (first | (go_at_call 57; refine (K2.out _).mono ?_; rintro e w2 ⟨rfl, hb2'⟩; have hb2 : Below wr.heap.size wr w2 := hb1.trans (((Below.refl w1.heap.size w1).drew.trans hb2').mono hb1.size); clear hb2'))
      obtain ⟨_, _, _, d3, d4⟩ := HC.out _ hb2
      go_upto_region 16 with fail
      go_region_held3 (fun W => W.cell? ⟨g, k * 5 + 4, none⟩ = some (.string X4)) (first | exact d4 | exact (HC.out _ hb3).2.2.2.2) (first | (go_at_call 57; refine (K4.out _).mono ?_; rintro e w3 ⟨rfl, hb3'⟩; have hb3 : Below wr.heap.size wr w3 := hb2.trans (((Below.refl w2.heap.size w2).drew.trans hb3').mono hb2.size); clear hb3'))
      go_wp2_with fail
      go_roundw
      case rel => exact ⟨k + 1, hlt, by rw [hpn.out]; rfl, rfl, hbw.trans (hb3.mono hbw.size)⟩
      case measure => simp [intOf]; omega
    · obtain rfl : k = n := by omega
      have z1 : decide ((k : Int) < (k : Int)) = false := by simp
      rw [HZ.out]
      go_wp2_with fail
      go_ret
      exact ⟨rfl, hbw⟩
end Go.Proofs.YtmoajibmbppkjaeGreatDoor
namespace Go.Proofs.YtmoajibmbppkjaeGreatDoor
open Go.RowKit Go.Proofs.Sha

theorem diff_parts {X : List ChT × Int} {w w' : World} {e : Ending} (h : DiffAt X w e w') : (∃ a c, e = .returned (.tuple #[.slice a X.1.length c, .int .i64 X.2]) ∧ w'.ownsRow w.heap.size 115 5 (.slice a X.1.length c) X.1.length (flatC X.1)) ∧ Below w.heap.size w w' := by
  obtain ⟨a, c, he, ho⟩ := h
  exact ⟨⟨a, c, he, ho.own⟩, ho.bel⟩
theorem own_inC {w : World} {base n c : Nat} {a : Option Addr} {xs : List Value} (h : w.ownsRow base 115 5 (.slice a n c) n xs) (b off : Nat) (e : a = some ⟨b, off, none⟩) : base ≤ b ∧ b < w.heap.size := by
  obtain ⟨q1, q2, _⟩ := ownG_cells h (g := b) (by rw [e]; rfl)
  exact ⟨q1, q2⟩
set_option maxRecDepth 100000 in
set_option maxHeartbeats 2000000 in
theorem law_df {K : World → Prop} (keep : Hid (∀ w1 w2, K w1 → Below w1.heap.size w1 w2 → K w2)) (n : Int) (a : Option Addr) (ss : List ByteArray) (c : Nat) (root lo : ByteArray) (w : World) (h : RArg a ss w) (hN : ss.length ≤ maxLen) (hM : ∀ j, (ss.getD j ⟨#[]⟩).size ≤ maxLen) (hr : root.size ≤ maxLen) (hlo : lo.size ≤ maxLen) (hK : K w)
    (P : List ChT) (xc : Int) (hP5 : P.length ≤ 1000)
    (H5 : Hid (root.size ≤ 1048576 → lo.size ≤ 1048576 → SmallS ss → ∀ g w', SArg (some ⟨g, 0, none⟩) ss w' → Calls Tryz.prog 31 #[.agg #[.int .i64 n, .slice (some ⟨g, 0, none⟩) ss.length ss.length], .string root, .string lo] w' (DiffAt (P, xc) w')))
    (H7 : Hid (root.size ≤ 1048576 → lo.size ≤ 1048576 → ∀ g w', SArg (some ⟨g, 0, none⟩) ss w' → K w' → Calls Tryz.prog 32 #[.agg #[.int .i64 n, .slice (some ⟨g, 0, none⟩) ss.length ss.length], .string root, .string lo] w' (DiffAt (P, xc) w'))) :
    Calls Tryz.prog 6 #[.agg #[.int .i64 n, .slice a ss.length c], .string root, .string lo] w fun e w' => e = .returned (.bool true) ∧ Below w.heap.size w w' := by
  unfold maxLen at hr hlo
  have hb0 : Below w.heap.size w (w.alloc (.cells #[.int .i64 n, .slice a ss.length c] 24)) := (Below.refl _ _).alloc (Nat.le_refl _) _
  by_cases hx0 : 1048576 < root.size
  · have z1 : decide ((1048576 : Int) < (root.size : Int)) = true := by rw [decide_eq_true_eq]; omega
    go_enter Tryz.func6, Tryz.ntmps6
    go_wp2_with fail
    go_ret
    exact ⟨rfl, hb0⟩
  have z1 : decide ((1048576 : Int) < (root.size : Int)) = false := by rw [decide_eq_false_iff_not]; omega
  by_cases hx1 : 1048576 < lo.size
  · have z2 : decide ((1048576 : Int) < (lo.size : Int)) = true := by rw [decide_eq_true_eq]; omega
    go_enter Tryz.func6, Tryz.ntmps6
    go_wp2_with fail
    go_ret
    exact ⟨rfl, hb0⟩
  have z2 : decide ((1048576 : Int) < (lo.size : Int)) = false := by rw [decide_eq_false_iff_not]; omega
  have HS : Hid (∀ w', RArg a ss w' → Calls Tryz.prog 9 #[.agg #[.int .i64 n, .slice a ss.length c], .int .i64 1048576] w' fun e w'' => ∃ r : Int, e = .returned (.int .i64 r) ∧ Hid (0 ≤ r → SmallS ss) ∧ Below w'.heap.size w' w'') := fun w' h' => szPool_any n a ss c w' h' hN hM
  have HT : Hid (SmallS ss → ∀ w', RArg a ss w' → Calls Tryz.prog 11 #[.agg #[.int .i64 n, .slice a ss.length c]] w' fun e w'' => ∃ g, e = .returned (.agg #[.int .i64 n, .slice (some ⟨g, 0, none⟩) ss.length ss.length]) ∧ Row w'' w'.heap.size g ss.length ss.length (ss.map Value.string) ∧ SArg (some ⟨g, 0, none⟩) ss w'' ∧ Below w'.heap.size w' w'') := fun hs w' h' => by
    refine (toPool_row n a ss c w' (h'.sarg hs)).mono ?_
    rintro e w'' ⟨g, he, hrow, hb⟩
    exact ⟨g, he, hrow, Row.sarg hrow hs, hb⟩
  have HQ : Hid (∀ g g2 w', SArg (some ⟨g, 0, none⟩) ss w' → SArg (some ⟨g2, 0, none⟩) ss w' → Calls Tryz.prog 14 #[.agg #[.int .i64 n, .slice (some ⟨g, 0, none⟩) ss.length ss.length], .agg #[.int .i64 n, .slice (some ⟨g2, 0, none⟩) ss.length ss.length]] w' fun e w'' => e = .returned (.bool true) ∧ Below w'.heap.size w' w'') := fun g g2 w' hw hw2 => eqPool_same n _ _ ss _ _ w' hw hw2
  have HE : Hid (∀ a1 c1 a2 c2 b1 b2 w', CRow w' b1 a1 P.length (flatC P) → CRow w' b2 a2 P.length (flatC P) → Calls Tryz.prog 33 #[.slice a1 P.length c1, .slice a2 P.length c2] w' fun e w'' => e = .returned (.bool true) ∧ Below w'.heap.size w' w'') := fun a1 c1 a2 c2 b1 b2 w' q1 q2 => eqChangeS_any a1 a2 P c1 c2 b1 b2 w' hP5 q1 q2
  obtain ⟨M, hMM⟩ := mark_ex
  have HM : Hid (MarkSaid M) := hMM
  clear hMM hM hN
  go_enter Tryz.func6, Tryz.ntmps6
  go_wp2_with fail
  refine (HS.out _ (h.below hb0)).mono ?_
  rintro e w1 ⟨x1, rfl, HX, hb1⟩
  have hn1 := pblk_below hb1 (heap_alloc_new w (.cells #[.int .i64 n, .slice a ss.length c] 24))
  have hw1 : Below w.heap.size w w1 := hb0.trans (hb1.mono (by simp))
  clear hb1 hb0
  by_cases hx : x1 < 0
  · have zx : decide (x1 < 0) = true := decide_eq_true hx
    clear hx
    go_wp2_with fail
    go_ret
    exact ⟨rfl, hw1⟩
  have hs := HX.out (by omega)
  have zx : decide (x1 < 0) = false := decide_eq_false hx
  have H5' : Hid (∀ g w', SArg (some ⟨g, 0, none⟩) ss w' → Calls Tryz.prog 31 #[.agg #[.int .i64 n, .slice (some ⟨g, 0, none⟩) ss.length ss.length], .string root, .string lo] w' (DiffAt (P, xc) w')) := H5.out (by omega) (by omega) hs
  have H7' : Hid (∀ g w', SArg (some ⟨g, 0, none⟩) ss w' → K w' → Calls Tryz.prog 32 #[.agg #[.int .i64 n, .slice (some ⟨g, 0, none⟩) ss.length ss.length], .string root, .string lo] w' (DiffAt (P, xc) w')) := H7.out (by omega) (by omega)
  have HT' : Hid (∀ w', RArg a ss w' → Calls Tryz.prog 11 #[.agg #[.int .i64 n, .slice a ss.length c]] w' fun e w'' => ∃ g, e = .returned (.agg #[.int .i64 n, .slice (some ⟨g, 0, none⟩) ss.length ss.length]) ∧ Row w'' w'.heap.size g ss.length ss.length (ss.map Value.string) ∧ SArg (some ⟨g, 0, none⟩) ss w'' ∧ Below w'.heap.size w' w'') := HT.out hs
  have hsl : ss.length ≤ 1048576 := hs.1
  clear H5 H7 HT HX hx hs HS hx0 hx1 hr hlo
  obtain ⟨ga, hga⟩ : ∃ ga, w.heap.size = ga := ⟨_, rfl⟩
  rw [hga] at hn1
  rw [hga]
  have hgaH : Hid (w.heap.size = ga) := hga
  clear hga
  have c0 := Lib.cell_of_heap hn1 0
  have c1 := Lib.cell_of_heap hn1 1
  go_wp2_with fail
  refine (HT'.out _ (h.below hw1)).mono ?_
  rintro e w2 ⟨g2, rfl, _, hi2, hb2⟩
  have hn2 := pblk_below hb2 hn1
  have hw2 := hw1.trans (hb2.mono hw1.size)
  clear hb2 hn1 hw1 c0 c1
  go_wp2_with fail
  refine (H5'.out _ _ hi2).mono ?_
  intro e w3 hdd
  obtain ⟨⟨aw, cw, rfl, ow⟩, hb3⟩ := diff_parts hdd
  clear hdd
  simp only at ow
  have pw3 := own_crow ow
  have lw3 : ∀ b off, aw = some ⟨b, off, none⟩ → b < w3.heap.size := fun b off e => (own_inC ow b off e).2
  have hn3 := pblk_below hb3 hn2
  have hw3 := hw2.trans (hb3.mono hw2.size)
  clear hb3 hn2 hw2 hi2 ow
  have c0 := Lib.cell_of_heap hn3 0
  have c1 := Lib.cell_of_heap hn3 1
  go_wp2_with fail
  refine (HT'.out _ (h.below hw3)).mono ?_
  rintro e w5 ⟨g5, rfl, rx5, hi5, hb5⟩
  have hn5 := pblk_below hb5 hn3
  have pw5 := pw3.below hb5
  have hw5 := hw3.trans (hb5.mono hw3.size)
  have lw5 : ∀ b off, aw = some ⟨b, off, none⟩ → b < g5 := fun b off e => by have := lw3 b off e; have := rx5.ge; omega
  have hga5 : ga < g5 := by have := rx5.ge; have := (Array.getElem?_eq_some_iff.1 hn3).1; omega
  have rx5' := rx5.mono hw3.size
  clear hb5 hn3 hw3 c0 c1 pw3 lw3 rx5
  have al5 : Below w5.heap.size w5 (w5.alloc (.cells #[.int .i64 n, .slice (some ⟨g5, 0, none⟩) ss.length ss.length] 29)) := (Below.refl _ _).alloc (Nat.le_refl _) _
  have hw6 := hw5.trans (al5.mono hw5.size)
  have hn6 := pblk_below al5 hn5
  have pw6 := pw5.below al5
  have hi6 := hi5.below al5
  have rx6 := rx5'.below al5
  have nX := heap_alloc_new w5 (.cells #[.int .i64 n, .slice (some ⟨g5, 0, none⟩) ss.length ss.length] 29)
  have hg5 : g5 < w5.heap.size := rx5'.lt
  obtain ⟨gx, hgx⟩ : ∃ gx, w5.heap.size = gx := ⟨_, rfl⟩
  rw [hgx] at nX hg5
  clear al5 hn5 pw5 hw5 hi5 rx5'
  go_upto_region 11 with fail
  generalize w5.alloc (.cells #[.int .i64 n, .slice (some ⟨g5, 0, none⟩) ss.length ss.length] 29) = W6 at hw6 hn6 pw6 hi6 rx6 nX ⊢
  clear hgx
  have d0 := Lib.cell_of_heap nX 0
  have d1 := Lib.cell_of_heap nX 1
  have hgxl : gx < W6.heap.size := (Array.getElem?_eq_some_iff.1 nX).1
  go_wp2_with fail
  refine (H7'.out _ _ hi6 (keep.out _ _ hK hw6)).mono ?_
  intro e w7 hdd
  obtain ⟨⟨ag, cg, rfl, og⟩, hb7⟩ := diff_parts hdd
  clear hdd
  simp only at og
  have pg7 := own_crow og
  have rg7 := own_crow og
  have lg7 : ∀ b off, ag = some ⟨b, off, none⟩ → W6.heap.size ≤ b := fun b off e => (own_inC og b off e).1
  have hn7 := pblk_below hb7 hn6
  have nX7 := pblk_below hb7 nX
  have hi7 := hi6.below hb7
  have pw7 := pw6.below hb7
  have rx7 := rx6.below hb7
  have hw7 := hw6.trans (hb7.mono hw6.size)
  clear hb7 hn6 nX hi6 pw6 rx6 d0 d1 og
  have y : (xc != xc) = false := by simp
  have HE1 := HE.out ag cg aw cw _ _ w7 pg7 pw7
  go_upto_region 14 with (first | (go_at_call 33; refine HE1.mono ?_; rintro e w9 ⟨rfl, hb9⟩))
  have hn9 := pblk_below hb9 hn7
  have nX9 := pblk_below hb9 nX7
  have hi9 := hi7.below hb9
  have pw9 := pw7.below hb9
  have pg9 := pg7.below hb9
  have rg9 := rg7.below hb9
  have rx9 := rx7.below hb9
  have hw9 := hw7.trans (hb9.mono hw7.size)
  clear hb9 hn7 nX7 hi7 pw7 pg7 rg7 rx7 hw7 HE1
  have c0 := Lib.cell_of_heap hn9 0
  have c1 := Lib.cell_of_heap hn9 1
  have d0 := Lib.cell_of_heap nX9 0
  have d1 := Lib.cell_of_heap nX9 1
  have hC : Hid (∀ W : World, Below w9.heap.size w9 W → W.cell? ⟨ga, 0, none⟩ = some (.int .i64 n) ∧ W.cell? ⟨ga, 1, none⟩ = some (.slice a ss.length c) ∧ W.cell? ⟨gx, 0, none⟩ = some (.int .i64 n) ∧ W.cell? ⟨gx, 1, none⟩ = some (.slice (some ⟨g5, 0, none⟩) ss.length ss.length)) := fun W hW => ⟨Lib.cell_of_heap (pblk_below hW hn9) 0, Lib.cell_of_heap (pblk_below hW hn9) 1, Lib.cell_of_heap (pblk_below hW nX9) 0, Lib.cell_of_heap (pblk_below hW nX9) 1⟩
  go_region_held3 (fun W => W.cell? ⟨ga, 0, none⟩ = some (.int .i64 n) ∧ W.cell? ⟨ga, 1, none⟩ = some (.slice a ss.length c) ∧ W.cell? ⟨gx, 0, none⟩ = some (.int .i64 n) ∧ W.cell? ⟨gx, 1, none⟩ = some (.slice (some ⟨g5, 0, none⟩) ss.length ss.length)) (first | exact ⟨c0, c1, d0, d1⟩ | exact hC.out _ hx10 | exact hC.out _ hx11) (first | (go_at_call 11; refine (HT'.out _ ((h.below hw9).below (Below.refl w9.heap.size w9).drew)).mono ?_; rintro e w10 ⟨g10, rfl, _, hi10, hb10⟩; have hx10 : Below w9.heap.size w9 w10 := (Below.refl w9.heap.size w9).drew.trans hb10; have hi10' := hi9.below hx10; clear hb10) | (go_at_call 14; refine (HQ.out _ _ _ hi10' hi10).mono ?_; rintro e w11 ⟨rfl, hb11⟩; have hx11 : Below w9.heap.size w9 w11 := hx10.trans (hb11.mono hx10.size)))
  have hw11 := hw9.trans (hx11.mono hw9.size)
  have hn11 := pblk_below hx11 hn9
  have nX11 := pblk_below hx11 nX9
  have pw11 := pw9.below hx11
  have pg11 := pg9.below hx11
  have rg11 := rg9.below hx11
  have rx11 := rx9.below hx11
  clear hn9 nX9 hi9 pw9 pg9 rg9 rx9 hw9 c0 c1 d0 d1 hC hi10 hi10' hb11 hx10 hx11 HQ
  have d0 := Lib.cell_of_heap nX11 0
  have d1 := Lib.cell_of_heap nX11 1
  have HMk := markPool_any M HM w.heap.size g5 ss.length 1 n _ w11 rx11 (Nat.le_refl _) (by omega) hw11.size
  obtain ⟨p, hp⟩ : ∃ p : Nat, 1 + ss.length = p := ⟨_, rfl⟩
  rw [hp] at HMk
  have hgg : Hid (w.heap.size ≤ g5) := rx11.ge
  have zp : decide ((p : Int) < 0) = false := by rw [decide_eq_false_iff_not]; omega
  clear hp rx11
  go_upto_region 18 with (first | (go_at_call 15; refine HMk.mono ?_; rintro e w12 ⟨rfl, hg12⟩))
  have hw12 : Below w.heap.size w w12 := hw11.trans (below_of_grown hg12 hgg.out hw11.size)
  have hn12 := (hg12.block ga (Array.getElem?_eq_some_iff.1 hn11).1 (by intro e; have := Option.some.inj e; omega)).trans hn11
  have pw12 := pw11.grown hg12 (fun b e _ q => by have := lw5 b 0 e; have := Option.some.inj q; omega)
  have pg12 := pg11.grown hg12 (fun b e _ q => by have := lg7 b 0 e; have := Option.some.inj q; omega)
  have rg12 : CRow w12 W6.heap.size ag P.length (flatC P) := by
    rcases rg11 with h0 | ⟨g, e, hr⟩
    · exact .inl h0
    · exact .inr ⟨g, e, hr.kept hg12 (fun q => by have := lg7 g 0 e; have := Option.some.inj q; omega)⟩
  clear hn11 pw11 pg11 rg11 hw11 hg12 HMk nX11 d0 d1
  have HE2 := HE.out ag cg aw cw _ _ w12 pg12 pw12
  go_upto_region 21 with (first | (go_at_call 33; refine HE2.mono ?_; rintro e w13 ⟨rfl, hb13⟩))
  have hn13 := pblk_below hb13 hn12
  have pw13 := pw12.below hb13
  have rg13 := rg12.below hb13
  have hw13 := hw12.trans (hb13.mono hw12.size)
  clear hb13 hn12 pw12 pg12 rg12 hw12 HE2
  have HM2 := markC_any M HM W6.heap.size P.length cg 1 ag _ w13 rg13 (Nat.le_refl _) (by omega)
  have HH2 : Hid (∀ w', CRow w' W6.heap.size ag P.length (marksC M 1 (P.length * 5)) → Calls Tryz.prog 35 #[.slice ag P.length cg, .int .i64 1] w' fun e w'' => e = .returned (.int .i64 ((1 + P.length * 5 : Nat) : Int)) ∧ Below w'.heap.size w' w'') := fun w' q => heldC_any M HM W6.heap.size P.length cg 1 ag w' q (Nat.le_refl _) (by omega)
  generalize marksC M 1 (P.length * 5) = mV at HM2 HH2
  obtain ⟨m, hm⟩ : ∃ m : Nat, 1 + P.length * 5 = m := ⟨_, rfl⟩
  rw [hm] at HM2 HH2
  have zm : decide ((m : Int) < 0) = false := by rw [decide_eq_false_iff_not]; omega
  have zm2 : ((m : Int) != (m : Int)) = false := by simp
  clear hm
  go_upto_region 22 with (first | (go_at_call 34; refine HM2.mono ?_; rintro e w14 ⟨rfl, rg14, hg14⟩))
  have hrow : ∀ q, (if P.length = 0 then none else (Value.slice ag P.length cg).ownBlock) = some q → W6.heap.size ≤ q := fun q hq => by
    by_cases h0 : P.length = 0
    · rw [if_pos h0] at hq; cases hq
    · rw [if_neg h0] at hq
      cases ag with
      | none => cases hq
      | some x =>
        obtain ⟨b, o, el⟩ := x
        rcases rg13 with h | ⟨g, e, hr⟩
        · exact absurd h h0
        · cases e; cases hq; exact hr.ge
  have hw14 : Below w.heap.size w w14 := hw13.grown hg14 hw13.size (fun q hq => by have := hrow q hq; have := hw6.size; omega)
  have hn14 := (hg14.block ga (Array.getElem?_eq_some_iff.1 hn13).1 (by intro e; have := hrow ga e.symm; omega)).trans hn13
  have pw14 := pw13.grown hg14 (fun b e _ q => by have := lw5 b 0 e; have := hrow b q.symm; omega)
  clear hn13 pw13 rg13 hw13 hg14 HM2 hrow
  go_upto_region 28 with (first | (go_at_call 35; refine (HH2.out _ rg14).mono ?_; rintro e w15 ⟨rfl, hb15⟩))
  have hn15 := pblk_below hb15 hn14
  have pw15 := pw14.below hb15
  have hw15 := hw14.trans (hb15.mono hw14.size)
  clear hb15 hn14 pw14 rg14 hw14 HH2
  have c0 := Lib.cell_of_heap hn15 0
  have c1 := Lib.cell_of_heap hn15 1
  go_wp2_with fail
  refine (HT'.out _ (h.below hw15)).mono ?_
  rintro e w16 ⟨g16, rfl, _, hi16, hb16⟩
  have pw16 := pw15.below hb16
  have hw16 := hw15.trans (hb16.mono hw15.size)
  clear hb16 pw15 hw15 c0 c1 hn15
  go_wp2_with fail
  refine (H7'.out _ _ hi16 (keep.out _ _ hK hw16)).mono ?_
  intro e w17 hdd
  obtain ⟨⟨ah, ch, rfl, oh⟩, hb17⟩ := diff_parts hdd
  clear hdd
  simp only at oh
  have ph17 := own_crow oh
  have pw17 := pw16.below hb17
  have hw17 := hw16.trans (hb17.mono hw16.size)
  clear hb17 pw16 hw16 hi16 oh
  have HE3 := HE.out ah ch aw cw _ _ w17 ph17 pw17
  go_wp2_with (first | (go_at_call 33; refine HE3.mono ?_; rintro e w18 ⟨rfl, hb18⟩))
  go_ret
  exact ⟨rfl, hw17.trans (hb18.mono hw17.size)⟩
end Go.Proofs.YtmoajibmbppkjaeGreatDoor
namespace Go.Proofs.YtmoajibmbppkjaeGreatDoor
open Go.RowKit Go.Proofs.Sha

theorem chg_len : ∀ (n : Nat) (ps qs : List PairT), ps.length + qs.length = n → (chg ps qs).length ≤ n := by
  intro n
  induction n using Nat.strongRecOn with
  | ind n ih =>
    intro ps qs hn
    match ps, qs with
    | [], [] => rw [chg]; exact Nat.zero_le _
    | p :: ps, [] =>
      have := ih (ps.length + 0) (by simp at hn; omega) ps [] rfl
      rw [chg, List.length_cons]
      simp at hn
      omega
    | [], q :: qs =>
      have := ih (0 + qs.length) (by simp at hn; omega) [] qs rfl
      rw [chg, List.length_cons]
      simp at hn
      omega
    | p :: ps, q :: qs =>
      have h1 := ih (ps.length + qs.length) (by simp at hn; omega) ps qs rfl
      have h2 := ih (ps.length + (qs.length + 1)) (by simp at hn; omega) ps (q :: qs) rfl
      have h3 := ih (ps.length + 1 + qs.length) (by simp at hn; omega) (p :: ps) qs rfl
      simp at hn
      rw [chg]
      split
      · split
        · omega
        · rw [List.length_cons]; omega
      · split
        · rw [List.length_cons]; omega
        · rw [List.length_cons]; omega
theorem rangeM_bd {fnd : ByteArray → FN} {wd : Nat} (hfo : FndOk wd fnd) (n : Int) (m : Nat) (root lo hi : ByteArray) : Bd (rangeM fnd n m root lo hi).1 := by
  unfold rangeM
  intro p hp
  split at hp
  · split at hp
    · obtain ⟨q1, q2⟩ := goF_ok hfo 501 root ⟨#[]⟩ ⟨#[]⟩ ⟨#[]⟩ 0 p hp
      unfold okKey at q1
      unfold okVal at q2
      have q1 := of_decide_eq_true q1
      have q2 := of_decide_eq_true q2
      omega
    · simp at hp
  · simp at hp
theorem law_diff (n : Int) (a : Option Addr) (ss : List ByteArray) (c : Nat) (x y : ByteArray) (w : World) (hN : ss.length ≤ maxLen) (hM : ∀ j, (ss.getD j ⟨#[]⟩).size ≤ maxLen)
    (h : 0 < ss.length → ∃ b off : Nat, a = some ⟨b, off, none⟩ ∧ b < w.heap.size ∧ ∀ j, j < ss.length → w.cell? ⟨b, off + j, none⟩ = some (.string (ss.getD j ⟨#[]⟩))) (hx : x.size ≤ maxLen) (hy : y.size ≤ maxLen)
    (hK : ∀ j, j < 64 → w.cell? ⟨0, j, none⟩ = some (.int .u32 ((kTab.getD j 0).toNat : Int))) :
    Calls Tryz.prog 6 #[.agg #[.int .i64 n, .slice a ss.length c], .string x, .string y] w fun e w' => e = .returned (.bool true) ∧ Below w.heap.size w w' := by
  obtain ⟨f, hf⟩ := Classical.axiomOfChoice (dec_ex n)
  obtain ⟨D, hD⟩ : ∃ D : Dec, D = ⟨fun s => (f s).1, fun s => (f s).2.1, fun s => (f s).2.2.1, fun s => (f s).2.2.2.1, fun s => (f s).2.2.2.2⟩ := ⟨_, rfl⟩
  have hdo : ∀ wd : Nat, (wd : Int) = n → DecOk wd D := fun wd hwd s hs => by
    have h1 := hf s
    rw [hD] at hs
    simp only at hs
    rw [hs] at h1
    have h2 := nodeOk_out (decOk_of h1)
    rw [hD]
    simp only
    unfold okKey okVal
    refine ⟨decide_eq_true (by omega), decide_eq_true (by omega), by omega, by omega⟩
  have HD1 : Hid (∀ wd : Nat, (wd : Int) = n → 1 ≤ wd → wd ≤ 32 → DecSaid 209 wd D) := by
    intro wd hwd _ _ s w' hs
    refine (dec_impl s wd w' hs).mono ?_
    rintro e w'' ⟨h1, hb⟩
    rw [hwd] at h1
    rw [hD]
    exact ⟨h1.one (hf s), hb⟩
  have HD2 : Hid (∀ wd : Nat, (wd : Int) = n → 1 ≤ wd → wd ≤ 32 → DecSaid 176 wd D) := by
    intro wd hwd _ _ s w' hs
    refine (dec_any s wd w' hs).mono ?_
    rintro e w'' ⟨h1, hb⟩
    rw [hwd] at h1
    rw [hD]
    exact ⟨h1.one (hf s), hb⟩
  have hall : ∀ root : ByteArray, Lok (rangeM (fndD D n.toNat ss) n ss.length root ⟨#[]⟩ ⟨#[]⟩) ∧ Bd (rangeM (fndD D n.toNat ss) n ss.length root ⟨#[]⟩ ⟨#[]⟩).1 ∧ KeysUp (keys (rangeM (fndD D n.toNat ss) n ss.length root ⟨#[]⟩ ⟨#[]⟩).1) := fun root => by
    by_cases hp : (poolOk n ss.length && hashOk root.size n) = true
    · have hp' : 1 ≤ n ∧ n ≤ 32 ∧ ss.length ≤ 20000 := of_decide_eq_true ((Bool.and_eq_true _ _).mp hp).1
      have hfo := fndD_ok D n.toNat ss (hdo n.toNat (by omega))
      exact ⟨rangeM_small hfo n ss.length root _ _, rangeM_bd hfo n ss.length root _ _, rangeM_up hfo n ss.length root _ _⟩
    · rw [rangeM_bad (by simpa using hp)]
      exact ⟨⟨by decide, nil_small⟩, fun p hp => by simp at hp, trivial⟩
  obtain ⟨⟨P, xc⟩, hX⟩ : ∃ X, diffM (fndD D n.toNat ss) n ss.length x y = X := ⟨_, rfl⟩
  have hPl : P.length ≤ 1000 := by
    have e : P = (diffM (fndD D n.toNat ss) n ss.length x y).1 := by rw [hX]
    rw [e]
    unfold diffM diffR
    have lx := (hall x).1.1
    have ly := (hall y).1.1
    split
    · exact Nat.zero_le _
    · split
      · exact Nat.zero_le _
      · split
        · exact Nat.zero_le _
        · have := chg_len _ (rangeM (fndD D n.toNat ss) n ss.length x ⟨#[]⟩ ⟨#[]⟩).1 (rangeM (fndD D n.toNat ss) n ss.length y ⟨#[]⟩ ⟨#[]⟩).1 rfl
          exact Nat.le_trans this (by omega)
  refine law_df (K := KT) (fun w1 w2 h1 hb => KT.below h1 hb) n a ss c x y w ⟨h⟩ hN hM hx hy hK P xc hPl ?_ ?_
  · intro q1 q2 hs g w' hS
    rw [← hX]
    unfold diffM
    have HL : ∀ root : ByteArray, root.size ≤ 1048576 → ∀ w1, Below w'.heap.size w' w1 → Calls Tryz.prog 10 #[.agg #[.int .i64 n, .slice (some ⟨g, 0, none⟩) ss.length ss.length], .string root] w1 (RangeAt (rangeM (fndD D n.toNat ss) n ss.length root ⟨#[]⟩ ⟨#[]⟩) w1) := fun root hr w1 hb1 => by
      refine sload_any _ _ root w1 ⟨_, _, _, _, rfl⟩ (fun w2 hb2 => ?_)
      have hS2 := (hS.below hb1).below hb2
      cases hp : (poolOk n ss.length && hashOk root.size n) with
      | false => rw [rangeM_bad hp]; exact srange_bad n _ ss.length ss.length root ⟨#[]⟩ ⟨#[]⟩ w2 hS2.le hr hp
      | true =>
        have hp2 := (Bool.and_eq_true _ _).mp hp
        have hp' : 1 ≤ n ∧ n ≤ 32 ∧ ss.length ≤ 20000 := of_decide_eq_true hp2.1
        obtain ⟨wd, rfl⟩ : ∃ wd : Nat, n = (wd : Int) := ⟨n.toNat, by omega⟩
        rw [Int.toNat_natCast]
        have q0 : (⟨#[]⟩ : ByteArray).size ≤ 1048576 := Nat.zero_le _
        exact srange_good (fun t k w' ht h1 h2 => sdig_yes t k w' ht h1 h2) D wd (HD2.out wd rfl (by omega) (by omega)) (hdo wd rfl) _ ss ss.length root ⟨#[]⟩ ⟨#[]⟩ w2 hS2 hs.2 (by omega) (by omega) hr q0 q0 hp2.1 hp2.2
    exact sdiff_any _ _ n _ ss.length ss.length x y w' (fun _ => ⟨(hall x).1, (hall y).1, (hall x).2.1, (hall y).2.1, (hall x).2.2, (hall y).2.2⟩) (fun _ w1 hb1 => HL x q1 w1 hb1) (fun _ w1 hb1 => HL y q2 w1 hb1)
  · intro q1 q2 g w' hS hk
    rw [← hX]
    exact idiff_any (fun s w' hs hk => ehash_any s w' hs hk) D n HD1 hdo _ ss ss.length x y w' hS hk q1 q2
end Go.Proofs.YtmoajibmbppkjaeGreatDoor
namespace Go.Proofs.Pools
open Go Go.ChangeShapes Go.WideShapes Go.ChangeAt Go.RowKit

/-- A struct of a number and a slice of texts that is handed in: what it holds, and that it reads so in every world in which what was there is as it was. -/
theorem open_pool {P : Program} {H : Type} {enc : TypeId × Value → H} {W : World} {b0 : Nat} {t e : TypeId} {f0 f1 : Field} {v : Value} {d : DataW H} {p : List MemPlace} (hs : P.underlying t = some (.struct #[f0, f1])) (hone : Go.Deep.oneCellFields P #[f0, f1] = true) (hC : P.cellsOf t = 2)
    (h0 : P.underlying f0.type = some (.int .i64)) (ht : P.underlying f1.type = some (.slice e)) (he : P.underlying e = some .string) (hc : P.cellsOf e = 1)
    (hv : Value.okWide P W .any b0 t v) (h : DataW.Trod enc P W 0 (fun _ => true) true t v d p) :
    ∃ (n : Int) (a : Option Addr) (c : Nat) (ss : List ByteArray), v = .agg #[.int .i64 n, .slice a ss.length c] ∧ ss.length ≤ maxLen ∧ (∀ j, (ss.getD j ⟨#[]⟩).size ≤ maxLen) ∧
      (0 < ss.length → ∃ b off : Nat, a = some ⟨b, off, none⟩ ∧ b < W.heap.size ∧ ∀ j, j < ss.length → W.cell? ⟨b, off + j, none⟩ = some (.string (ss.getD j ⟨#[]⟩))) ∧
      (∀ W' : World, Below W.heap.size W W' → DataW.Trod enc P W' 0 (fun b => decide (b < W.heap.size)) true t v d p) := by
  obtain ⟨v0, v1, y0, y1, m, rfl, rfl, rfl, hy0, hy1⟩ := Joins.open_agg2 hs hone hC hv h
  obtain ⟨n, e0, rfl, wn⟩ := DataW.trod_int h0 hy0
  simp only [List.cons.injEq, and_true] at e0
  subst e0
  rcases Deep.open_strs ht he hc hy1 with ⟨hc0, rfl⟩ | ⟨a, len, cap, q, Sx, hcs, _, hl, hm, hq, rfl, hx⟩
  · simp only [List.cons.injEq, and_true] at hc0
    subst hc0
    refine ⟨n, none, 0, [], rfl, Nat.zero_le _, fun _ => Nat.zero_le _, fun hx => absurd hx (Nat.lt_irrefl 0), fun W' _ => ?_⟩
    exact Joins.shut_agg2 hs hone hC (shut_int h0 wn) (shut_slice_nil ht)
  · simp only [List.cons.injEq, and_true] at hcs
    subst hcs
    simp only [if_true] at hq
    subst hq
    obtain ⟨b, off, spot⟩ := a
    have hcells : 0 < q → spot = none ∧ b < W.heap.size := fun h => by
      have h1 := (hx 0 (by omega)).1
      have hsp : spot = none := by simpa [Addr.add] using World.cell?_spot h1
      subst hsp
      rw [add_plain] at h1
      exact ⟨rfl, World.block_lt_of_cell? _ _ h1⟩
    have hlen : ((List.range len).map Sx).length = len := by rw [List.length_map, List.length_range]
    have hget : ∀ j, j < len → ((List.range len).map Sx).getD j ⟨#[]⟩ = Sx j := fun j hj => by
      rw [List.getD_eq_getElem?_getD, List.getElem?_map, List.getElem?_range hj]
      rfl
    refine ⟨n, some ⟨b, off, spot⟩, q, (List.range len).map Sx, by rw [hlen], by rw [hlen]; omega, fun j => ?_, fun hpos => ?_, fun W' hb => ?_⟩
    · by_cases hj : j < len
      · rw [hget j hj]; exact (hx j (by omega)).2
      · rw [List.getD_eq_getElem?_getD, List.getElem?_eq_none (by rw [hlen]; omega)]; exact Nat.zero_le _
    · rw [hlen] at hpos
      obtain ⟨rfl, hlt⟩ := hcells (by omega)
      refine ⟨b, off, rfl, hlt, fun j hj => ?_⟩
      rw [hlen] at hj
      rw [hget j hj, ← add_plain]
      exact (hx j (by omega)).1
    · refine Joins.shut_agg2 hs hone hC (shut_int h0 wn) ?_
      by_cases h0 : 0 < q
      · obtain ⟨rfl, hlt⟩ := hcells h0
        refine Deep.shut_strs_whole ht he hc (Nat.zero_le _) hl hm (by simpa using hlt) Sx (fun i hi => ?_) (fun i hi => (hx i hi).2)
        rw [hb.cell hlt, ← add_plain]
        exact (hx i hi).1
      · obtain rfl : q = 0 := by omega
        obtain rfl : len = 0 := by omega
        by_cases hlt : b < W.heap.size
        · have := Deep.shut_slice_whole_cells (enc := enc) (w := W') (base := 0) (spare := fun b => decide (b < W.heap.size)) (held := true) (a := ⟨b, off, spot⟩) (len := 0) (cap := 0) ht (Nat.zero_le _) hl hm (by simpa using hlt) (fun i => .lit (.string (Sx i).data.toList)) (fun _ => []) (fun i hi => absurd hi (Nat.not_lt_zero i))
          rwa [hc, Nat.mul_one, Deep.flatMap_nils, List.append_nil] at this
        · have := Deep.shut_slice_cells (enc := enc) (w := W') (base := 0) (spare := fun b => decide (b < W.heap.size)) (held := true) (a := ⟨b, off, spot⟩) (len := 0) (cap := 0) ht (Nat.zero_le _) hl hm (by simpa using hlt) (fun i => .lit (.string (Sx i).data.toList)) (fun _ => []) (fun i hi => absurd hi (Nat.not_lt_zero i))
          rwa [hc, Nat.mul_one, Deep.flatMap_nils, List.append_nil] at this
end Go.Proofs.Pools
namespace Go.Proofs.YtmoajibmbppkjaeGreatDoor.fnExactDiff
open Go.ChangeShapes Go.WideShapes Go.ChangeAt Go.RowKit Go.Proofs.Sha
open Go.ChangeMaps (open_string shut_string)

theorem own : ownKnob Tryz.prog.godebug = none := by kernel_rfl
theorem gTab : Tryz.prog.globalNamed "loop.example/s03048/impl.roundWords" = some 0 := by kernel_rfl
theorem gTabType : (Tryz.prog.globals[0]?).map (·.type) = some 272 := by kernel_rfl
theorem cellsTab : Tryz.prog.cellsOf 272 = 64 := by kernel_rfl
theorem cellsEl : Tryz.prog.cellsOf 173 = 1 := by kernel_rfl
def zs : List Int := kTab.map fun x => (x.toNat : Int)

/-- What the row's list gives: the table's cells hold its numbers. -/
theorem table {W : World} (h : laidMetH Tryz.prog Rows.fnExactDiffRow.laid W) : Lib.TabIs Tryz.prog W "loop.example/s03048/impl.roundWords" .u32 zs :=
  Lib.tabIs_of_head (rest := []) gTab gTabType Tryz.underlying272 Tryz.underlying173 cellsEl cellsTab h
theorem tabCells {W : World} (h : laidMetH Tryz.prog Rows.fnExactDiffRow.laid W) : ∀ j, j < 64 → W.cell? ⟨0, j, none⟩ = some (.int .u32 ((kTab.getD j 0).toNat : Int)) := fun j hj => by
  have h1 := (table h).cell gTab j (by exact hj)
  rw [h1]
  unfold zs
  rw [List.getD_eq_getElem?_getD, List.getElem?_map, List.getD_eq_getElem?_getD, List.getElem?_eq_getElem (by exact hj)]; rfl

def dat {H : Type} : DataW H := .agg (zs.map fun z => .lit (.int .u32 z))
/-- The table reads as itself, in whatever world. -/
theorem trod_tab {H : Type} (enc : TypeId × Value → H) (W : World) (sp : Nat → Bool) (hd : Bool) (n : Nat) : DataW.trod enc Tryz.prog W 0 sp hd (n + 2) 272 (kTab.map U) = some (dat, []) := by kernel_rfl
theorem trod_tab1 {H : Type} (enc : TypeId × Value → H) (W : World) (sp : Nat → Bool) (hd : Bool) : DataW.trod enc Tryz.prog W 0 sp hd 1 272 (kTab.map U) = none := by kernel_rfl

set_option maxRecDepth 100000 in
theorem contract (H : Type) (enc : TypeId × Value → H) (W : World) (base : Nat) (args : Array Value) (ds gs : List (DataW H)) (before : List MemPlace)
    (hval : ∀ (j : Nat) t v, Tryz.f6.params[j]? = some t → args[j]? = some v → Value.okWide Tryz.prog W .any base t v)
    (hW : DataW.Whole enc Tryz.prog Tryz.f6.params.toList Rows.fnExactDiffSpec.vars false W args.toList ds gs before) (hL : laidMetH Tryz.prog Rows.fnExactDiffRow.laid W) :
    Calls Tryz.prog 6 args W fun e W' => ∃ v, e = .returned v ∧ Rows.fnExactDiffSpec.post enc Tryz.prog Tryz.f6 false true false false W args v W' := by
  have hW' := hW
  obtain ⟨p, q, hA0, hV, rfl, hfz, hnd⟩ := hW
  have hA : DataW.TrodAll enc Tryz.prog W 0 (fun _ => true) true Tryz.f6.params.toList args.toList ds p := hA0
  rw [Tryz.params6] at hA hval
  obtain ⟨v0, vs0, d0, ds0, p0, q0, hargs, rfl, rfl, h0, r0⟩ := trodAll_cons hA
  obtain ⟨v1, vs1, d1, ds1, p1, q1, rfl, rfl, rfl, h1, r1⟩ := trodAll_cons r0
  obtain ⟨v2, vs2, d2, ds2, p2, q2, rfl, rfl, rfl, h2, r2⟩ := trodAll_cons r1
  obtain ⟨rfl, rfl, rfl⟩ := trodAll_nil r2
  obtain rfl : args = #[v0, v1, v2] := by cases args; simp_all
  obtain ⟨k0, x0, c0, s0, rfl, hs0, hm0, hx0, hz0⟩ := Pools.open_pool Tryz.underlying24 (by kernel_rfl) (by kernel_rfl) Tryz.underlying3 Tryz.underlying22 Tryz.underlying9 (by kernel_rfl) (hval 0 24 v0 rfl rfl) h0
  obtain ⟨s1, rfl, rfl, rfl, hs1⟩ := open_string Tryz.underlying9 (hval 1 9 v1 rfl rfl) h1
  obtain ⟨s2, rfl, rfl, rfl, hs2⟩ := open_string Tryz.underlying9 (hval 2 9 v2 rfl rfl) h2
  obtain ⟨g, t, cs, fuel, d, p', rfl, hg, ht, hvar, hd, rfl⟩ := trodVars_one hV
  obtain rfl := Option.some.inj (gTab.symm.trans hg)
  obtain rfl := Option.some.inj (gTabType.symm.trans ht)
  have hcs : cs = (kTab.map U).toArray := Option.some.inj (hvar.symm.trans (table hL))
  subst hcs
  have hdd : d = dat ∧ p' = [] := by
    match fuel, hd with
    | 0, hd => simp [DataW.trod] at hd
    | 1, hd => rw [show (kTab.map U).toArray.toList = kTab.map U from rfl, trod_tab1] at hd; cases hd
    | n + 2, hd =>
      rw [show (kTab.map U).toArray.toList = kTab.map U from rfl, trod_tab] at hd
      cases hd
      exact ⟨rfl, rfl⟩
  obtain ⟨rfl, rfl⟩ := hdd
  have hcells := tabCells hL
  have hl0 : 0 < W.heap.size := World.block_lt_of_cell? W _ (hcells 0 (by omega))
  clear hA0
  refine (law_diff k0 x0 s0 c0 s1 s2 W hs0 hm0 hx0 hs1 hs2 hcells).mono fun e W' ⟨he, hb⟩ => ?_
  subst he
  have hvar' : W'.var? Tryz.prog "loop.example/s03048/impl.roundWords" = some (kTab.map U).toArray := by
    unfold World.var? at hvar ⊢
    simp only [gTab, Option.bind_some] at hvar ⊢
    rw [hb.block 0 hl0]
    exact hvar
  exact ⟨_, rfl, ⟨_, _, _, [], _, MemPlace.row ⟨0, 0, none⟩ (kTab.map U).toArray.size ++ [], hW', trodAll_cons_mk (shut_bool Tryz.underlying4 _) trodAll_mk0, trodAll_cons_mk (hz0 W' hb) (trodAll_cons_mk (shut_string Tryz.underlying9 hs1) (trodAll_cons_mk (shut_string Tryz.underlying9 hs2) trodAll_mk0)),
    trodVars_mk1 (fuel := 2) gTab gTabType hvar' (trod_tab enc W' _ _ 0), hb.frame _, fun h => by cases h⟩⟩

theorem laid_met (os : Os) : laidMet Tryz.prog Rows.fnExactDiffRow.laid (World.forCall ({ World.holding Tryz.prog os ⟨#[], #[], []⟩ with heap := (World.holding Tryz.prog os ⟨#[], #[], []⟩).heap.modify 0 fun | .cells _ t frozen => .cells (kTab.map U).toArray t frozen | o => o }) (fun _ _ => 0) ⟨#[], #[.agg #[.int .i64 0, .slice none 0 0], .string ByteArray.empty, .string ByteArray.empty], []⟩).memory :=
  laidMet_of_run' 8 (by kernel_rfl) (by kernel_rfl)
theorem reads (os : Os) {H : Type} (enc : TypeId × Value → H) : ∃ places, DataW.whole enc Tryz.prog (World.forCall ({ World.holding Tryz.prog os ⟨#[], #[], []⟩ with heap := (World.holding Tryz.prog os ⟨#[], #[], []⟩).heap.modify 0 fun | .cells _ t frozen => .cells (kTab.map U).toArray t frozen | o => o }) (fun _ _ => 0) ⟨#[], #[.agg #[.int .i64 0, .slice none 0 0], .string ByteArray.empty, .string ByteArray.empty], []⟩).memory Tryz.f6.params.toList Rows.fnExactDiffSpec.vars false #[Value.agg #[.int .i64 0, .slice none 0 0], Value.string ByteArray.empty, Value.string ByteArray.empty].toList 8 = some ([.agg [.lit (.int .i64 0), .nil], .lit (.string []), .lit (.string [])], [dat], places) :=
  ⟨MemPlace.row ⟨0, 0, none⟩ 64, by kernel_rfl⟩

set_option maxRecDepth 100000 in
theorem lifted (os : Os) (started : os.Started) (H : Type) (enc : TypeId × Value → H) (F : Stop.Interp) :
    ReturnsInHanded {} Tryz.checked os 6 .any ((OpenSpec.ofChange Rows.fnExactDiffSpec).preRow enc Tryz.prog Tryz.f6 Rows.fnExactDiffRow.domain false Rows.fnExactDiffRow.laid) (((OpenSpec.ofChange Rows.fnExactDiffSpec).at F).post enc Tryz.prog Tryz.f6 false true false false) := by
  obtain ⟨places, hx⟩ := reads os enc
  refine returnsInHanded_of_row (C := Tryz.checked) (s := OpenSpec.ofChange Rows.fnExactDiffSpec) own started (by kernel_rfl) Tryz.func6
    (witness_row_at (enc := enc) (C := Tryz.checked) false ({ World.holding Tryz.prog os ⟨#[], #[], []⟩ with heap := (World.holding Tryz.prog os ⟨#[], #[], []⟩).heap.modify 0 fun | .cells _ t frozen => .cells (kTab.map U).toArray t frozen | o => o }) #[.agg #[.int .i64 0, .slice none 0 0], .string ByteArray.empty, .string ByteArray.empty] rfl (by kernel_rfl) (by kernel_rfl) (by kernel_rfl)
      (OpenSpec.preRow_of_cond 8 hx (by kernel_rfl) (fun k hk => by cases hk) (by kernel_rfl) (laid_met os))) ?_
  intro W base args ds gs before hval hW _ _ _ hL _ _
  exact contract H enc W base args ds gs before hval hW hL

theorem said : Rows.FnExactDiffSaid :=
  OpenClaim.holds_of_cond 6 Tryz.f6 rfl rfl rfl rfl rfl rfl rfl ⟨rfl, rfl, rfl, rfl, rfl⟩ rfl rfl rfl rfl rfl (by kernel_rfl) Tryz.func6 (by kernel_rfl)
    (of_decide_eq_true (by kernel_rfl)) (by unfold Func.isWrapper; first | (rw [if_pos (by decide +kernel)]; kernel_rfl) | (rw [if_neg (by decide +kernel)]; exact ⟨rfl, rfl⟩))
    (fun os started H enc _ F => by rw [OpenClaim.pre_eq_preRow]; exact lifted os started H enc F)

theorem plain (f : FuncId) (fn : Func) (hf : Tryz.pinned.checked.prog.funcNamed "loop.example/s03048/laws.FnExactDiff" = some f) (hfn : Tryz.pinned.checked.prog.funcs[f]? = some fn) :
    false = Tryz.pinned.checked.prog.looks [] ∧ ∀ (j : Nat) t, fn.params[j]? = some t → Tryz.pinned.checked.prog.wantsStandIn t = false := by
  obtain rfl : f = 6 := Option.some.inj ((show Tryz.prog.funcNamed "loop.example/s03048/laws.FnExactDiff" = some 6 by kernel_rfl).symm.trans hf) |>.symm
  obtain rfl : fn = Tryz.f6 := (Option.some.inj (Tryz.func6.symm.trans hfn)).symm
  refine ⟨by kernel_rfl, fun j t ht => ?_⟩
  rw [Tryz.params6] at ht
  have hm : t ∈ [24, 9, 9] := by simpa using Array.mem_of_getElem? ht
  have hall : ([24, 9, 9].all fun u => !Tryz.prog.wantsStandIn u) = true := by kernel_rfl
  exact (show Tryz.prog.wantsStandIn t = false by simpa using List.all_eq_true.1 hall t hm)
end Go.Proofs.YtmoajibmbppkjaeGreatDoor.fnExactDiff

namespace Go.Proofs.YtmoajibmbppkjaeGreatDoor
/-- The card. -/
theorem fnExactDiff_card : Rows.FnExactDiffCardSaid :=
  Claim7.holds_tied_plain_at .later [] _ _ _ _ fnExactDiff.said (fun _ h => by cases h) (by kernel_rfl) (fun _ h => by cases h) fnExactDiff_row_tie rfl ⟨rfl, rfl⟩ (by kernel_rfl) rfl fnExactDiff.plain (by kernel_rfl)
#print axioms fnExactDiff_card
end Go.Proofs.YtmoajibmbppkjaeGreatDoor
