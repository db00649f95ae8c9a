import Derived.Test.YtfmpjlpakldheaaGreatDoorZybp
namespace Go.Proofs.YtfmpjlpakldheaaGreatDoor
open Go.RowKit Go.Proofs.Sha

/-- What a draw of two roots gives. -/
def DGot (n : Int) (ss : List ByteArray) (r1 r2 : ByteArray) (w : World) (e : Ending) (w' : World) : Prop := ∃ ap cp, e = .returned (.tuple #[.agg #[.int .i64 n, .slice ap ss.length cp], .string r1, .string r2]) ∧ SArg ap ss w' ∧ Below w.heap.size w w'
theorem AP.fin3 {w : World} {gr gq : Nat} {n : Int} {ss roots : List ByteArray} {ap : Option Addr} {cp : Nat} {ar : Option Addr} {W : World} (h : AP w gr gq n ss roots ap cp ar W) (r1 r2 : ByteArray) : DGot n ss r1 r2 w (.returned (.tuple #[.agg #[.int .i64 n, .slice ap ss.length cp], .string r1, .string r2])) ((W.setCell ⟨gr, 0, none⟩ (.int .i64 n)).setCell ⟨gr, 1, none⟩ (.slice ap ss.length cp)) := by
  have m0 := heap_setCell_same W gr 0 _ 37 (.int .i64 n) h.res
  exact ⟨ap, cp, rfl, (h.parg.set37 h.res _).set37 m0 _, (h.bel.setCell (p := ⟨gr, 0, none⟩) h.ge _).setCell (p := ⟨gr, 1, none⟩) h.ge _⟩
set_option maxRecDepth 100000 in
set_option maxHeartbeats 4000000 in
theorem ddiff_a (a : Option Addr) (xs : List Nat) (cap x y z : Nat) (n : Int) (ss roots : List ByteArray) (root : ByteArray) (hr : SmT roots 5 32) (_hrs : root.size ≤ 33)
    (HT : ∀ w, BL a xs w → Calls Tryz.prog 41 #[.slice a xs.length cap, .int .i64 0, .int .i64 10] w fun e w' => e = .returned (.tuple #[.int .i64 (x : Int), .int .i64 1]) ∧ Below w.heap.size w w')
    (HP : ∀ w, BL a xs w → Calls Tryz.prog 71 #[.slice a xs.length cap, .int .i64 1] w (AGot n ss roots root z w))
    (HA : ∀ w, BL a xs w → Calls Tryz.prog 41 #[.slice a xs.length cap, .int .i64 (z : Int), .int .i64 (roots.length : Int)] w fun e w' => e = .returned (.tuple #[.int .i64 (y : Int), .int .i64 ((z + 1 : Nat) : Int)]) ∧ Below w.heap.size w w') (hx : x < 8 ∧ x % 2 = 0) (hy : y < roots.length) :
    ∀ w, BL a xs w → Calls Tryz.prog 32 #[.slice a xs.length cap] w (DGot n ss root (roots.getD y ⟨#[]⟩) w) := by
  intro w hB
  have HT' : Hid (∀ w', Below w.heap.size w w' → Calls Tryz.prog 41 #[.slice a xs.length cap, .int .i64 0, .int .i64 10] w' fun e w'' => e = .returned (.tuple #[.int .i64 (x : Int), .int .i64 1]) ∧ Below w'.heap.size w' w'') := fun w' hb => HT w' (hB.below hb)
  have HP' : Hid (∀ w', Below w.heap.size w w' → Calls Tryz.prog 71 #[.slice a xs.length cap, .int .i64 1] w' (AGot n ss roots root z w')) := fun w' hb => HP w' (hB.below hb)
  have HA' : Hid (∀ w', Below w.heap.size w w' → Calls Tryz.prog 41 #[.slice a xs.length cap, .int .i64 (z : Int), .int .i64 (roots.length : Int)] w' fun e w'' => e = .returned (.tuple #[.int .i64 (y : Int), .int .i64 ((z + 1 : Nat) : Int)]) ∧ Below w'.heap.size w' w'') := fun w' hb => HA w' (hB.below hb)
  unfold AGot at HP'
  clear HT HP HA hB
  have hrl : roots.length ≤ 5 := hr.len
  obtain ⟨L, hLL⟩ : ∃ L, xs.length = L := ⟨_, rfl⟩
  rw [hLL] at HT' HP' HA' ⊢
  obtain ⟨q2, hq2⟩ : ∃ q, z + 1 = q := ⟨_, rfl⟩
  rw [hq2] at HA'
  clear hq2 hLL
  obtain ⟨N, hN⟩ : ∃ N, ss.length = N := ⟨_, rfl⟩
  rw [hN] at HP'
  obtain ⟨R, hRn⟩ : ∃ R, roots.length = R := ⟨_, rfl⟩
  rw [hRn] at HP' HA' hrl
  have hA : Below w.heap.size w (w.alloc (.cells #[.int .i64 0, .slice none 0 0] 37)) := (Below.refl _ _).alloc (Nat.le_refl _) _
  have nA := heap_alloc_new w (.cells #[.int .i64 0, .slice none 0 0] 37)
  have hgw : w.heap.size ≤ w.heap.size := Nat.le_refl _
  go_enter Tryz.func32, Tryz.ntmps32
  go_upto_region 1 with fail
  generalize w.alloc (.cells #[.int .i64 0, .slice none 0 0] 37) = wA at hA nA ⊢
  obtain ⟨gr, hgr⟩ : ∃ g, w.heap.size = g := ⟨_, rfl⟩
  have hgl : w.heap.size ≤ gr := Nat.le_of_eq hgr
  rw [hgr] at nA
  try rw [hgr]
  clear hgr hgw
  go_upto_region 2 with (first | (go_at_call 41; refine (HT'.out _ hA).mono ?_; rintro e w1 ⟨rfl, hb1⟩; have hbw1 := hA.trans (hb1.mono hA.size)))
  have nB := pblk_below hb1 nA
  go_upto_region 3 with (first | (go_at_call 71; refine (HP'.out _ hbw1).mono ?_; rintro e w2 ⟨ap, cp, ar, cr, rfl, hS2, hR2, hb2⟩))
  have al : Below w2.heap.size w2 (w2.alloc (.cells #[.int .i64 n, .slice ap N cp] 37)) := (Below.refl _ _).alloc (Nat.le_refl _) _
  have hbw2 := hbw1.trans (hb2.mono hbw1.size)
  have nC := pblk_below hb2 nB
  have hAP : AP w gr w2.heap.size n ss roots ap cp ar (w2.alloc (.cells #[.int .i64 n, .slice ap N cp] 37)) := by
    refine ⟨pblk_below al nC, by rw [hN]; exact heap_alloc_new w2 _, ?_, hgl, hbw2.size, hS2.below al, hR2.below al, hbw2.trans (al.mono hbw2.size)⟩
    have := (Array.getElem?_eq_some_iff.1 nC).1
    omega
  generalize w2.alloc (.cells #[.int .i64 n, .slice ap N cp] 37) = w3 at hAP ⊢
  obtain ⟨gq, hgq⟩ : ∃ g, w2.heap.size = g := ⟨_, rfl⟩
  rw [hgq] at hAP
  try rw [hgq]
  clear hgq al hS2 hR2 hb2 nC nB nA hb1 hbw1 hbw2 hA HT' HP'
  go_upto_region 4 with (first | (go_at_call 41; refine (HA'.out _ hAP.bel).mono ?_; rintro e w4 ⟨rfl, hb4⟩))
  have hP4 := hAP.below hb4
  clear hAP hb4 HA'
  have zR : decide ((0 : Int) < (R : Int)) = true := by simp; omega
  have zR' : decide (0 < R) = true := by simp; omega
  have z8 : decide ((x : Int) < 8) = true := by simp; omega
  have z8' : decide (x < 8) = true := by simp; omega
  have z9 : ((x : Int) == 9) = false := by simp; omega
  have ym : (x : Int).tmod 2 = ((x % 2 : Nat) : Int) := by rw [Int.tmod_eq_emod_of_nonneg (by omega)]; omega
  obtain ⟨k, hk⟩ : ∃ k, x % 2 = k := ⟨_, rfl⟩
  rw [hk] at ym
  have zo : ((k : Int) == 1) = false := by simp; omega
  have hx0 : (0 : Int) ≤ (y : Int) := Int.natCast_nonneg _
  have hx1 : (y : Int) < (R : Int) := by omega
  obtain ⟨b1, off1, rfl, hbl1, hc⟩ := hP4.rarg.at_ (by omega)
  have hc1 := hc y (by omega)
  clear hc
  obtain ⟨u, hu⟩ : ∃ u, roots.getD y ⟨#[]⟩ = u := ⟨_, rfl⟩
  rw [hu] at hc1
  clear hx hk
  have hRh : Hid (roots.length = R) := hRn
  try clear h0
  have c0 := Lib.cell_of_heap hP4.pool 0
  have c1 := Lib.cell_of_heap hP4.pool 1
  rw [hN] at c0 c1
  have hfin : Hid (DGot _ ss root u w _ _) := hP4.fin3 root u
  have m1 := hP4.m1
  rw [hN] at hfin
  rw [hN] at m1
  have e0 := Lib.cell_of_heap hP4.res 0
  have e1 := Lib.cell_of_heap hP4.res 1
  have ef : ∀ j, w4.frozen? ⟨gr, j, none⟩ = false := fun j => by rw [World.frozen?, hP4.res]; rfl
  clear hP4
  go_wp2_with fail
  exact retPT Tryz.results32 rfl rfl rfl rfl m1 (by rw [hu]; exact hfin.out)
set_option maxRecDepth 100000 in
set_option maxHeartbeats 4000000 in
theorem ddiff_b (a : Option Addr) (xs : List Nat) (cap x y z : Nat) (n : Int) (ss roots : List ByteArray) (root : ByteArray) (hr : SmT roots 5 32) (_hrs : root.size ≤ 33)
    (HT : ∀ w, BL a xs w → Calls Tryz.prog 41 #[.slice a xs.length cap, .int .i64 0, .int .i64 10] w fun e w' => e = .returned (.tuple #[.int .i64 (x : Int), .int .i64 1]) ∧ Below w.heap.size w w')
    (HP : ∀ w, BL a xs w → Calls Tryz.prog 71 #[.slice a xs.length cap, .int .i64 1] w (AGot n ss roots root z w))
    (HA : ∀ w, BL a xs w → Calls Tryz.prog 41 #[.slice a xs.length cap, .int .i64 (z : Int), .int .i64 (roots.length : Int)] w fun e w' => e = .returned (.tuple #[.int .i64 (y : Int), .int .i64 ((z + 1 : Nat) : Int)]) ∧ Below w.heap.size w w') (hx : x < 8 ∧ x % 2 = 1) (hy : y < roots.length) :
    ∀ w, BL a xs w → Calls Tryz.prog 32 #[.slice a xs.length cap] w (DGot n ss (roots.getD y ⟨#[]⟩) root w) := by
  intro w hB
  have HT' : Hid (∀ w', Below w.heap.size w w' → Calls Tryz.prog 41 #[.slice a xs.length cap, .int .i64 0, .int .i64 10] w' fun e w'' => e = .returned (.tuple #[.int .i64 (x : Int), .int .i64 1]) ∧ Below w'.heap.size w' w'') := fun w' hb => HT w' (hB.below hb)
  have HP' : Hid (∀ w', Below w.heap.size w w' → Calls Tryz.prog 71 #[.slice a xs.length cap, .int .i64 1] w' (AGot n ss roots root z w')) := fun w' hb => HP w' (hB.below hb)
  have HA' : Hid (∀ w', Below w.heap.size w w' → Calls Tryz.prog 41 #[.slice a xs.length cap, .int .i64 (z : Int), .int .i64 (roots.length : Int)] w' fun e w'' => e = .returned (.tuple #[.int .i64 (y : Int), .int .i64 ((z + 1 : Nat) : Int)]) ∧ Below w'.heap.size w' w'') := fun w' hb => HA w' (hB.below hb)
  unfold AGot at HP'
  clear HT HP HA hB
  have hrl : roots.length ≤ 5 := hr.len
  obtain ⟨L, hLL⟩ : ∃ L, xs.length = L := ⟨_, rfl⟩
  rw [hLL] at HT' HP' HA' ⊢
  obtain ⟨q2, hq2⟩ : ∃ q, z + 1 = q := ⟨_, rfl⟩
  rw [hq2] at HA'
  clear hq2 hLL
  obtain ⟨N, hN⟩ : ∃ N, ss.length = N := ⟨_, rfl⟩
  rw [hN] at HP'
  obtain ⟨R, hRn⟩ : ∃ R, roots.length = R := ⟨_, rfl⟩
  rw [hRn] at HP' HA' hrl
  have hA : Below w.heap.size w (w.alloc (.cells #[.int .i64 0, .slice none 0 0] 37)) := (Below.refl _ _).alloc (Nat.le_refl _) _
  have nA := heap_alloc_new w (.cells #[.int .i64 0, .slice none 0 0] 37)
  have hgw : w.heap.size ≤ w.heap.size := Nat.le_refl _
  go_enter Tryz.func32, Tryz.ntmps32
  go_upto_region 1 with fail
  generalize w.alloc (.cells #[.int .i64 0, .slice none 0 0] 37) = wA at hA nA ⊢
  obtain ⟨gr, hgr⟩ : ∃ g, w.heap.size = g := ⟨_, rfl⟩
  have hgl : w.heap.size ≤ gr := Nat.le_of_eq hgr
  rw [hgr] at nA
  try rw [hgr]
  clear hgr hgw
  go_upto_region 2 with (first | (go_at_call 41; refine (HT'.out _ hA).mono ?_; rintro e w1 ⟨rfl, hb1⟩; have hbw1 := hA.trans (hb1.mono hA.size)))
  have nB := pblk_below hb1 nA
  go_upto_region 3 with (first | (go_at_call 71; refine (HP'.out _ hbw1).mono ?_; rintro e w2 ⟨ap, cp, ar, cr, rfl, hS2, hR2, hb2⟩))
  have al : Below w2.heap.size w2 (w2.alloc (.cells #[.int .i64 n, .slice ap N cp] 37)) := (Below.refl _ _).alloc (Nat.le_refl _) _
  have hbw2 := hbw1.trans (hb2.mono hbw1.size)
  have nC := pblk_below hb2 nB
  have hAP : AP w gr w2.heap.size n ss roots ap cp ar (w2.alloc (.cells #[.int .i64 n, .slice ap N cp] 37)) := by
    refine ⟨pblk_below al nC, by rw [hN]; exact heap_alloc_new w2 _, ?_, hgl, hbw2.size, hS2.below al, hR2.below al, hbw2.trans (al.mono hbw2.size)⟩
    have := (Array.getElem?_eq_some_iff.1 nC).1
    omega
  generalize w2.alloc (.cells #[.int .i64 n, .slice ap N cp] 37) = w3 at hAP ⊢
  obtain ⟨gq, hgq⟩ : ∃ g, w2.heap.size = g := ⟨_, rfl⟩
  rw [hgq] at hAP
  try rw [hgq]
  clear hgq al hS2 hR2 hb2 nC nB nA hb1 hbw1 hbw2 hA HT' HP'
  go_upto_region 4 with (first | (go_at_call 41; refine (HA'.out _ hAP.bel).mono ?_; rintro e w4 ⟨rfl, hb4⟩))
  have hP4 := hAP.below hb4
  clear hAP hb4 HA'
  have zR : decide ((0 : Int) < (R : Int)) = true := by simp; omega
  have zR' : decide (0 < R) = true := by simp; omega
  have z8 : decide ((x : Int) < 8) = true := by simp; omega
  have z8' : decide (x < 8) = true := by simp; omega
  have z9 : ((x : Int) == 9) = false := by simp; omega
  have ym : (x : Int).tmod 2 = ((x % 2 : Nat) : Int) := by rw [Int.tmod_eq_emod_of_nonneg (by omega)]; omega
  obtain ⟨k, hk⟩ : ∃ k, x % 2 = k := ⟨_, rfl⟩
  rw [hk] at ym
  have zo : ((k : Int) == 1) = true := by simp; omega
  have hx0 : (0 : Int) ≤ (y : Int) := Int.natCast_nonneg _
  have hx1 : (y : Int) < (R : Int) := by omega
  obtain ⟨b1, off1, rfl, hbl1, hc⟩ := hP4.rarg.at_ (by omega)
  have hc1 := hc y (by omega)
  clear hc
  obtain ⟨u, hu⟩ : ∃ u, roots.getD y ⟨#[]⟩ = u := ⟨_, rfl⟩
  rw [hu] at hc1
  clear hx hk
  have hRh : Hid (roots.length = R) := hRn
  try clear h0
  have c0 := Lib.cell_of_heap hP4.pool 0
  have c1 := Lib.cell_of_heap hP4.pool 1
  rw [hN] at c0 c1
  have hfin : Hid (DGot _ ss u root w _ _) := hP4.fin3 u root
  have m1 := hP4.m1
  rw [hN] at hfin
  rw [hN] at m1
  have e0 := Lib.cell_of_heap hP4.res 0
  have e1 := Lib.cell_of_heap hP4.res 1
  have ef : ∀ j, w4.frozen? ⟨gr, j, none⟩ = false := fun j => by rw [World.frozen?, hP4.res]; rfl
  clear hP4
  go_wp2_with fail
  exact retPT Tryz.results32 rfl rfl rfl rfl m1 (by rw [hu]; exact hfin.out)
set_option maxRecDepth 100000 in
set_option maxHeartbeats 4000000 in
theorem ddiff_c (a : Option Addr) (xs : List Nat) (cap x y z : Nat) (n : Int) (ss roots : List ByteArray) (root : ByteArray) (hr : SmT roots 5 32) (_hrs : root.size ≤ 33)
    (HT : ∀ w, BL a xs w → Calls Tryz.prog 41 #[.slice a xs.length cap, .int .i64 0, .int .i64 10] w fun e w' => e = .returned (.tuple #[.int .i64 (x : Int), .int .i64 1]) ∧ Below w.heap.size w w')
    (HP : ∀ w, BL a xs w → Calls Tryz.prog 71 #[.slice a xs.length cap, .int .i64 1] w (AGot n ss roots root z w))
    (HA : ∀ w, BL a xs w → Calls Tryz.prog 41 #[.slice a xs.length cap, .int .i64 (z : Int), .int .i64 (roots.length : Int)] w fun e w' => e = .returned (.tuple #[.int .i64 (y : Int), .int .i64 ((z + 1 : Nat) : Int)]) ∧ Below w.heap.size w w') (hx : x < 8 ∧ x % 2 = 0) (h0 : roots.length = 0) :
    ∀ w, BL a xs w → Calls Tryz.prog 32 #[.slice a xs.length cap] w (DGot n ss root ⟨#[]⟩ w) := by
  intro w hB
  have HT' : Hid (∀ w', Below w.heap.size w w' → Calls Tryz.prog 41 #[.slice a xs.length cap, .int .i64 0, .int .i64 10] w' fun e w'' => e = .returned (.tuple #[.int .i64 (x : Int), .int .i64 1]) ∧ Below w'.heap.size w' w'') := fun w' hb => HT w' (hB.below hb)
  have HP' : Hid (∀ w', Below w.heap.size w w' → Calls Tryz.prog 71 #[.slice a xs.length cap, .int .i64 1] w' (AGot n ss roots root z w')) := fun w' hb => HP w' (hB.below hb)
  have HA' : Hid (∀ w', Below w.heap.size w w' → Calls Tryz.prog 41 #[.slice a xs.length cap, .int .i64 (z : Int), .int .i64 (roots.length : Int)] w' fun e w'' => e = .returned (.tuple #[.int .i64 (y : Int), .int .i64 ((z + 1 : Nat) : Int)]) ∧ Below w'.heap.size w' w'') := fun w' hb => HA w' (hB.below hb)
  unfold AGot at HP'
  clear HT HP HA hB
  have hrl : roots.length ≤ 5 := hr.len
  obtain ⟨L, hLL⟩ : ∃ L, xs.length = L := ⟨_, rfl⟩
  rw [hLL] at HT' HP' HA' ⊢
  obtain ⟨q2, hq2⟩ : ∃ q, z + 1 = q := ⟨_, rfl⟩
  rw [hq2] at HA'
  clear hq2 hLL
  obtain ⟨N, hN⟩ : ∃ N, ss.length = N := ⟨_, rfl⟩
  rw [hN] at HP'
  obtain ⟨R, hRn⟩ : ∃ R, roots.length = R := ⟨_, rfl⟩
  rw [hRn] at HP' HA' hrl
  have hA : Below w.heap.size w (w.alloc (.cells #[.int .i64 0, .slice none 0 0] 37)) := (Below.refl _ _).alloc (Nat.le_refl _) _
  have nA := heap_alloc_new w (.cells #[.int .i64 0, .slice none 0 0] 37)
  have hgw : w.heap.size ≤ w.heap.size := Nat.le_refl _
  go_enter Tryz.func32, Tryz.ntmps32
  go_upto_region 1 with fail
  generalize w.alloc (.cells #[.int .i64 0, .slice none 0 0] 37) = wA at hA nA ⊢
  obtain ⟨gr, hgr⟩ : ∃ g, w.heap.size = g := ⟨_, rfl⟩
  have hgl : w.heap.size ≤ gr := Nat.le_of_eq hgr
  rw [hgr] at nA
  try rw [hgr]
  clear hgr hgw
  go_upto_region 2 with (first | (go_at_call 41; refine (HT'.out _ hA).mono ?_; rintro e w1 ⟨rfl, hb1⟩; have hbw1 := hA.trans (hb1.mono hA.size)))
  have nB := pblk_below hb1 nA
  go_upto_region 3 with (first | (go_at_call 71; refine (HP'.out _ hbw1).mono ?_; rintro e w2 ⟨ap, cp, ar, cr, rfl, hS2, hR2, hb2⟩))
  have al : Below w2.heap.size w2 (w2.alloc (.cells #[.int .i64 n, .slice ap N cp] 37)) := (Below.refl _ _).alloc (Nat.le_refl _) _
  have hbw2 := hbw1.trans (hb2.mono hbw1.size)
  have nC := pblk_below hb2 nB
  have hAP : AP w gr w2.heap.size n ss roots ap cp ar (w2.alloc (.cells #[.int .i64 n, .slice ap N cp] 37)) := by
    refine ⟨pblk_below al nC, by rw [hN]; exact heap_alloc_new w2 _, ?_, hgl, hbw2.size, hS2.below al, hR2.below al, hbw2.trans (al.mono hbw2.size)⟩
    have := (Array.getElem?_eq_some_iff.1 nC).1
    omega
  generalize w2.alloc (.cells #[.int .i64 n, .slice ap N cp] 37) = w3 at hAP ⊢
  obtain ⟨gq, hgq⟩ : ∃ g, w2.heap.size = g := ⟨_, rfl⟩
  rw [hgq] at hAP
  try rw [hgq]
  clear hgq al hS2 hR2 hb2 nC nB nA hb1 hbw1 hbw2 hA HT' HP'
  go_upto_region 4 with (first | (go_at_call 41; refine (HA'.out _ hAP.bel).mono ?_; rintro e w4 ⟨rfl, hb4⟩))
  have hP4 := hAP.below hb4
  clear hAP hb4 HA'
  have zR : decide ((0 : Int) < (R : Int)) = false := by simp; omega
  have zR' : decide (0 < R) = false := by simp; omega
  have z8 : decide ((x : Int) < 8) = true := by simp; omega
  have z8' : decide (x < 8) = true := by simp; omega
  have z9 : ((x : Int) == 9) = false := by simp; omega
  have ym : (x : Int).tmod 2 = ((x % 2 : Nat) : Int) := by rw [Int.tmod_eq_emod_of_nonneg (by omega)]; omega
  obtain ⟨k, hk⟩ : ∃ k, x % 2 = k := ⟨_, rfl⟩
  rw [hk] at ym
  have zo : ((k : Int) == 1) = false := by simp; omega
  clear hx hk
  have hRh : Hid (roots.length = R) := hRn
  try clear h0
  have c0 := Lib.cell_of_heap hP4.pool 0
  have c1 := Lib.cell_of_heap hP4.pool 1
  rw [hN] at c0 c1
  have hfin : Hid (DGot _ ss root ⟨#[]⟩ w _ _) := hP4.fin3 root ⟨#[]⟩
  have m1 := hP4.m1
  rw [hN] at hfin
  rw [hN] at m1
  have e0 := Lib.cell_of_heap hP4.res 0
  have e1 := Lib.cell_of_heap hP4.res 1
  have ef : ∀ j, w4.frozen? ⟨gr, j, none⟩ = false := fun j => by rw [World.frozen?, hP4.res]; rfl
  clear hP4
  go_wp2_with fail
  exact retPT Tryz.results32 rfl rfl rfl rfl m1 hfin.out
set_option maxRecDepth 100000 in
set_option maxHeartbeats 4000000 in
theorem ddiff_d (a : Option Addr) (xs : List Nat) (cap x y z : Nat) (n : Int) (ss roots : List ByteArray) (root : ByteArray) (hr : SmT roots 5 32) (_hrs : root.size ≤ 33)
    (HT : ∀ w, BL a xs w → Calls Tryz.prog 41 #[.slice a xs.length cap, .int .i64 0, .int .i64 10] w fun e w' => e = .returned (.tuple #[.int .i64 (x : Int), .int .i64 1]) ∧ Below w.heap.size w w')
    (HP : ∀ w, BL a xs w → Calls Tryz.prog 71 #[.slice a xs.length cap, .int .i64 1] w (AGot n ss roots root z w))
    (HA : ∀ w, BL a xs w → Calls Tryz.prog 41 #[.slice a xs.length cap, .int .i64 (z : Int), .int .i64 (roots.length : Int)] w fun e w' => e = .returned (.tuple #[.int .i64 (y : Int), .int .i64 ((z + 1 : Nat) : Int)]) ∧ Below w.heap.size w w') (hx : x < 8 ∧ x % 2 = 1) (h0 : roots.length = 0) :
    ∀ w, BL a xs w → Calls Tryz.prog 32 #[.slice a xs.length cap] w (DGot n ss ⟨#[]⟩ root w) := by
  intro w hB
  have HT' : Hid (∀ w', Below w.heap.size w w' → Calls Tryz.prog 41 #[.slice a xs.length cap, .int .i64 0, .int .i64 10] w' fun e w'' => e = .returned (.tuple #[.int .i64 (x : Int), .int .i64 1]) ∧ Below w'.heap.size w' w'') := fun w' hb => HT w' (hB.below hb)
  have HP' : Hid (∀ w', Below w.heap.size w w' → Calls Tryz.prog 71 #[.slice a xs.length cap, .int .i64 1] w' (AGot n ss roots root z w')) := fun w' hb => HP w' (hB.below hb)
  have HA' : Hid (∀ w', Below w.heap.size w w' → Calls Tryz.prog 41 #[.slice a xs.length cap, .int .i64 (z : Int), .int .i64 (roots.length : Int)] w' fun e w'' => e = .returned (.tuple #[.int .i64 (y : Int), .int .i64 ((z + 1 : Nat) : Int)]) ∧ Below w'.heap.size w' w'') := fun w' hb => HA w' (hB.below hb)
  unfold AGot at HP'
  clear HT HP HA hB
  have hrl : roots.length ≤ 5 := hr.len
  obtain ⟨L, hLL⟩ : ∃ L, xs.length = L := ⟨_, rfl⟩
  rw [hLL] at HT' HP' HA' ⊢
  obtain ⟨q2, hq2⟩ : ∃ q, z + 1 = q := ⟨_, rfl⟩
  rw [hq2] at HA'
  clear hq2 hLL
  obtain ⟨N, hN⟩ : ∃ N, ss.length = N := ⟨_, rfl⟩
  rw [hN] at HP'
  obtain ⟨R, hRn⟩ : ∃ R, roots.length = R := ⟨_, rfl⟩
  rw [hRn] at HP' HA' hrl
  have hA : Below w.heap.size w (w.alloc (.cells #[.int .i64 0, .slice none 0 0] 37)) := (Below.refl _ _).alloc (Nat.le_refl _) _
  have nA := heap_alloc_new w (.cells #[.int .i64 0, .slice none 0 0] 37)
  have hgw : w.heap.size ≤ w.heap.size := Nat.le_refl _
  go_enter Tryz.func32, Tryz.ntmps32
  go_upto_region 1 with fail
  generalize w.alloc (.cells #[.int .i64 0, .slice none 0 0] 37) = wA at hA nA ⊢
  obtain ⟨gr, hgr⟩ : ∃ g, w.heap.size = g := ⟨_, rfl⟩
  have hgl : w.heap.size ≤ gr := Nat.le_of_eq hgr
  rw [hgr] at nA
  try rw [hgr]
  clear hgr hgw
  go_upto_region 2 with (first | (go_at_call 41; refine (HT'.out _ hA).mono ?_; rintro e w1 ⟨rfl, hb1⟩; have hbw1 := hA.trans (hb1.mono hA.size)))
  have nB := pblk_below hb1 nA
  go_upto_region 3 with (first | (go_at_call 71; refine (HP'.out _ hbw1).mono ?_; rintro e w2 ⟨ap, cp, ar, cr, rfl, hS2, hR2, hb2⟩))
  have al : Below w2.heap.size w2 (w2.alloc (.cells #[.int .i64 n, .slice ap N cp] 37)) := (Below.refl _ _).alloc (Nat.le_refl _) _
  have hbw2 := hbw1.trans (hb2.mono hbw1.size)
  have nC := pblk_below hb2 nB
  have hAP : AP w gr w2.heap.size n ss roots ap cp ar (w2.alloc (.cells #[.int .i64 n, .slice ap N cp] 37)) := by
    refine ⟨pblk_below al nC, by rw [hN]; exact heap_alloc_new w2 _, ?_, hgl, hbw2.size, hS2.below al, hR2.below al, hbw2.trans (al.mono hbw2.size)⟩
    have := (Array.getElem?_eq_some_iff.1 nC).1
    omega
  generalize w2.alloc (.cells #[.int .i64 n, .slice ap N cp] 37) = w3 at hAP ⊢
  obtain ⟨gq, hgq⟩ : ∃ g, w2.heap.size = g := ⟨_, rfl⟩
  rw [hgq] at hAP
  try rw [hgq]
  clear hgq al hS2 hR2 hb2 nC nB nA hb1 hbw1 hbw2 hA HT' HP'
  go_upto_region 4 with (first | (go_at_call 41; refine (HA'.out _ hAP.bel).mono ?_; rintro e w4 ⟨rfl, hb4⟩))
  have hP4 := hAP.below hb4
  clear hAP hb4 HA'
  have zR : decide ((0 : Int) < (R : Int)) = false := by simp; omega
  have zR' : decide (0 < R) = false := by simp; omega
  have z8 : decide ((x : Int) < 8) = true := by simp; omega
  have z8' : decide (x < 8) = true := by simp; omega
  have z9 : ((x : Int) == 9) = false := by simp; omega
  have ym : (x : Int).tmod 2 = ((x % 2 : Nat) : Int) := by rw [Int.tmod_eq_emod_of_nonneg (by omega)]; omega
  obtain ⟨k, hk⟩ : ∃ k, x % 2 = k := ⟨_, rfl⟩
  rw [hk] at ym
  have zo : ((k : Int) == 1) = true := by simp; omega
  clear hx hk
  have hRh : Hid (roots.length = R) := hRn
  try clear h0
  have c0 := Lib.cell_of_heap hP4.pool 0
  have c1 := Lib.cell_of_heap hP4.pool 1
  rw [hN] at c0 c1
  have hfin : Hid (DGot _ ss ⟨#[]⟩ root w _ _) := hP4.fin3 ⟨#[]⟩ root
  have m1 := hP4.m1
  rw [hN] at hfin
  rw [hN] at m1
  have e0 := Lib.cell_of_heap hP4.res 0
  have e1 := Lib.cell_of_heap hP4.res 1
  have ef : ∀ j, w4.frozen? ⟨gr, j, none⟩ = false := fun j => by rw [World.frozen?, hP4.res]; rfl
  clear hP4
  go_wp2_with fail
  exact retPT Tryz.results32 rfl rfl rfl rfl m1 hfin.out
set_option maxRecDepth 100000 in
set_option maxHeartbeats 4000000 in
theorem ddiff_e (a : Option Addr) (xs : List Nat) (cap x y z : Nat) (n : Int) (ss roots : List ByteArray) (root : ByteArray) (hr : SmT roots 5 32) (_hrs : root.size ≤ 33)
    (HT : ∀ w, BL a xs w → Calls Tryz.prog 41 #[.slice a xs.length cap, .int .i64 0, .int .i64 10] w fun e w' => e = .returned (.tuple #[.int .i64 (x : Int), .int .i64 1]) ∧ Below w.heap.size w w')
    (HP : ∀ w, BL a xs w → Calls Tryz.prog 71 #[.slice a xs.length cap, .int .i64 1] w (AGot n ss roots root z w))
    (HA : ∀ w, BL a xs w → Calls Tryz.prog 41 #[.slice a xs.length cap, .int .i64 (z : Int), .int .i64 (roots.length : Int)] w fun e w' => e = .returned (.tuple #[.int .i64 (y : Int), .int .i64 ((z + 1 : Nat) : Int)]) ∧ Below w.heap.size w w') (hx : x = 8) (h0 : 0 < roots.length) :
    ∀ w, BL a xs w → Calls Tryz.prog 32 #[.slice a xs.length cap] w (DGot n ss root ⟨#[]⟩ w) := by
  intro w hB
  have HT' : Hid (∀ w', Below w.heap.size w w' → Calls Tryz.prog 41 #[.slice a xs.length cap, .int .i64 0, .int .i64 10] w' fun e w'' => e = .returned (.tuple #[.int .i64 (x : Int), .int .i64 1]) ∧ Below w'.heap.size w' w'') := fun w' hb => HT w' (hB.below hb)
  have HP' : Hid (∀ w', Below w.heap.size w w' → Calls Tryz.prog 71 #[.slice a xs.length cap, .int .i64 1] w' (AGot n ss roots root z w')) := fun w' hb => HP w' (hB.below hb)
  have HA' : Hid (∀ w', Below w.heap.size w w' → Calls Tryz.prog 41 #[.slice a xs.length cap, .int .i64 (z : Int), .int .i64 (roots.length : Int)] w' fun e w'' => e = .returned (.tuple #[.int .i64 (y : Int), .int .i64 ((z + 1 : Nat) : Int)]) ∧ Below w'.heap.size w' w'') := fun w' hb => HA w' (hB.below hb)
  unfold AGot at HP'
  clear HT HP HA hB
  have hrl : roots.length ≤ 5 := hr.len
  obtain ⟨L, hLL⟩ : ∃ L, xs.length = L := ⟨_, rfl⟩
  rw [hLL] at HT' HP' HA' ⊢
  obtain ⟨q2, hq2⟩ : ∃ q, z + 1 = q := ⟨_, rfl⟩
  rw [hq2] at HA'
  clear hq2 hLL
  obtain ⟨N, hN⟩ : ∃ N, ss.length = N := ⟨_, rfl⟩
  rw [hN] at HP'
  obtain ⟨R, hRn⟩ : ∃ R, roots.length = R := ⟨_, rfl⟩
  rw [hRn] at HP' HA' hrl
  have hA : Below w.heap.size w (w.alloc (.cells #[.int .i64 0, .slice none 0 0] 37)) := (Below.refl _ _).alloc (Nat.le_refl _) _
  have nA := heap_alloc_new w (.cells #[.int .i64 0, .slice none 0 0] 37)
  have hgw : w.heap.size ≤ w.heap.size := Nat.le_refl _
  go_enter Tryz.func32, Tryz.ntmps32
  go_upto_region 1 with fail
  generalize w.alloc (.cells #[.int .i64 0, .slice none 0 0] 37) = wA at hA nA ⊢
  obtain ⟨gr, hgr⟩ : ∃ g, w.heap.size = g := ⟨_, rfl⟩
  have hgl : w.heap.size ≤ gr := Nat.le_of_eq hgr
  rw [hgr] at nA
  try rw [hgr]
  clear hgr hgw
  go_upto_region 2 with (first | (go_at_call 41; refine (HT'.out _ hA).mono ?_; rintro e w1 ⟨rfl, hb1⟩; have hbw1 := hA.trans (hb1.mono hA.size)))
  have nB := pblk_below hb1 nA
  go_upto_region 3 with (first | (go_at_call 71; refine (HP'.out _ hbw1).mono ?_; rintro e w2 ⟨ap, cp, ar, cr, rfl, hS2, hR2, hb2⟩))
  have al : Below w2.heap.size w2 (w2.alloc (.cells #[.int .i64 n, .slice ap N cp] 37)) := (Below.refl _ _).alloc (Nat.le_refl _) _
  have hbw2 := hbw1.trans (hb2.mono hbw1.size)
  have nC := pblk_below hb2 nB
  have hAP : AP w gr w2.heap.size n ss roots ap cp ar (w2.alloc (.cells #[.int .i64 n, .slice ap N cp] 37)) := by
    refine ⟨pblk_below al nC, by rw [hN]; exact heap_alloc_new w2 _, ?_, hgl, hbw2.size, hS2.below al, hR2.below al, hbw2.trans (al.mono hbw2.size)⟩
    have := (Array.getElem?_eq_some_iff.1 nC).1
    omega
  generalize w2.alloc (.cells #[.int .i64 n, .slice ap N cp] 37) = w3 at hAP ⊢
  obtain ⟨gq, hgq⟩ : ∃ g, w2.heap.size = g := ⟨_, rfl⟩
  rw [hgq] at hAP
  try rw [hgq]
  clear hgq al hS2 hR2 hb2 nC nB nA hb1 hbw1 hbw2 hA HT' HP'
  go_upto_region 4 with (first | (go_at_call 41; refine (HA'.out _ hAP.bel).mono ?_; rintro e w4 ⟨rfl, hb4⟩))
  have hP4 := hAP.below hb4
  clear hAP hb4 HA'
  have zR : decide ((0 : Int) < (R : Int)) = true := by simp; omega
  have zR' : decide (0 < R) = true := by simp; omega
  have z8 : decide ((x : Int) < 8) = false := by simp; omega
  have z8' : decide (x < 8) = false := by simp; omega
  have z9 : ((x : Int) == 9) = false := by simp; omega
  have ym : (x : Int).tmod 2 = ((x % 2 : Nat) : Int) := by rw [Int.tmod_eq_emod_of_nonneg (by omega)]; omega
  obtain ⟨k, hk⟩ : ∃ k, x % 2 = k := ⟨_, rfl⟩
  rw [hk] at ym
  have zo : ((k : Int) == 1) = false := by simp; omega
  clear hx hk
  have hRh : Hid (roots.length = R) := hRn
  try clear h0
  have c0 := Lib.cell_of_heap hP4.pool 0
  have c1 := Lib.cell_of_heap hP4.pool 1
  rw [hN] at c0 c1
  have hfin : Hid (DGot _ ss root ⟨#[]⟩ w _ _) := hP4.fin3 root ⟨#[]⟩
  have m1 := hP4.m1
  rw [hN] at hfin
  rw [hN] at m1
  have e0 := Lib.cell_of_heap hP4.res 0
  have e1 := Lib.cell_of_heap hP4.res 1
  have ef : ∀ j, w4.frozen? ⟨gr, j, none⟩ = false := fun j => by rw [World.frozen?, hP4.res]; rfl
  clear hP4
  go_wp2_with fail
  exact retPT Tryz.results32 rfl rfl rfl rfl m1 hfin.out
set_option maxRecDepth 100000 in
set_option maxHeartbeats 4000000 in
theorem ddiff_f (a : Option Addr) (xs : List Nat) (cap x y z : Nat) (n : Int) (ss roots : List ByteArray) (root : ByteArray) (hr : SmT roots 5 32) (_hrs : root.size ≤ 33)
    (HT : ∀ w, BL a xs w → Calls Tryz.prog 41 #[.slice a xs.length cap, .int .i64 0, .int .i64 10] w fun e w' => e = .returned (.tuple #[.int .i64 (x : Int), .int .i64 1]) ∧ Below w.heap.size w w')
    (HP : ∀ w, BL a xs w → Calls Tryz.prog 71 #[.slice a xs.length cap, .int .i64 1] w (AGot n ss roots root z w))
    (HA : ∀ w, BL a xs w → Calls Tryz.prog 41 #[.slice a xs.length cap, .int .i64 (z : Int), .int .i64 (roots.length : Int)] w fun e w' => e = .returned (.tuple #[.int .i64 (y : Int), .int .i64 ((z + 1 : Nat) : Int)]) ∧ Below w.heap.size w w') (hx : x = 8) (h0 : roots.length = 0) :
    ∀ w, BL a xs w → Calls Tryz.prog 32 #[.slice a xs.length cap] w (DGot n ss root ⟨#[]⟩ w) := by
  intro w hB
  have HT' : Hid (∀ w', Below w.heap.size w w' → Calls Tryz.prog 41 #[.slice a xs.length cap, .int .i64 0, .int .i64 10] w' fun e w'' => e = .returned (.tuple #[.int .i64 (x : Int), .int .i64 1]) ∧ Below w'.heap.size w' w'') := fun w' hb => HT w' (hB.below hb)
  have HP' : Hid (∀ w', Below w.heap.size w w' → Calls Tryz.prog 71 #[.slice a xs.length cap, .int .i64 1] w' (AGot n ss roots root z w')) := fun w' hb => HP w' (hB.below hb)
  have HA' : Hid (∀ w', Below w.heap.size w w' → Calls Tryz.prog 41 #[.slice a xs.length cap, .int .i64 (z : Int), .int .i64 (roots.length : Int)] w' fun e w'' => e = .returned (.tuple #[.int .i64 (y : Int), .int .i64 ((z + 1 : Nat) : Int)]) ∧ Below w'.heap.size w' w'') := fun w' hb => HA w' (hB.below hb)
  unfold AGot at HP'
  clear HT HP HA hB
  have hrl : roots.length ≤ 5 := hr.len
  obtain ⟨L, hLL⟩ : ∃ L, xs.length = L := ⟨_, rfl⟩
  rw [hLL] at HT' HP' HA' ⊢
  obtain ⟨q2, hq2⟩ : ∃ q, z + 1 = q := ⟨_, rfl⟩
  rw [hq2] at HA'
  clear hq2 hLL
  obtain ⟨N, hN⟩ : ∃ N, ss.length = N := ⟨_, rfl⟩
  rw [hN] at HP'
  obtain ⟨R, hRn⟩ : ∃ R, roots.length = R := ⟨_, rfl⟩
  rw [hRn] at HP' HA' hrl
  have hA : Below w.heap.size w (w.alloc (.cells #[.int .i64 0, .slice none 0 0] 37)) := (Below.refl _ _).alloc (Nat.le_refl _) _
  have nA := heap_alloc_new w (.cells #[.int .i64 0, .slice none 0 0] 37)
  have hgw : w.heap.size ≤ w.heap.size := Nat.le_refl _
  go_enter Tryz.func32, Tryz.ntmps32
  go_upto_region 1 with fail
  generalize w.alloc (.cells #[.int .i64 0, .slice none 0 0] 37) = wA at hA nA ⊢
  obtain ⟨gr, hgr⟩ : ∃ g, w.heap.size = g := ⟨_, rfl⟩
  have hgl : w.heap.size ≤ gr := Nat.le_of_eq hgr
  rw [hgr] at nA
  try rw [hgr]
  clear hgr hgw
  go_upto_region 2 with (first | (go_at_call 41; refine (HT'.out _ hA).mono ?_; rintro e w1 ⟨rfl, hb1⟩; have hbw1 := hA.trans (hb1.mono hA.size)))
  have nB := pblk_below hb1 nA
  go_upto_region 3 with (first | (go_at_call 71; refine (HP'.out _ hbw1).mono ?_; rintro e w2 ⟨ap, cp, ar, cr, rfl, hS2, hR2, hb2⟩))
  have al : Below w2.heap.size w2 (w2.alloc (.cells #[.int .i64 n, .slice ap N cp] 37)) := (Below.refl _ _).alloc (Nat.le_refl _) _
  have hbw2 := hbw1.trans (hb2.mono hbw1.size)
  have nC := pblk_below hb2 nB
  have hAP : AP w gr w2.heap.size n ss roots ap cp ar (w2.alloc (.cells #[.int .i64 n, .slice ap N cp] 37)) := by
    refine ⟨pblk_below al nC, by rw [hN]; exact heap_alloc_new w2 _, ?_, hgl, hbw2.size, hS2.below al, hR2.below al, hbw2.trans (al.mono hbw2.size)⟩
    have := (Array.getElem?_eq_some_iff.1 nC).1
    omega
  generalize w2.alloc (.cells #[.int .i64 n, .slice ap N cp] 37) = w3 at hAP ⊢
  obtain ⟨gq, hgq⟩ : ∃ g, w2.heap.size = g := ⟨_, rfl⟩
  rw [hgq] at hAP
  try rw [hgq]
  clear hgq al hS2 hR2 hb2 nC nB nA hb1 hbw1 hbw2 hA HT' HP'
  go_upto_region 4 with (first | (go_at_call 41; refine (HA'.out _ hAP.bel).mono ?_; rintro e w4 ⟨rfl, hb4⟩))
  have hP4 := hAP.below hb4
  clear hAP hb4 HA'
  have zR : decide ((0 : Int) < (R : Int)) = false := by simp; omega
  have zR' : decide (0 < R) = false := by simp; omega
  have z8 : decide ((x : Int) < 8) = false := by simp; omega
  have z8' : decide (x < 8) = false := by simp; omega
  have z9 : ((x : Int) == 9) = false := by simp; omega
  have ym : (x : Int).tmod 2 = ((x % 2 : Nat) : Int) := by rw [Int.tmod_eq_emod_of_nonneg (by omega)]; omega
  obtain ⟨k, hk⟩ : ∃ k, x % 2 = k := ⟨_, rfl⟩
  rw [hk] at ym
  have zo : ((k : Int) == 1) = false := by simp; omega
  clear hx hk
  have hRh : Hid (roots.length = R) := hRn
  try clear h0
  have c0 := Lib.cell_of_heap hP4.pool 0
  have c1 := Lib.cell_of_heap hP4.pool 1
  rw [hN] at c0 c1
  have hfin : Hid (DGot _ ss root ⟨#[]⟩ w _ _) := hP4.fin3 root ⟨#[]⟩
  have m1 := hP4.m1
  rw [hN] at hfin
  rw [hN] at m1
  have e0 := Lib.cell_of_heap hP4.res 0
  have e1 := Lib.cell_of_heap hP4.res 1
  have ef : ∀ j, w4.frozen? ⟨gr, j, none⟩ = false := fun j => by rw [World.frozen?, hP4.res]; rfl
  clear hP4
  go_wp2_with fail
  exact retPT Tryz.results32 rfl rfl rfl rfl m1 hfin.out
set_option maxRecDepth 100000 in
set_option maxHeartbeats 4000000 in
theorem ddiff_g (a : Option Addr) (xs : List Nat) (cap x y z : Nat) (n : Int) (ss roots : List ByteArray) (root : ByteArray) (hr : SmT roots 5 32) (hrs : root.size ≤ 33)
    (HT : ∀ w, BL a xs w → Calls Tryz.prog 41 #[.slice a xs.length cap, .int .i64 0, .int .i64 10] w fun e w' => e = .returned (.tuple #[.int .i64 (x : Int), .int .i64 1]) ∧ Below w.heap.size w w')
    (HP : ∀ w, BL a xs w → Calls Tryz.prog 71 #[.slice a xs.length cap, .int .i64 1] w (AGot n ss roots root z w))
    (HA : ∀ w, BL a xs w → Calls Tryz.prog 41 #[.slice a xs.length cap, .int .i64 (z : Int), .int .i64 (roots.length : Int)] w fun e w' => e = .returned (.tuple #[.int .i64 (y : Int), .int .i64 ((z + 1 : Nat) : Int)]) ∧ Below w.heap.size w w') (hx : x = 9) (h0 : 0 < roots.length) :
    ∀ w, BL a xs w → Calls Tryz.prog 32 #[.slice a xs.length cap] w (DGot n ss (root ++ (⟨#[121]⟩ : ByteArray)) (root ++ (⟨#[121]⟩ : ByteArray)) w) := by
  intro w hB
  have HT' : Hid (∀ w', Below w.heap.size w w' → Calls Tryz.prog 41 #[.slice a xs.length cap, .int .i64 0, .int .i64 10] w' fun e w'' => e = .returned (.tuple #[.int .i64 (x : Int), .int .i64 1]) ∧ Below w'.heap.size w' w'') := fun w' hb => HT w' (hB.below hb)
  have HP' : Hid (∀ w', Below w.heap.size w w' → Calls Tryz.prog 71 #[.slice a xs.length cap, .int .i64 1] w' (AGot n ss roots root z w')) := fun w' hb => HP w' (hB.below hb)
  have HA' : Hid (∀ w', Below w.heap.size w w' → Calls Tryz.prog 41 #[.slice a xs.length cap, .int .i64 (z : Int), .int .i64 (roots.length : Int)] w' fun e w'' => e = .returned (.tuple #[.int .i64 (y : Int), .int .i64 ((z + 1 : Nat) : Int)]) ∧ Below w'.heap.size w' w'') := fun w' hb => HA w' (hB.below hb)
  unfold AGot at HP'
  clear HT HP HA hB
  have hrl : roots.length ≤ 5 := hr.len
  obtain ⟨L, hLL⟩ : ∃ L, xs.length = L := ⟨_, rfl⟩
  rw [hLL] at HT' HP' HA' ⊢
  obtain ⟨q2, hq2⟩ : ∃ q, z + 1 = q := ⟨_, rfl⟩
  rw [hq2] at HA'
  clear hq2 hLL
  obtain ⟨N, hN⟩ : ∃ N, ss.length = N := ⟨_, rfl⟩
  rw [hN] at HP'
  obtain ⟨R, hRn⟩ : ∃ R, roots.length = R := ⟨_, rfl⟩
  rw [hRn] at HP' HA' hrl
  have hA : Below w.heap.size w (w.alloc (.cells #[.int .i64 0, .slice none 0 0] 37)) := (Below.refl _ _).alloc (Nat.le_refl _) _
  have nA := heap_alloc_new w (.cells #[.int .i64 0, .slice none 0 0] 37)
  have hgw : w.heap.size ≤ w.heap.size := Nat.le_refl _
  go_enter Tryz.func32, Tryz.ntmps32
  go_upto_region 1 with fail
  generalize w.alloc (.cells #[.int .i64 0, .slice none 0 0] 37) = wA at hA nA ⊢
  obtain ⟨gr, hgr⟩ : ∃ g, w.heap.size = g := ⟨_, rfl⟩
  have hgl : w.heap.size ≤ gr := Nat.le_of_eq hgr
  rw [hgr] at nA
  try rw [hgr]
  clear hgr hgw
  go_upto_region 2 with (first | (go_at_call 41; refine (HT'.out _ hA).mono ?_; rintro e w1 ⟨rfl, hb1⟩; have hbw1 := hA.trans (hb1.mono hA.size)))
  have nB := pblk_below hb1 nA
  go_upto_region 3 with (first | (go_at_call 71; refine (HP'.out _ hbw1).mono ?_; rintro e w2 ⟨ap, cp, ar, cr, rfl, hS2, hR2, hb2⟩))
  have al : Below w2.heap.size w2 (w2.alloc (.cells #[.int .i64 n, .slice ap N cp] 37)) := (Below.refl _ _).alloc (Nat.le_refl _) _
  have hbw2 := hbw1.trans (hb2.mono hbw1.size)
  have nC := pblk_below hb2 nB
  have hAP : AP w gr w2.heap.size n ss roots ap cp ar (w2.alloc (.cells #[.int .i64 n, .slice ap N cp] 37)) := by
    refine ⟨pblk_below al nC, by rw [hN]; exact heap_alloc_new w2 _, ?_, hgl, hbw2.size, hS2.below al, hR2.below al, hbw2.trans (al.mono hbw2.size)⟩
    have := (Array.getElem?_eq_some_iff.1 nC).1
    omega
  generalize w2.alloc (.cells #[.int .i64 n, .slice ap N cp] 37) = w3 at hAP ⊢
  obtain ⟨gq, hgq⟩ : ∃ g, w2.heap.size = g := ⟨_, rfl⟩
  rw [hgq] at hAP
  try rw [hgq]
  clear hgq al hS2 hR2 hb2 nC nB nA hb1 hbw1 hbw2 hA HT' HP'
  go_upto_region 4 with (first | (go_at_call 41; refine (HA'.out _ hAP.bel).mono ?_; rintro e w4 ⟨rfl, hb4⟩))
  have hP4 := hAP.below hb4
  clear hAP hb4 HA'
  have zR : decide ((0 : Int) < (R : Int)) = true := by simp; omega
  have zR' : decide (0 < R) = true := by simp; omega
  have z8 : decide ((x : Int) < 8) = false := by simp; omega
  have z8' : decide (x < 8) = false := by simp; omega
  have z9 : ((x : Int) == 9) = true := by simp; omega
  have ym : (x : Int).tmod 2 = ((x % 2 : Nat) : Int) := by rw [Int.tmod_eq_emod_of_nonneg (by omega)]; omega
  obtain ⟨k, hk⟩ : ∃ k, x % 2 = k := ⟨_, rfl⟩
  rw [hk] at ym
  have zo : ((k : Int) == 1) = true := by simp; omega
  have hsz : ¬ (9223372036854775807 < root.size + 1) := by omega
  clear hx hk
  have hRh : Hid (roots.length = R) := hRn
  try clear h0
  have c0 := Lib.cell_of_heap hP4.pool 0
  have c1 := Lib.cell_of_heap hP4.pool 1
  rw [hN] at c0 c1
  have hfin : Hid (DGot _ ss (root ++ (⟨#[121]⟩ : ByteArray)) (root ++ (⟨#[121]⟩ : ByteArray)) w _ _) := hP4.fin3 (root ++ (⟨#[121]⟩ : ByteArray)) (root ++ (⟨#[121]⟩ : ByteArray))
  have m1 := hP4.m1
  rw [hN] at hfin
  rw [hN] at m1
  have e0 := Lib.cell_of_heap hP4.res 0
  have e1 := Lib.cell_of_heap hP4.res 1
  have ef : ∀ j, w4.frozen? ⟨gr, j, none⟩ = false := fun j => by rw [World.frozen?, hP4.res]; rfl
  clear hP4
  go_wp2_with fail
  exact retPT Tryz.results32 rfl rfl rfl rfl m1 hfin.out
set_option maxRecDepth 100000 in
set_option maxHeartbeats 4000000 in
theorem ddiff_h (a : Option Addr) (xs : List Nat) (cap x y z : Nat) (n : Int) (ss roots : List ByteArray) (root : ByteArray) (hr : SmT roots 5 32) (hrs : root.size ≤ 33)
    (HT : ∀ w, BL a xs w → Calls Tryz.prog 41 #[.slice a xs.length cap, .int .i64 0, .int .i64 10] w fun e w' => e = .returned (.tuple #[.int .i64 (x : Int), .int .i64 1]) ∧ Below w.heap.size w w')
    (HP : ∀ w, BL a xs w → Calls Tryz.prog 71 #[.slice a xs.length cap, .int .i64 1] w (AGot n ss roots root z w))
    (HA : ∀ w, BL a xs w → Calls Tryz.prog 41 #[.slice a xs.length cap, .int .i64 (z : Int), .int .i64 (roots.length : Int)] w fun e w' => e = .returned (.tuple #[.int .i64 (y : Int), .int .i64 ((z + 1 : Nat) : Int)]) ∧ Below w.heap.size w w') (hx : x = 9) (h0 : roots.length = 0) :
    ∀ w, BL a xs w → Calls Tryz.prog 32 #[.slice a xs.length cap] w (DGot n ss (root ++ (⟨#[121]⟩ : ByteArray)) (root ++ (⟨#[121]⟩ : ByteArray)) w) := by
  intro w hB
  have HT' : Hid (∀ w', Below w.heap.size w w' → Calls Tryz.prog 41 #[.slice a xs.length cap, .int .i64 0, .int .i64 10] w' fun e w'' => e = .returned (.tuple #[.int .i64 (x : Int), .int .i64 1]) ∧ Below w'.heap.size w' w'') := fun w' hb => HT w' (hB.below hb)
  have HP' : Hid (∀ w', Below w.heap.size w w' → Calls Tryz.prog 71 #[.slice a xs.length cap, .int .i64 1] w' (AGot n ss roots root z w')) := fun w' hb => HP w' (hB.below hb)
  have HA' : Hid (∀ w', Below w.heap.size w w' → Calls Tryz.prog 41 #[.slice a xs.length cap, .int .i64 (z : Int), .int .i64 (roots.length : Int)] w' fun e w'' => e = .returned (.tuple #[.int .i64 (y : Int), .int .i64 ((z + 1 : Nat) : Int)]) ∧ Below w'.heap.size w' w'') := fun w' hb => HA w' (hB.below hb)
  unfold AGot at HP'
  clear HT HP HA hB
  have hrl : roots.length ≤ 5 := hr.len
  obtain ⟨L, hLL⟩ : ∃ L, xs.length = L := ⟨_, rfl⟩
  rw [hLL] at HT' HP' HA' ⊢
  obtain ⟨q2, hq2⟩ : ∃ q, z + 1 = q := ⟨_, rfl⟩
  rw [hq2] at HA'
  clear hq2 hLL
  obtain ⟨N, hN⟩ : ∃ N, ss.length = N := ⟨_, rfl⟩
  rw [hN] at HP'
  obtain ⟨R, hRn⟩ : ∃ R, roots.length = R := ⟨_, rfl⟩
  rw [hRn] at HP' HA' hrl
  have hA : Below w.heap.size w (w.alloc (.cells #[.int .i64 0, .slice none 0 0] 37)) := (Below.refl _ _).alloc (Nat.le_refl _) _
  have nA := heap_alloc_new w (.cells #[.int .i64 0, .slice none 0 0] 37)
  have hgw : w.heap.size ≤ w.heap.size := Nat.le_refl _
  go_enter Tryz.func32, Tryz.ntmps32
  go_upto_region 1 with fail
  generalize w.alloc (.cells #[.int .i64 0, .slice none 0 0] 37) = wA at hA nA ⊢
  obtain ⟨gr, hgr⟩ : ∃ g, w.heap.size = g := ⟨_, rfl⟩
  have hgl : w.heap.size ≤ gr := Nat.le_of_eq hgr
  rw [hgr] at nA
  try rw [hgr]
  clear hgr hgw
  go_upto_region 2 with (first | (go_at_call 41; refine (HT'.out _ hA).mono ?_; rintro e w1 ⟨rfl, hb1⟩; have hbw1 := hA.trans (hb1.mono hA.size)))
  have nB := pblk_below hb1 nA
  go_upto_region 3 with (first | (go_at_call 71; refine (HP'.out _ hbw1).mono ?_; rintro e w2 ⟨ap, cp, ar, cr, rfl, hS2, hR2, hb2⟩))
  have al : Below w2.heap.size w2 (w2.alloc (.cells #[.int .i64 n, .slice ap N cp] 37)) := (Below.refl _ _).alloc (Nat.le_refl _) _
  have hbw2 := hbw1.trans (hb2.mono hbw1.size)
  have nC := pblk_below hb2 nB
  have hAP : AP w gr w2.heap.size n ss roots ap cp ar (w2.alloc (.cells #[.int .i64 n, .slice ap N cp] 37)) := by
    refine ⟨pblk_below al nC, by rw [hN]; exact heap_alloc_new w2 _, ?_, hgl, hbw2.size, hS2.below al, hR2.below al, hbw2.trans (al.mono hbw2.size)⟩
    have := (Array.getElem?_eq_some_iff.1 nC).1
    omega
  generalize w2.alloc (.cells #[.int .i64 n, .slice ap N cp] 37) = w3 at hAP ⊢
  obtain ⟨gq, hgq⟩ : ∃ g, w2.heap.size = g := ⟨_, rfl⟩
  rw [hgq] at hAP
  try rw [hgq]
  clear hgq al hS2 hR2 hb2 nC nB nA hb1 hbw1 hbw2 hA HT' HP'
  go_upto_region 4 with (first | (go_at_call 41; refine (HA'.out _ hAP.bel).mono ?_; rintro e w4 ⟨rfl, hb4⟩))
  have hP4 := hAP.below hb4
  clear hAP hb4 HA'
  have zR : decide ((0 : Int) < (R : Int)) = false := by simp; omega
  have zR' : decide (0 < R) = false := by simp; omega
  have z8 : decide ((x : Int) < 8) = false := by simp; omega
  have z8' : decide (x < 8) = false := by simp; omega
  have z9 : ((x : Int) == 9) = true := by simp; omega
  have ym : (x : Int).tmod 2 = ((x % 2 : Nat) : Int) := by rw [Int.tmod_eq_emod_of_nonneg (by omega)]; omega
  obtain ⟨k, hk⟩ : ∃ k, x % 2 = k := ⟨_, rfl⟩
  rw [hk] at ym
  have zo : ((k : Int) == 1) = true := by simp; omega
  have hsz : ¬ (9223372036854775807 < root.size + 1) := by omega
  clear hx hk
  have hRh : Hid (roots.length = R) := hRn
  try clear h0
  have c0 := Lib.cell_of_heap hP4.pool 0
  have c1 := Lib.cell_of_heap hP4.pool 1
  rw [hN] at c0 c1
  have hfin : Hid (DGot _ ss (root ++ (⟨#[121]⟩ : ByteArray)) (root ++ (⟨#[121]⟩ : ByteArray)) w _ _) := hP4.fin3 (root ++ (⟨#[121]⟩ : ByteArray)) (root ++ (⟨#[121]⟩ : ByteArray))
  have m1 := hP4.m1
  rw [hN] at hfin
  rw [hN] at m1
  have e0 := Lib.cell_of_heap hP4.res 0
  have e1 := Lib.cell_of_heap hP4.res 1
  have ef : ∀ j, w4.frozen? ⟨gr, j, none⟩ = false := fun j => by rw [World.frozen?, hP4.res]; rfl
  clear hP4
  go_wp2_with fail
  exact retPT Tryz.results32 rfl rfl rfl rfl m1 hfin.out
end Go.Proofs.YtfmpjlpakldheaaGreatDoor
