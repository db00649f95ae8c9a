import Derived.Test.YtfmpjlpakldheaaGreatDoorZybq
import Derived.Test.YtfmpjlpakldheaaGreatDoorZybp
import Derived.Test.YtfmpjlpakldheaaGreatDoorZyal
import Derived.Test.YtfmpjlpakldheaaGreatDoorZyan
import Derived.Test.YtfmpjlpakldheaaGreatDoorZybf
namespace Go.Proofs.YtfmpjlpakldheaaGreatDoor
open Go.RowKit Go.Proofs.Sha

set_option maxRecDepth 100000 in
set_option maxHeartbeats 4000000 in
theorem any_hurt2 (a : Option Addr) (xs : List Nat) (cap p x y wd z z2 : Nat) (ss roots ss2 roots2 : List ByteArray) (_hz : z2 ≤ 100000) (_hss : SmT ss 500 10000) (hr : SmT roots 4 32) (hr2 : SmT roots2 5 32)
    (HT : ∀ w, BL a xs w → Calls Tryz.prog 41 #[.slice a xs.length cap, .int .i64 (p : Int), .int .i64 24] w fun e w' => e = .returned (.tuple #[.int .i64 (x : Int), .int .i64 ((p + 1 : Nat) : Int)]) ∧ Below w.heap.size w w')
    (HP : ∀ w, BL a xs w → Calls Tryz.prog 113 #[.slice a xs.length cap, .int .i64 ((p + 1 : Nat) : Int)] w (PoolGot wd ss roots z w))
    (HA : ∀ w, BL a xs w → Calls Tryz.prog 41 #[.slice a xs.length cap, .int .i64 (z2 : Int), .int .i64 (roots2.length : Int)] w fun e w' => e = .returned (.tuple #[.int .i64 (y : Int), .int .i64 ((z2 + 1 : Nat) : Int)]) ∧ Below w.heap.size w w') (HH : ∀ w0 w ap cp ar cr, BL a xs w0 → SArg ap ss w → OwnT w0 roots ar roots.length cr w → Calls Tryz.prog 114 #[.slice a xs.length cap, .int .i64 (z : Int), .agg #[.int .i64 (wd : Int), .slice ap ss.length cp], .slice ar roots.length cr] w (HGot (fun q => w.heap[q]?) (Value.slice ar roots.length cr).ownBlock w.heap.size wd ss2 roots2 z2 w0)) (hx : 17 ≤ x ∧ x < 22) (hy : 0 < roots2.length → y < roots2.length) :
    ∀ w, BL a xs w → Calls Tryz.prog 71 #[.slice a xs.length cap, .int .i64 (p : Int)] w (AGot (wd : Int) ss2 roots2 (roots2.getD (roots2.length - 1) ⟨#[]⟩) (z2 + 1) w) := by
  intro w hB
  have HT' : Hid (∀ w', Below w.heap.size w w' → Calls Tryz.prog 41 #[.slice a xs.length cap, .int .i64 (p : Int), .int .i64 24] w' fun e w'' => e = .returned (.tuple #[.int .i64 (x : Int), .int .i64 ((p + 1 : Nat) : Int)]) ∧ Below w'.heap.size w' w'') := fun w' hb => HT w' (hB.below hb)
  have HP' : Hid (∀ w', Below w.heap.size w w' → Calls Tryz.prog 113 #[.slice a xs.length cap, .int .i64 ((p + 1 : Nat) : Int)] w' (PoolGot wd ss roots z w')) := fun w' hb => HP w' (hB.below hb)
  have HA' : Hid (∀ w', Below w.heap.size w w' → Calls Tryz.prog 41 #[.slice a xs.length cap, .int .i64 (z2 : Int), .int .i64 (roots2.length : Int)] w' fun e w'' => e = .returned (.tuple #[.int .i64 (y : Int), .int .i64 ((z2 + 1 : Nat) : Int)]) ∧ Below w'.heap.size w' w'') := fun w' hb => HA w' (hB.below hb)
  unfold PoolGot at HP'
  unfold HGot at HH
  have hBh : Hid (BL a xs w) := hB
  clear HT HP HA hB
  have hrl : roots.length ≤ 4 := hr.len
  obtain ⟨L, hLL⟩ : ∃ L, xs.length = L := ⟨_, rfl⟩
  rw [hLL] at HT' HP' HA' HH ⊢
  obtain ⟨q1, hq1⟩ : ∃ q, p + 1 = q := ⟨_, rfl⟩
  rw [hq1] at HT' HP'
  obtain ⟨q2, hq2⟩ : ∃ q, z2 + 1 = q := ⟨_, rfl⟩
  rw [hq2] at HA'
  clear hq1 hLL
  obtain ⟨N, hN⟩ : ∃ N, ss.length = N := ⟨_, rfl⟩
  rw [hN] at HP' HH
  obtain ⟨R, hRn⟩ : ∃ R, roots.length = R := ⟨_, rfl⟩
  rw [hRn] at HP' HH hrl
  obtain ⟨N2, hN2⟩ : ∃ N, ss2.length = N := ⟨_, rfl⟩
  rw [hN2] at HH
  obtain ⟨R2, hRn2⟩ : ∃ R, roots2.length = R := ⟨_, rfl⟩
  have hrl2 : roots2.length ≤ 5 := hr2.len
  rw [hRn2] at HH HA' hrl2
  have HHh : Hid (∀ w0 w ap cp ar cr, BL a xs w0 → SArg ap ss w → OwnT w0 roots ar R cr w → Calls Tryz.prog 114 #[.slice a L cap, .int .i64 (z : Int), .agg #[.int .i64 (wd : Int), .slice ap N cp], .slice ar R cr] w fun e w' => ∃ ap2 cp2 ar2 cr2, e = .returned (.tuple #[.agg #[.int .i64 (wd : Int), .slice ap2 N2 cp2], .slice ar2 R2 cr2, .int .i64 (z2 : Int)]) ∧ SArg ap2 ss2 w' ∧ SArg ar2 roots2 w' ∧ Below w0.heap.size w0 w' ∧ ∀ q, q < w.heap.size → (Value.slice ar R cr).ownBlock ≠ some q → w'.heap[q]? = w.heap[q]?) := HH
  clear HH
  have hA : Below w.heap.size w (w.alloc (.cells #[.int .i64 0, .slice none 0 0] 37)) := (Below.refl _ _).alloc (Nat.le_refl _) _
  have nA := heap_alloc_new w (.cells #[.int .i64 0, .slice none 0 0] 37)
  have hgw : w.heap.size ≤ w.heap.size := Nat.le_refl _
  go_enter Tryz.func71, Tryz.ntmps71
  go_upto_region 2 with fail
  generalize w.alloc (.cells #[.int .i64 0, .slice none 0 0] 37) = wA at hA nA ⊢
  obtain ⟨gr, hgr⟩ : ∃ g, w.heap.size = g := ⟨_, rfl⟩
  have hgl : w.heap.size ≤ gr := Nat.le_of_eq hgr
  rw [hgr] at nA
  try rw [hgr]
  clear hgr hgw
  go_upto_region 3 with (first | (go_at_call 41; refine (HT'.out _ hA).mono ?_; rintro e w1 ⟨rfl, hb1⟩; have hbw1 := hA.trans (hb1.mono hA.size)))
  have nB := pblk_below hb1 nA
  go_upto_region 4 with (first | (go_at_call 113; refine (HP'.out _ hbw1).mono ?_; rintro e w2 ⟨ap, cp, ar, cr, rfl, hS2, hO2, _⟩))
  have al : Below w2.heap.size w2 (w2.alloc (.cells #[.int .i64 (wd : Int), .slice ap N cp] 37)) := (Below.refl _ _).alloc (Nat.le_refl _) _
  have hbw2 := hbw1.trans (hO2.bel.mono hbw1.size)
  have nC := pblk_below hO2.bel nB
  have hO3 := hO2.below al
  have hH3 := HHh.out w1 _ ap cp ar cr (hBh.out.below hbw1) (hS2.below al) hO3
  have exr : ∀ b, (Value.slice ar R cr).ownBlock = some b → gr ≠ b ∧ w2.heap.size ≠ b := fun b hb => by
    have h1 := (ownG_cells hO2.own hb).1
    have h2 := (ownG_cells hO2.own hb).2.1
    have h3 := (Array.getElem?_eq_some_iff.1 nB).1
    constructor <;> omega
  have exr1 : (Value.slice ar R cr).ownBlock ≠ some gr := fun q => (exr _ q).1 rfl
  have exr2 : (Value.slice ar R cr).ownBlock ≠ some w2.heap.size := fun q => (exr _ q).2 rfl
  have nR := pblk_below al nC
  have nP : (w2.alloc (.cells #[.int .i64 (wd : Int), .slice ap N cp] 37)).heap[w2.heap.size]? = some (.cells #[.int .i64 (wd : Int), .slice ap N cp] 37) := heap_alloc_new w2 _
  have ne : gr ≠ w2.heap.size := by
    have := (Array.getElem?_eq_some_iff.1 nC).1
    omega
  have ge2 : w.heap.size ≤ w2.heap.size := hbw2.size
  generalize w2.alloc (.cells #[.int .i64 (wd : Int), .slice ap N cp] 37) = w3 at hH3 nR nP ⊢
  have bR := (Array.getElem?_eq_some_iff.1 nR).1
  have bP := (Array.getElem?_eq_some_iff.1 nP).1
  obtain ⟨gq, hgq⟩ : ∃ g, w2.heap.size = g := ⟨_, rfl⟩
  rw [hgq] at nP ne ge2 exr2 bP
  try rw [hgq]
  have hH4 : Hid (Calls Tryz.prog 114 #[.slice a L cap, .int .i64 (z : Int), .agg #[.int .i64 (wd : Int), .slice ap N cp], .slice ar R cr] w3 fun e w' => ∃ ap2 cp2 ar2 cr2, e = .returned (.tuple #[.agg #[.int .i64 (wd : Int), .slice ap2 N2 cp2], .slice ar2 R2 cr2, .int .i64 (z2 : Int)]) ∧ SArg ap2 ss2 w' ∧ SArg ar2 roots2 w' ∧ Below w1.heap.size w1 w' ∧ w'.heap[gr]? = some (.cells #[.int .i64 0, .slice none 0 0] 37) ∧ w'.heap[gq]? = some (.cells #[.int .i64 (wd : Int), .slice ap N cp] 37)) := hH3.mono (by
    rintro e w' ⟨ap2, cp2, ar2, cr2, rfl, h1, h2, h3, h4⟩
    exact ⟨ap2, cp2, ar2, cr2, rfl, h1, h2, h3, (h4 gr bR exr1).trans nR, (h4 gq bP exr2).trans nP⟩)
  clear hgq al hS2 hO2 nC nB nA hb1 hbw2 hA HT' HP' hH3 hO3 exr exr1 exr2 HHh hBh bR bP
  have c0 := Lib.cell_of_heap nP 0
  have c1 := Lib.cell_of_heap nP 1
  have z1 : decide ((15 : Int) ≤ (x : Int)) = true := by simp; omega
  have z1' : decide (15 ≤ x) = true := by simp; omega
  have z1b : decide ((x : Int) < 22) = true := by simp; omega
  have z1b' : decide (x < 22) = true := by simp; omega
  have z2 : decide ((17 : Int) ≤ (x : Int)) = true := by simp; omega
  have z2' : decide (17 ≤ x) = true := by simp; omega
  have z3 : ((x : Int) == 22) = false := by simp; omega
  have z4 : ((x : Int) == 23) = false := by simp; omega
  clear hx
  go_upto_region 6 with (first | (go_at_call 114; refine hH4.out.mono ?_; rintro e w4 ⟨ap2, cp2, ar2, cr2, rfl, hS4, hR4, hb4, nR4, nP4⟩; have d0 := Lib.cell_of_heap nP4 0; have d1 := Lib.cell_of_heap nP4 1; have df : ∀ j, w4.frozen? ⟨gq, j, none⟩ = false := fun j => (by rw [World.frozen?, nP4]; rfl)))
  have hbw4 := hbw1.trans (hb4.mono hbw1.size)
  have hAP : AP w gr gq (wd : Int) ss2 roots2 ap2 cp2 ar2 _ := AP.made nR4 nP4 ne hgl ge2 hbw4 hS4 hR4
  rw [hN2] at hAP
  generalize (w4.setCell ⟨gq, 0, none⟩ (.int .i64 (wd : Int))).setCell ⟨gq, 1, none⟩ (.slice ap2 N2 cp2) = w5 at hAP ⊢
  clear hbw4 nR4 nP4 d0 d1 df hS4 hR4 hb4 c0 c1 hH4 nR nP ne ge2 hbw1
  by_cases hRR : R2 = 0
  · have hg0 : roots2.getD (roots2.length - 1) ⟨#[]⟩ = ⟨#[]⟩ := by rw [List.getD_eq_getElem?_getD, List.getElem?_eq_none (by omega)]; rfl
    have zR : decide ((0 : Int) < (R2 : Int)) = false := by simp; omega
    have zR' : decide (0 < R2) = false := by simp; omega
    have hRh : Hid (R2 = 0) := hRR
    clear hRR
    go_upto_region 7 with (first | (go_at_call 41; refine (HA'.out _ hAP.bel).mono ?_; rintro e w4 ⟨rfl, hb4⟩))
    have hP4 := hAP.below hb4
    clear hAP hb4 HA'
    have hus := hr2.getD y
    have c0 := Lib.cell_of_heap hP4.pool 0
    have c1 := Lib.cell_of_heap hP4.pool 1
    rw [hN2] at c0 c1
    have hfin : Hid (AGot _ ss2 roots2 ⟨#[]⟩ q2 w _ _) := hP4.fin ⟨#[]⟩ q2 cr2
    have m1 := hP4.m1
    rw [hN2, hRn2] at hfin
    rw [hN2] at m1
    have e0 := Lib.cell_of_heap hP4.res 0
    have e1 := Lib.cell_of_heap hP4.res 1
    have ef : ∀ j, w4.frozen? ⟨gr, j, none⟩ = false := fun j => by rw [World.frozen?, hP4.res]; rfl
    clear hP4
    go_wp2_with fail
    exact retPT4 Tryz.results71 rfl rfl rfl rfl rfl m1 (by rw [hq2, hg0]; exact hfin.out)
  · go_upto_region 7 with (first | (go_at_call 41; refine (HA'.out _ hAP.bel).mono ?_; rintro e w4 ⟨rfl, hb4⟩))
    have hP4 := hAP.below hb4
    clear hAP hb4 HA'
    have hRp : 0 < R2 := by omega
    have zR : decide ((0 : Int) < (R2 : Int)) = true := by simp; omega
    have zR' : decide (0 < R2) = true := by simp; omega
    have hyR : y < R2 := (by have := hy (by omega); omega)
    have hx0 : (0 : Int) ≤ (y : Int) := Int.natCast_nonneg _
    have hx1 : (y : Int) < (R2 : Int) := by omega
    obtain ⟨b1, off1, rfl, hbl1, hc⟩ := hP4.rarg.at_ (by omega)
    have hc1 := hc y (by omega)
    obtain ⟨k, hk⟩ : ∃ k, R2 - 1 = k := ⟨_, rfl⟩
    have hk0 : (0 : Int) ≤ (k : Int) := Int.natCast_nonneg _
    have hk1 : (k : Int) < (R2 : Int) := by omega
    have yk : IntKind.i64.wrap ((R2 : Int) - 1) = (k : Int) := by rw [wrap_i64_in _ (by omega) (by omega)]; omega
    have hc2 := hc k (by omega)
    obtain ⟨v, hv⟩ : ∃ v, roots2.getD k ⟨#[]⟩ = v := ⟨_, rfl⟩
    rw [hv] at hc2
    clear hc
    obtain ⟨u, hu⟩ : ∃ u, roots2.getD y ⟨#[]⟩ = u := ⟨_, rfl⟩
    rw [hu] at hc1
    have hus := hr2.getD y
    have c0 := Lib.cell_of_heap hP4.pool 0
    have c1 := Lib.cell_of_heap hP4.pool 1
    rw [hN2] at c0 c1
    have hfin : Hid (AGot _ ss2 roots2 v q2 w _ _) := hP4.fin v q2 cr2
    have m1 := hP4.m1
    rw [hN2, hRn2] at hfin
    rw [hN2] at m1
    have e0 := Lib.cell_of_heap hP4.res 0
    have e1 := Lib.cell_of_heap hP4.res 1
    have ef : ∀ j, w4.frozen? ⟨gr, j, none⟩ = false := fun j => by rw [World.frozen?, hP4.res]; rfl
    clear hP4
    go_wp2_with fail
    exact retPT4 Tryz.results71 rfl rfl rfl rfl rfl m1 (by rw [hq2, hRn2, hk, hv]; exact hfin.out)
end Go.Proofs.YtfmpjlpakldheaaGreatDoor
namespace Go.Proofs.YtfmpjlpakldheaaGreatDoor
open Go.RowKit Go.Proofs.Sha

theorem any_det (HDg : Hid DigSaid) (a : Option Addr) (xs : List Nat) (cap p : Nat) (hX : Code8 xs) (hp : p ≤ 40000) :
    ∃ (n : Int) (ss roots : List ByteArray) (root : ByteArray) (z : Nat), (0 ≤ n ∧ n ≤ 33 ∧ SmT ss 501 10001 ∧ SmT roots 5 32 ∧ root.size ≤ 33 ∧ z ≤ p + 210) ∧ ∀ w, BL a xs w → Calls Tryz.prog 71 #[.slice a xs.length cap, .int .i64 (p : Int)] w (AGot n ss roots root z w) := by
  obtain ⟨x, hx, HT⟩ := take_det a xs cap p 24 hX (by omega) (by omega) (by omega)
  obtain ⟨wd, ss, roots, z, ⟨hw1, hw2, hss, hr, hz⟩, HP⟩ := pool_det HDg a xs cap (p + 1) hX (by omega)
  have hrl := hr.len
  have hss5 : SmT ss 501 10001 := ⟨Nat.le_trans hss.len (by omega), fun x hx => Nat.le_trans (hss.sz x hx) (by omega)⟩
  have hr5 : SmT roots 5 32 := ⟨Nat.le_trans hr.len (by omega), hr.sz⟩
  by_cases hh : 15 ≤ x ∧ x < 22
  · obtain ⟨ss2, roots2, z2, ⟨hs2, hr2, hz2⟩, HH⟩ := hurt_det HDg a xs cap z wd ss roots hX (by omega) hw1 hw2 hss hr
    have hrl2 := hr2.len
    obtain ⟨y, hy, _, HA⟩ := take0_det a xs cap z2 roots2.length hX (by omega) (by omega)
    by_cases h17 : x < 17
    · exact ⟨(wd : Int), ss2, roots2, _, z2 + 1, ⟨by omega, by omega, hs2, hr2, Nat.le_trans (hr2.getD _) (by omega), by omega⟩, any_hurt1 a xs cap p x y wd z z2 ss roots ss2 roots2 (by omega) hss hr hr2 HT HP HA HH ⟨hh.1, h17⟩ hy⟩
    · exact ⟨(wd : Int), ss2, roots2, _, z2 + 1, ⟨by omega, by omega, hs2, hr2, Nat.le_trans (hr2.getD _) (by omega), by omega⟩, any_hurt2 a xs cap p x y wd z z2 ss roots ss2 roots2 (by omega) hss hr hr2 HT HP HA HH ⟨by omega, hh.2⟩ hy⟩
  · obtain ⟨y, hy, _, HA⟩ := take0_det a xs cap z roots.length hX (by omega) (by omega)
    by_cases h22 : x = 22
    · have hg := hr.getD y
      exact ⟨(wd : Int), ss, roots, _, z + 1, ⟨by omega, by omega, hss5, hr5, by rw [ByteArray.size_append]; show _ + 1 ≤ 33; omega, by omega⟩, any_x a xs cap p x y wd z ss roots (by omega) hss hr HT HP HA h22 hy⟩
    · by_cases h23 : x = 23
      · have hm : (z + 1) % 2 < 2 := Nat.mod_lt _ (by omega)
        exact ⟨_, ss, roots, _, z + 1, ⟨by omega, by omega, hss5, hr5, Nat.le_trans (hr.getD _) (by omega), by omega⟩, any_w a xs cap p x y wd z ss roots (by omega) hss hr HT HP HA h23 hy⟩
      · exact ⟨(wd : Int), ss, roots, _, z + 1, ⟨by omega, by omega, hss5, hr5, Nat.le_trans (hr.getD _) (by omega), by omega⟩, any_low a xs cap p x y wd z ss roots (by omega) hss hr HT HP HA (by omega) hy⟩
end Go.Proofs.YtfmpjlpakldheaaGreatDoor
namespace Go.Proofs.YtfmpjlpakldheaaGreatDoor
open Go.RowKit Go.Proofs.Sha

theorem getP_mem {ps : List PairT} {k : ByteArray} : (getP ps k).2 = true ↔ k ∈ keys ps := by
  induction ps with
  | nil => simp [getP, keys]
  | cons p ps ih =>
    rw [getP]
    by_cases e : p.1 = k
    · rw [if_pos e]; simp [keys, e]
    · rw [if_neg e, ih]
      have e' : ¬ k = p.1 := fun q => e q.symm
      simp [keys, e']
theorem getP_wout (ps : List PairT) (k x : ByteArray) : getP (wout ps k) x = if x = k then (⟨#[]⟩, false) else getP ps x := by
  induction ps with
  | nil => simp [wout, getP]
  | cons p ps ih =>
    unfold wout at ih ⊢
    rw [List.filter_cons]
    by_cases e : p.1 = k
    · rw [if_neg (by simp [e]), ih, getP]
      by_cases hx : x = k
      · rw [if_pos hx, if_pos hx]
      · rw [if_neg hx, if_neg hx, if_neg (by rw [e]; exact fun q => hx q.symm)]
    · rw [if_pos (by simp [e]), getP, getP, ih]
      by_cases h1 : p.1 = x
      · rw [if_pos h1, if_pos h1, if_neg (by rw [← h1]; exact e)]
      · rw [if_neg h1, if_neg h1]
theorem getP_ins (k v x : ByteArray) : ∀ (ps : List PairT), (∀ y ∈ keys ps, y ≠ k) → getP (ins k v ps) x = if x = k then (v, true) else getP ps x
  | [], _ => by
    by_cases h : x = k
    · rw [if_pos h, h]; simp [ins, getP]
    · rw [if_neg h]; simp [ins, getP]; exact fun q => h q.symm
  | p :: ps, hn => by
    have ih := getP_ins k v x ps (fun y hy => hn y (List.mem_cons_of_mem _ hy))
    have hp : p.1 ≠ k := hn p.1 List.mem_cons_self
    rw [ins]
    split
    · rw [getP]
      by_cases h : x = k
      · rw [if_pos h, if_pos h.symm]
      · rw [if_neg h, if_neg (fun q => h q.symm)]
    · rw [getP, ih, getP]
      by_cases h1 : p.1 = x
      · rw [if_pos h1, if_pos h1, if_neg (by rw [← h1]; exact hp)]
      · rw [if_neg h1, if_neg h1]
theorem getP_wth (ps : List PairT) (k v x : ByteArray) : getP (wth ps k v) x = if x = k then (v, true) else getP ps x := by
  unfold wth
  rw [getP_ins k v x _ (fun y hy => (mem_wout.1 hy).2), getP_wout]
  by_cases h : x = k
  · rw [if_pos h, if_pos h]
  · rw [if_neg h, if_neg h, if_neg h]
theorem ku_not_mem {k : ByteArray} {ks : List ByteArray} (h : KeysUp (k :: ks)) : k ∉ ks := fun q => ne_of_less (h.1 k q) rfl
/-- Two maps with the same values are one. -/
theorem maps_one : ∀ {a b : List PairT}, KeysUp (keys a) → KeysUp (keys b) → (∀ x, getP a x = getP b x) → a = b := by
  intro a b ha hb hg
  have hk : keys a = keys b := KeysUp.one ha hb (fun x => by rw [← getP_mem, ← getP_mem, hg x])
  induction a generalizing b with
  | nil =>
    cases b with
    | nil => rfl
    | cons q b => simp [keys] at hk
  | cons p a ih =>
    cases b with
    | nil => simp [keys] at hk
    | cons q b =>
      have h1 : p.1 = q.1 := by simp only [keys, List.map_cons, List.cons.injEq] at hk; exact hk.1
      have h2 : keys a = keys b := by simp only [keys, List.map_cons, List.cons.injEq] at hk; exact hk.2
      have h3 : p.2 = q.2 := by
        have := hg p.1
        rw [getP_hit, h1, getP_hit] at this
        exact congrArg Prod.fst this
      have na := ku_not_mem ha
      have nb := ku_not_mem hb
      have := ih ha.2 hb.2 (fun x => by
        by_cases e : p.1 = x
        · rw [← e, getP_none na, h1, getP_none nb]
        · have := hg x
          rw [getP_skip e, getP_skip (by rw [← h1]; exact e)] at this
          exact this) h2
      rw [this]
      obtain ⟨p1, p2⟩ := p
      obtain ⟨q1, q2⟩ := q
      simp only at h1 h3
      rw [h1, h3]
/-- A map after changes. -/
def appS (ps : List PairT) (c : ChT) : List PairT := if c.2.2.2.1 = true then wth ps c.1 c.2.2.2.2 else wout ps c.1
def appl (ps : List PairT) (cs : List ChT) : List PairT := cs.foldl appS ps
theorem appl_up : ∀ (cs : List ChT) {ps : List PairT}, KeysUp (keys ps) → KeysUp (keys (appl ps cs))
  | [], _, h => h
  | c :: cs, ps, h => by
    show KeysUp (keys (appl (appS ps c) cs))
    refine appl_up cs ?_
    unfold appS
    split
    · exact ku_wth h _ _
    · exact ku_wout h _
/-- The value that a change leaves. -/
def chV (c : ChT) : ByteArray × Bool := if c.2.2.2.1 = true then (c.2.2.2.2, true) else (⟨#[]⟩, false)
theorem getP_appS (ps : List PairT) (c : ChT) (x : ByteArray) : getP (appS ps c) x = if x = c.1 then chV c else getP ps x := by
  unfold appS chV
  by_cases h : c.2.2.2.1 = true
  · rw [if_pos h, if_pos h, getP_wth]
  · rw [if_neg h, if_neg h, getP_wout]
theorem getP_appl : ∀ (cs : List ChT) (ps : List PairT) (x : ByteArray), KeysUp (cs.map (·.1)) → (∀ c ∈ cs, c.1 = x → getP (appl ps cs) x = chV c) ∧ ((∀ c ∈ cs, c.1 ≠ x) → getP (appl ps cs) x = getP ps x)
  | [], _, _, _ => ⟨fun c hc => absurd hc List.not_mem_nil, fun _ => rfl⟩
  | d :: cs, ps, x, h => by
    have ih := getP_appl cs (appS ps d) x h.2
    constructor
    · intro c hc hx
      rcases List.mem_cons.1 hc with rfl | hc
      · have hno : ∀ e ∈ cs, e.1 ≠ x := fun e he q => ne_of_less (h.1 e.1 (List.mem_map_of_mem (f := (·.1)) he)) (hx.trans q.symm)
        have := ih.2 hno
        show getP (appl (appS ps c) cs) x = _
        rw [this, getP_appS, if_pos hx.symm]
      · exact ih.1 c hc hx
    · intro hn
      have := ih.2 (fun c hc => hn c (List.mem_cons_of_mem _ hc))
      show getP (appl (appS ps d) cs) x = _
      rw [this, getP_appS, if_neg (fun q => hn d List.mem_cons_self q.symm)]
theorem getP_no {ps : List PairT} {k : ByteArray} (h : (getP ps k).2 = false) : getP ps k = (⟨#[]⟩, false) := getP_none (fun q => by rw [getP_mem.2 q] at h; cases h)
theorem chOf_key {ps qs : List PairT} {k : ByteArray} {c : ChT} (h : chOf ps qs k = some c) : c.1 = k ∧ chV c = getP qs k ∧ ¬ (c.2.1 = c.2.2.2.1 ∧ c.2.2.1 = c.2.2.2.2) := by
  unfold chOf at h
  split at h
  · rename_i hd
    cases h
    refine ⟨rfl, ?_, fun q => ?_⟩
    · unfold chV
      simp only
      by_cases hb : (getP qs k).2 = true
      · rw [if_pos hb, ← hb]
      · rw [if_neg hb, getP_no (by simpa using hb)]
    · rcases hd with hd | hd
      · exact hd q.1
      · exact hd q.2
  · cases h
theorem fm_up {f : ByteArray → Option ChT} (hf : ∀ k c, f k = some c → c.1 = k) : ∀ {ks : List ByteArray}, KeysUp ks → KeysUp ((ks.filterMap f).map (·.1)) ∧ ∀ x ∈ (ks.filterMap f).map (·.1), x ∈ ks
  | [], _ => ⟨trivial, fun x hx => by cases hx⟩
  | k :: ks, h => by
    have ih := fm_up hf h.2
    rw [List.filterMap_cons]
    cases hk : f k with
    | none => exact ⟨ih.1, fun x hx => List.mem_cons_of_mem _ (ih.2 x hx)⟩
    | some c =>
      have := hf k c hk
      refine ⟨⟨fun x hx => ?_, ih.1⟩, fun x hx => ?_⟩
      · show lessB c.1 x = true
        rw [this]
        exact h.1 x (ih.2 x hx)
      · rcases List.mem_cons.1 hx with rfl | hx
        · show c.1 ∈ k :: ks
          rw [this]; exact List.mem_cons_self
        · exact List.mem_cons_of_mem _ (ih.2 x hx)
/-- The changes between two maps: their keys grow, none changes nothing, and they lead from the one to the other. -/
theorem chg_good {ps qs : List PairT} (hp : KeysUp (keys ps)) (hq : KeysUp (keys qs)) : KeysUp ((chg ps qs).map (·.1)) ∧ (∀ c ∈ chg ps qs, ¬ (c.2.1 = c.2.2.2.1 ∧ c.2.2.1 = c.2.2.2.2)) ∧ appl ps (chg ps qs) = qs := by
  obtain ⟨hk, he⟩ := chg_kU _ ps qs rfl hp hq
  have hu : KeysUp ((chg ps qs).map (·.1)) := by
    rw [he]
    exact (fm_up (fun k c h => (chOf_key h).1) hk).1
  refine ⟨hu, fun c hc => ?_, maps_one (appl_up _ hp) hq fun x => ?_⟩
  · rw [he] at hc
    obtain ⟨k, _, h⟩ := List.mem_filterMap.1 hc
    exact (chOf_key h).2.2
  · have hg := getP_appl (chg ps qs) ps x hu
    cases hx : chOf ps qs x with
    | none =>
      have hno : ∀ c ∈ chg ps qs, c.1 ≠ x := fun c hc q => by
        rw [he] at hc
        obtain ⟨k, _, h⟩ := List.mem_filterMap.1 hc
        have := (chOf_key h).1
        rw [q] at this
        subst this
        rw [hx] at h
        cases h
      rw [hg.2 hno]
      unfold chOf at hx
      split at hx
      · cases hx
      · rename_i hd
        exact Prod.ext (Classical.byContradiction fun q => hd (.inr q)) (Classical.byContradiction fun q => hd (.inl q))
    | some c =>
      have h1 := chOf_key hx
      have hxm : x ∈ kU ps qs := (mem_kU x _ ps qs rfl).2 (by
        by_cases h1 : x ∈ keys ps
        · exact .inl h1
        · by_cases h2 : x ∈ keys qs
          · exact .inr h2
          · exfalso
            unfold chOf at hx
            rw [getP_none h1, getP_none h2, if_neg (by simp)] at hx
            cases hx)
      have hc : c ∈ chg ps qs := by
        rw [he]
        exact List.mem_filterMap.2 ⟨x, hxm, hx⟩
      rw [hg.1 c hc h1.1, h1.2.1]
end Go.Proofs.YtfmpjlpakldheaaGreatDoor
namespace Go.Proofs.YtfmpjlpakldheaaGreatDoor
open Go.RowKit Go.Proofs.Sha

set_option maxRecDepth 100000 in
set_option maxHeartbeats 400000 in
theorem wless_p (p q : ByteArray) (w : World) (hp : p.size ≤ 1048576) (hq : q.size ≤ 1048576) :
    Calls Tryz.prog 35 #[.string p, .string q] w fun e w' => e = .returned (.bool (Op.bytesLess p.data.toList q.data.toList)) ∧ (∃ m, w' = w.drewN m) := by
  have hpl : p.data.toList.length = p.size := rfl
  have hql : q.data.toList.length = q.size := rfl
  go_enter Tryz.func35, Tryz.ntmps35
  go_wp2_with fail
  go_loopw [5] (fun t wr => ∃ k : Nat, k ≤ p.size ∧ k ≤ q.size ∧ t = .int .i64 (k : Int) ∧ Hid (Op.bytesLess p.data.toList q.data.toList = Op.bytesLess (p.data.toList.drop k) (q.data.toList.drop k)) ∧ ∃ m, wr = w.drewN m) (fun t _ => p.size - (intOf t).toNat)
  case atStart => exact ⟨0, by omega, by omega, rfl, rfl, 0, rfl⟩
  case round =>
    obtain ⟨k, hk1, hk2, rfl, HL, hb⟩ := hrel
    by_cases h1 : k < p.size
    · by_cases h2 : k < q.size
      · have z1 : (0 : Int) ≤ (k : Int) := by omega
        have z2 : (k : Int) < (p.size : Int) := by omega
        have z3 : (k : Int) < (q.size : Int) := by omega
        go_wp2_with fail
        go_region
        rw [bget p k h1, bget q k h2]
        have HE := less_eq p.data.toList q.data.toList k h1 h2
        have HN := less_ne p.data.toList q.data.toList k h1 h2
        obtain ⟨x, hx⟩ : ∃ x, p.data.toList.getD k 0 = x := ⟨_, rfl⟩
        obtain ⟨y, hy⟩ : ∃ y, q.data.toList.getD k 0 = y := ⟨_, rfl⟩
        rw [hx, hy] at HE HN
        rw [hx, hy]
        have HXY : Hid (p.data.toList.getD k 0 = x ∧ q.data.toList.getD k 0 = y) := ⟨hx, hy⟩
        clear hx hy
        by_cases hxy : x = y
        · have c0 : ((x.toNat : Int) != (y.toNat : Int)) = false := by rw [hxy]; simp
          have HE' : Hid (Op.bytesLess p.data.toList q.data.toList = Op.bytesLess (p.data.toList.drop (k + 1)) (q.data.toList.drop (k + 1))) := HL.out.trans (HE hxy)
          clear HE HN hxy
          go_wp2_with fail
          go_roundw
          case rel => exact ⟨k + 1, by omega, by omega, by go_num, HE', drew1 hb⟩
          case measure => simp [intOf]; omega
        · have c0 : ((x.toNat : Int) != (y.toNat : Int)) = true := by
            rw [bne_iff_ne]; exact fun h => hxy (UInt8.toNat_inj.1 (by omega))
          have HN' : Hid (Op.bytesLess p.data.toList q.data.toList = decide (x.toNat < y.toNat)) := (HL.out.trans (HN hxy)).trans (by simp)
          clear HE HN hxy
          go_wp2_with fail
          go_region
          rw [bget p k h1, bget q k h2, HXY.out.1, HXY.out.2]
          go_wp2
          go_ret
          exact ⟨by rw [HN'.out]; rfl, drew1 (drew1 hb)⟩
      · have HN' : Hid (Op.bytesLess p.data.toList q.data.toList = decide (p.size < q.size)) := (HL.out.trans (less_end p.data.toList q.data.toList k (.inr (by omega)) (by omega) (by omega))).trans (by simp)
        go_wp2
        go_ret
        exact ⟨by rw [HN'.out]; rfl, hb⟩
    · have HN' : Hid (Op.bytesLess p.data.toList q.data.toList = decide (p.size < q.size)) := (HL.out.trans (less_end p.data.toList q.data.toList k (.inl (by omega)) (by omega) (by omega))).trans (by simp)
      go_wp2
      go_ret
      exact ⟨by rw [HN'.out]; rfl, hb⟩

set_option maxRecDepth 100000 in
set_option maxHeartbeats 1000000 in
theorem wsame_any (a b : Option Addr) (ps qs : List PairT) (c d : Nat) (w : World) (h : PArg a ps w) (h' : PArg b qs w) :
    Calls Tryz.prog 22 #[.slice a ps.length c, .slice b qs.length d] w fun e w' => e = .returned (.bool (decide (ps = qs))) ∧ Below w.heap.size w w' := by
  have hn := h.le
  have hm := h'.le
  obtain ⟨R, hR⟩ : ∃ R, decide (ps = qs) = R := ⟨_, rfl⟩
  rw [hR]
  have HR : Hid (decide (ps = qs) = R) := hR
  clear hR
  obtain ⟨N, hN⟩ : ∃ N, ps.length = N := ⟨_, rfl⟩
  obtain ⟨M, hM⟩ : ∃ M, qs.length = M := ⟨_, rfl⟩
  rw [hN] at hn ⊢
  rw [hM] at hm ⊢
  by_cases hNM : N = M
  · subst hNM
    have hNl : Hid (ps.length = N) := hN
    have hMl : Hid (qs.length = N) := hM
    clear hN hM
    go_enter Tryz.func22, Tryz.ntmps22
    go_wp2_with fail
    go_loopw [5] (fun t wr => ∃ k : Nat, k ≤ N ∧ t = .int .i64 (k : Int) ∧ Hid (ps.take k = qs.take k) ∧ Below w.heap.size w wr) (fun t _ => N - (intOf t).toNat)
    case atStart => exact ⟨0, Nat.zero_le _, rfl, rfl, Below.refl _ _⟩
    case round =>
      obtain ⟨k, hk, rfl, hsame, hbw⟩ := hrel
      by_cases hlt : k < N
      · have z1 : decide ((k : Int) < (N : Int)) = true := by simp; omega
        have hx0 : (0 : Int) ≤ (k : Int) := Int.natCast_nonneg _
        have hx1 : (k : Int) < (N : Int) := by omega
        obtain ⟨b1, off1, rfl, hbl1, hc⟩ := (h.below hbw).at_ (by rw [hNl.out]; omega)
        obtain ⟨b2, off2, rfl, hbl2, hd⟩ := (h'.below hbw).at_ (by rw [hMl.out]; omega)
        obtain ⟨hc1, hc2⟩ := hc k (by rw [hNl.out]; exact hlt)
        obtain ⟨hd1, hd2⟩ := hd k (by rw [hMl.out]; exact hlt)
        have hkl : k < ps.length := by rw [hNl.out]; exact hlt
        have hkm : k < qs.length := by rw [hMl.out]; exact hlt
        have g1 := getD_lt ps k hkl
        have g2 := getD_lt qs k hkm
        have hstep : ps.getD k noPair = qs.getD k noPair → ps.take (k + 1) = qs.take (k + 1) := fun e => by
          rw [List.take_succ_eq_append_getElem hkl, List.take_succ_eq_append_getElem hkm, hsame.out, ← g1, ← g2, e]
        have hneq : ps.getD k noPair ≠ qs.getD k noPair → R = false := fun e => by
          rw [← HR.out]
          exact decide_eq_false fun q => e (by rw [q])
        clear g1 g2 hkl hkm hc hd
        obtain ⟨x, hx⟩ : ∃ x, ps.getD k noPair = x := ⟨_, rfl⟩
        obtain ⟨y, hy⟩ : ∃ y, qs.getD k noPair = y := ⟨_, rfl⟩
        rw [hx] at hc1 hc2
        rw [hy] at hd1 hd2
        rw [hx, hy] at hstep hneq
        clear hx hy
        obtain ⟨xk, xv⟩ := x
        obtain ⟨yk, yv⟩ := y
        dsimp only at hc1 hc2 hd1 hd2
        replace hstep : Hid _ := hstep
        replace hneq : Hid _ := hneq
        cases v1 : (xk.toList == yk.toList) with
        | false =>
          have hRf : Hid (R = false) := hneq.out (fun e => by
            have : xk = yk := congrArg Prod.fst e
            subst this
            rw [beq_self_eq_true] at v1
            cases v1)
          clear hstep hneq HR hsame
          go_wp2_with fail
          go_quiet (fail)
          go_wp2_with fail
          go_ret
          exact ⟨by rw [hRf.out]; rfl, below_draws nq hbw⟩
        | true =>
          cases v2 : (xv.toList == yv.toList) with
          | false =>
            have hRf : Hid (R = false) := hneq.out (fun e => by
              have : xv = yv := congrArg Prod.snd e
              subst this
              rw [beq_self_eq_true] at v2
              cases v2)
            clear hstep hneq HR hsame
            go_wp2_with fail
            go_quiet (fail)
            go_wp2_with fail
            go_ret
            exact ⟨by rw [hRf.out]; rfl, below_draws nq hbw⟩
          | true =>
            have e1 : xk = yk := ByteArray.ext (Array.toList_inj.1 (by rw [beq_iff_eq, ByteArray.toList_eq, ByteArray.toList_eq] at v1; exact v1))
            have e2 : xv = yv := ByteArray.ext (Array.toList_inj.1 (by rw [beq_iff_eq, ByteArray.toList_eq, ByteArray.toList_eq] at v2; exact v2))
            have hs' : Hid (ps.take (k + 1) = qs.take (k + 1)) := hstep.out (by rw [e1, e2])
            clear hstep hneq HR hsame e1 e2
            go_wp2_with fail
            go_quiet (fail)
            go_wp2_with fail
            go_roundw
            case rel => exact ⟨k + 1, hlt, by go_num, hs', below_draws nq hbw⟩
            case measure => simp [intOf]; omega
      · obtain rfl : k = N := by omega
        have z1 : decide ((k : Int) < (k : Int)) = false := by simp
        have hRt : Hid (R = true) := by
          show R = true
          rw [← HR.out, decide_eq_true_eq]
          have e := hsame.out
          rw [List.take_of_length_le (by rw [hNl.out]; exact Nat.le_refl _), List.take_of_length_le (by rw [hMl.out]; exact Nat.le_refl _)] at e
          exact e
        clear hsame HR
        go_wp2_with fail
        go_ret
        exact ⟨by rw [hRt.out]; rfl, hbw⟩
  · have z0 : ((N : Int) != (M : Int)) = true := by rw [bne_iff_ne]; omega
    have hRf : Hid (R = false) := by
      show R = false
      rw [← HR.out]
      exact decide_eq_false fun e => hNM (by rw [← hN, ← hM, e])
    clear HR hN hM
    go_enter Tryz.func22, Tryz.ntmps22
    go_wp2_with fail
    go_ret
    exact ⟨by rw [hRf.out]; rfl, Below.refl _ _⟩

theorem wless_q (p q : ByteArray) (w : World) (hp : p.size ≤ 1048576) (hq : q.size ≤ 1048576) : Calls Tryz.prog 35 #[.string p, .string q] w fun e w' => e = .returned (.bool (lessB p q)) ∧ (∃ m, w' = w.drewN m) := by
  have := wless_p p q w hp hq
  rw [lessL] at this
  exact this
end Go.Proofs.YtfmpjlpakldheaaGreatDoor
