import Derived.Test.YthopecgcpfhceacDoorZg
import Derived.Test.YthopecgcpfhceacDoorZa
namespace Go.Proofs.YthopecgcpfhceacDoor
open Go.RowKit Go.Proofs.Sha

set_option maxRecDepth 100000 in
set_option maxHeartbeats 400000 in
theorem tab_any (w : World) : Calls Tryd.prog 46 #[] w fun e w' => e = .returned (.slice (some ⟨w.heap.size, 0, none⟩) 64 64) ∧ w' = w.alloc (.cells ((kTab.map U).toArray) 74) := by
  go_enter Tryd.func46, Tryd.ntmps46
  go_wp2
  go_ret
  exact ⟨rfl, rfl⟩

set_option maxRecDepth 100000 in
set_option maxHeartbeats 800000 in
theorem block_any (h : List UInt32) (hb hc kb kc : Nat) (m : List UInt8) (mb mc fr : Nat) (w : World) (hl : m.length ≤ 2000000) (hf : fr + 64 ≤ m.length)
    (hcm : ∀ j, j < m.length → w.cell? ⟨mb, j, none⟩ = some (.int .u8 ((m.getD j 0).toNat : Int)))
    (hch : ∀ j, j < 8 → w.cell? ⟨hb, j, none⟩ = some (.int .u32 ((h.getD j 0).toNat : Int)))
    (hck : ∀ j, j < 64 → w.cell? ⟨kb, j, none⟩ = some (.int .u32 ((kTab.getD j 0).toNat : Int))) :
    Calls Tryd.prog 48 #[.slice (some ⟨hb, 0, none⟩) 8 hc, .slice (some ⟨kb, 0, none⟩) 64 kc, .slice (some ⟨mb, 0, none⟩) m.length mc, .int .i64 fr] w
      fun e w' => ∃ g, e = .returned (.slice (some ⟨g, 0, none⟩) 8 8) ∧ Row w' w.heap.size g 8 8 ((comp h (m.drop fr)).map U) ∧ Below w.heap.size w w' := by
  have lh : hb < w.heap.size := World.block_lt_of_cell? w _ (hch 0 (by omega))
  have lk : kb < w.heap.size := World.block_lt_of_cell? w _ (hck 0 (by omega))
  go_enter Tryd.func48, Tryd.ntmps48
  go_wp2_with fail
  refine (schedule_any m mb mc fr w hl hf hcm).mono ?_
  rintro e w1 ⟨g, cap, rfl, hown, hbel⟩
  obtain ⟨x0, e0⟩ : ∃ x, h.getD 0 0 = x := ⟨_, rfl⟩
  obtain ⟨x1, e1⟩ : ∃ x, h.getD 1 0 = x := ⟨_, rfl⟩
  obtain ⟨x2, e2⟩ : ∃ x, h.getD 2 0 = x := ⟨_, rfl⟩
  obtain ⟨x3, e3⟩ : ∃ x, h.getD 3 0 = x := ⟨_, rfl⟩
  obtain ⟨x4, e4⟩ : ∃ x, h.getD 4 0 = x := ⟨_, rfl⟩
  obtain ⟨x5, e5⟩ : ∃ x, h.getD 5 0 = x := ⟨_, rfl⟩
  obtain ⟨x6, e6⟩ : ∃ x, h.getD 6 0 = x := ⟨_, rfl⟩
  obtain ⟨x7, e7⟩ : ∃ x, h.getD 7 0 = x := ⟨_, rfl⟩
  have c0 : w1.cell? ⟨hb, 0, none⟩ = some (.int .u32 (x0.toNat : Int)) := by rw [← e0]; exact (hbel.cell lh).trans (hch 0 (by omega))
  have c1 : w1.cell? ⟨hb, 1, none⟩ = some (.int .u32 (x1.toNat : Int)) := by rw [← e1]; exact (hbel.cell lh).trans (hch 1 (by omega))
  have c2 : w1.cell? ⟨hb, 2, none⟩ = some (.int .u32 (x2.toNat : Int)) := by rw [← e2]; exact (hbel.cell lh).trans (hch 2 (by omega))
  have c3 : w1.cell? ⟨hb, 3, none⟩ = some (.int .u32 (x3.toNat : Int)) := by rw [← e3]; exact (hbel.cell lh).trans (hch 3 (by omega))
  have c4 : w1.cell? ⟨hb, 4, none⟩ = some (.int .u32 (x4.toNat : Int)) := by rw [← e4]; exact (hbel.cell lh).trans (hch 4 (by omega))
  have c5 : w1.cell? ⟨hb, 5, none⟩ = some (.int .u32 (x5.toNat : Int)) := by rw [← e5]; exact (hbel.cell lh).trans (hch 5 (by omega))
  have c6 : w1.cell? ⟨hb, 6, none⟩ = some (.int .u32 (x6.toNat : Int)) := by rw [← e6]; exact (hbel.cell lh).trans (hch 6 (by omega))
  have c7 : w1.cell? ⟨hb, 7, none⟩ = some (.int .u32 (x7.toNat : Int)) := by rw [← e7]; exact (hbel.cell lh).trans (hch 7 (by omega))
  have HX : Hid (ofL h = ⟨x0, x1, x2, x3, x4, x5, x6, x7⟩) := by unfold ofL; rw [e0, e1, e2, e3, e4, e5, e6, e7]; exact rfl
  have HE : Hid (h.getD 0 0 = x0 ∧ h.getD 1 0 = x1 ∧ h.getD 2 0 = x2 ∧ h.getD 3 0 = x3 ∧ h.getD 4 0 = x4 ∧ h.getD 5 0 = x5 ∧ h.getD 6 0 = x6 ∧ h.getD 7 0 = x7) := ⟨e0, e1, e2, e3, e4, e5, e6, e7⟩
  clear e0 e1 e2 e3 e4 e5 e6 e7
  have hWl := sched_length (m.drop fr) 64
  have hlg := hown.lt g rfl
  obtain ⟨W, hW⟩ : ∃ W, sched (m.drop fr) 64 = W := ⟨_, rfl⟩
  rw [hW] at hown hWl
  have HW : Hid (∀ N, N = 64 → sched (m.drop fr) N = W) := fun N hN => by rw [hN]; exact hW
  clear hW
  have hcw : ∀ j, j < 64 → w1.cell? ⟨g, j, none⟩ = some (.int .u32 ((W.getD j 0).toNat : Int)) := own_u hown hWl
  have hck1 : ∀ j, j < 64 → w1.cell? ⟨kb, j, none⟩ = some (.int .u32 ((kTab.getD j 0).toNat : Int)) := fun j hj => (hbel.cell lk).trans (hck j hj)
  clear hck hch hcm hown
  have lh1 : hb < w1.heap.size := Nat.lt_of_lt_of_le lh hbel.size
  have lk1 : kb < w1.heap.size := Nat.lt_of_lt_of_le lk hbel.size
  have HK : Hid (∀ j, j < 64 → w1.cell? ⟨kb, j, none⟩ = some (.int .u32 ((kTab.getD j 0).toNat : Int))) := hck1
  have HC : Hid (∀ j, j < 64 → w1.cell? ⟨g, j, none⟩ = some (.int .u32 ((W.getD j 0).toNat : Int))) := hcw
  clear hck1 hcw
  go_wp2_with fail
  go_loopw [10, 11, 12, 13, 14, 15, 16, 17, 18] (fun ta tb tc td te tf tg tz i wr => ∃ (k : Nat) (va vb vc vd ve vf vg vz : UInt32), k ≤ 64 ∧ i = .int .i64 k ∧ Hid (rnds W (⟨x0, x1, x2, x3, x4, x5, x6, x7⟩ : St) k = ⟨va, vb, vc, vd, ve, vf, vg, vz⟩) ∧ ta = .int .u32 (va.toNat : Int) ∧ tb = .int .u32 (vb.toNat : Int) ∧ tc = .int .u32 (vc.toNat : Int) ∧ td = .int .u32 (vd.toNat : Int) ∧ te = .int .u32 (ve.toNat : Int) ∧ tf = .int .u32 (vf.toNat : Int) ∧ tg = .int .u32 (vg.toNat : Int) ∧ tz = .int .u32 (vz.toNat : Int) ∧ Below w1.heap.size w1 wr) (fun _ _ _ _ _ _ _ _ i _ => 64 - (intOf i).toNat)
  case atStart => exact ⟨0, x0, x1, x2, x3, x4, x5, x6, x7, Nat.zero_le _, rfl, rfl, rfl, rfl, rfl, rfl, rfl, rfl, rfl, rfl, Below.refl _ _⟩
  case round =>
    obtain ⟨k, va, vb, vc, vd, ve, vf, vg, vz, hk, rfl, HST, rfl, rfl, rfl, rfl, rfl, rfl, rfl, rfl, hb2⟩ := hrel
    by_cases hlt : k < 64
    · obtain ⟨kk, hkk⟩ : ∃ x, kTab.getD k 0 = x := ⟨_, rfl⟩
      obtain ⟨ww, hww⟩ : ∃ x, W.getD k 0 = x := ⟨_, rfl⟩
      have ck : wr.cell? ⟨kb, k, none⟩ = some (.int .u32 (kk.toNat : Int)) := by rw [← hkk]; exact (hb2.cell lk1).trans (HK.out k hlt)
      have cw : wr.cell? ⟨g, k, none⟩ = some (.int .u32 (ww.toNat : Int)) := by rw [← hww]; exact (hb2.cell hlg.2).trans (HC.out k hlt)
      have HKW : Hid (kTab.getD k 0 = kk ∧ W.getD k 0 = ww) := ⟨hkk, hww⟩
      clear hkk hww
      go_wp2_with (go_at_call 60; refine (turn_any _ _ (by omega) (by omega) _).mono ?_; rintro e w' ⟨rfl, rfl⟩)
      have q0 : (0 : Int) ≤ (k : Int) := by omega
      have q1 : (k : Int) < 64 := by omega
      go_region_held3 (fun w' => w'.cell? ⟨kb, k, none⟩ = some (.int .u32 (kk.toNat : Int)) ∧ w'.cell? ⟨g, k, none⟩ = some (.int .u32 (ww.toNat : Int))) (go_keep) (fail)
      go_wp2_with (go_at_call 60; refine (turn_any _ _ (by omega) (by omega) _).mono ?_; rintro e w' ⟨rfl, rfl⟩)
      go_roundw
      case rel =>
        have HR := rnds_succ W _ k kk ww _ HST.out HKW.out
        simp only [sumE_form, sumA_form, ch_form, maj_form, u_add]
        exact ⟨k + 1, _, _, _, _, _, _, _, _, by omega, by go_num, HR, rfl, rfl, rfl, rfl, rfl, rfl, rfl, rfl, by first | exact hb2.drew | exact hb2⟩
      case measure => simp [intOf]; omega
    · obtain rfl : k = 64 := by omega
      have d0 : wr.cell? ⟨hb, 0, none⟩ = some (.int .u32 (x0.toNat : Int)) := (hb2.cell lh1).trans c0
      have d1 : wr.cell? ⟨hb, 1, none⟩ = some (.int .u32 (x1.toNat : Int)) := (hb2.cell lh1).trans c1
      have d2 : wr.cell? ⟨hb, 2, none⟩ = some (.int .u32 (x2.toNat : Int)) := (hb2.cell lh1).trans c2
      have d3 : wr.cell? ⟨hb, 3, none⟩ = some (.int .u32 (x3.toNat : Int)) := (hb2.cell lh1).trans c3
      have d4 : wr.cell? ⟨hb, 4, none⟩ = some (.int .u32 (x4.toNat : Int)) := (hb2.cell lh1).trans c4
      have d5 : wr.cell? ⟨hb, 5, none⟩ = some (.int .u32 (x5.toNat : Int)) := (hb2.cell lh1).trans c5
      have d6 : wr.cell? ⟨hb, 6, none⟩ = some (.int .u32 (x6.toNat : Int)) := (hb2.cell lh1).trans c6
      have d7 : wr.cell? ⟨hb, 7, none⟩ = some (.int .u32 (x7.toNat : Int)) := (hb2.cell lh1).trans c7
      clear c0 c1 c2 c3 c4 c5 c6 c7
      have HST' : Hid (∀ N, N = 64 → rnds W ⟨x0, x1, x2, x3, x4, x5, x6, x7⟩ N = ⟨va, vb, vc, vd, ve, vf, vg, vz⟩) := fun N hN => by rw [hN]; exact HST
      clear HST
      go_wp2_with fail
      go_region_held3 (fun w' => w'.cell? ⟨hb, 0, none⟩ = some (.int .u32 (x0.toNat : Int)) ∧ w'.cell? ⟨hb, 1, none⟩ = some (.int .u32 (x1.toNat : Int)) ∧ w'.cell? ⟨hb, 2, none⟩ = some (.int .u32 (x2.toNat : Int)) ∧ w'.cell? ⟨hb, 3, none⟩ = some (.int .u32 (x3.toNat : Int)) ∧ w'.cell? ⟨hb, 4, none⟩ = some (.int .u32 (x4.toNat : Int)) ∧ w'.cell? ⟨hb, 5, none⟩ = some (.int .u32 (x5.toNat : Int)) ∧ w'.cell? ⟨hb, 6, none⟩ = some (.int .u32 (x6.toNat : Int)) ∧ w'.cell? ⟨hb, 7, none⟩ = some (.int .u32 (x7.toNat : Int))) (go_keep) (fail)
      go_wp2
      go_ret
      have hs1 := hbel.size
      have hs2 := hb2.size
      rw [comp_form h (m.drop fr) W x0 x1 x2 x3 x4 x5 x6 x7 va vb vc vd ve vf vg vz HE.out (HW.out 64 rfl) (HST'.out 64 rfl)]
      exact ⟨wr.heap.size, rfl, (Row.of_block (base := w.heap.size) (by omega) (heap_alloc_new wr _) 8 (by simp) (.inl rfl)).drew, ((hbel.trans (hb2.mono hs1)).alloc (by omega) _).drew⟩
end Go.Proofs.YthopecgcpfhceacDoor
