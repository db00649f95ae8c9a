import Derived.Test.YtngnbflkiiehmaaGreatDoorZb
import Derived.Test.YtngnbflkiiehmaaGreatDoorZa
namespace Go.Proofs.YtngnbflkiiehmaaGreatDoor
open Go.RowKit Go.Proofs.Sha

set_option maxRecDepth 100000 in
set_option maxHeartbeats 400000 in
theorem tab_any (w : World) : Calls Tryz.prog 47 #[] w fun e w' => e = .returned (.slice (some ⟨w.heap.size, 0, none⟩) 64 64) ∧ w' = w.alloc (.cells ((kTab.map U).toArray) 77) := by
  go_enter Tryz.func47, Tryz.ntmps47
  go_wp2
  go_ret
  exact ⟨rfl, rfl⟩

set_option maxRecDepth 100000 in
set_option maxHeartbeats 800000 in
theorem block_any (h : List UInt32) (hb hc kb kc : Nat) (m : List UInt8) (mb mc fr : Nat) (w : World) (hl : m.length ≤ 2000000) (hf : fr + 64 ≤ m.length)
    (hcm : ∀ j, j < m.length → w.cell? ⟨mb, j, none⟩ = some (.int .u8 ((m.getD j 0).toNat : Int)))
    (hch : ∀ j, j < 8 → w.cell? ⟨hb, j, none⟩ = some (.int .u32 ((h.getD j 0).toNat : Int)))
    (hck : ∀ j, j < 64 → w.cell? ⟨kb, j, none⟩ = some (.int .u32 ((kTab.getD j 0).toNat : Int))) :
    Calls Tryz.prog 49 #[.slice (some ⟨hb, 0, none⟩) 8 hc, .slice (some ⟨kb, 0, none⟩) 64 kc, .slice (some ⟨mb, 0, none⟩) m.length mc, .int .i64 fr] w
      fun e w' => ∃ g, e = .returned (.slice (some ⟨g, 0, none⟩) 8 8) ∧ Row w' w.heap.size g 8 8 ((comp h (m.drop fr)).map U) ∧ Below w.heap.size w w' := by
  have lh : hb < w.heap.size := World.block_lt_of_cell? w _ (hch 0 (by omega))
  have lk : kb < w.heap.size := World.block_lt_of_cell? w _ (hck 0 (by omega))
  go_enter Tryz.func49, Tryz.ntmps49
  go_wp2_with fail
  refine (schedule_any m mb mc fr w hl hf hcm).mono ?_
  rintro e w1 ⟨g, cap, rfl, hown, hbel⟩
  obtain ⟨x0, e0⟩ : ∃ x, h.getD 0 0 = x := ⟨_, rfl⟩
  obtain ⟨x1, e1⟩ : ∃ x, h.getD 1 0 = x := ⟨_, rfl⟩
  obtain ⟨x2, e2⟩ : ∃ x, h.getD 2 0 = x := ⟨_, rfl⟩
  obtain ⟨x3, e3⟩ : ∃ x, h.getD 3 0 = x := ⟨_, rfl⟩
  obtain ⟨x4, e4⟩ : ∃ x, h.getD 4 0 = x := ⟨_, rfl⟩
  obtain ⟨x5, e5⟩ : ∃ x, h.getD 5 0 = x := ⟨_, rfl⟩
  obtain ⟨x6, e6⟩ : ∃ x, h.getD 6 0 = x := ⟨_, rfl⟩
  obtain ⟨x7, e7⟩ : ∃ x, h.getD 7 0 = x := ⟨_, rfl⟩
  have c0 : w1.cell? ⟨hb, 0, none⟩ = some (.int .u32 (x0.toNat : Int)) := by rw [← e0]; exact (hbel.cell lh).trans (hch 0 (by omega))
  have c1 : w1.cell? ⟨hb, 1, none⟩ = some (.int .u32 (x1.toNat : Int)) := by rw [← e1]; exact (hbel.cell lh).trans (hch 1 (by omega))
  have c2 : w1.cell? ⟨hb, 2, none⟩ = some (.int .u32 (x2.toNat : Int)) := by rw [← e2]; exact (hbel.cell lh).trans (hch 2 (by omega))
  have c3 : w1.cell? ⟨hb, 3, none⟩ = some (.int .u32 (x3.toNat : Int)) := by rw [← e3]; exact (hbel.cell lh).trans (hch 3 (by omega))
  have c4 : w1.cell? ⟨hb, 4, none⟩ = some (.int .u32 (x4.toNat : Int)) := by rw [← e4]; exact (hbel.cell lh).trans (hch 4 (by omega))
  have c5 : w1.cell? ⟨hb, 5, none⟩ = some (.int .u32 (x5.toNat : Int)) := by rw [← e5]; exact (hbel.cell lh).trans (hch 5 (by omega))
  have c6 : w1.cell? ⟨hb, 6, none⟩ = some (.int .u32 (x6.toNat : Int)) := by rw [← e6]; exact (hbel.cell lh).trans (hch 6 (by omega))
  have c7 : w1.cell? ⟨hb, 7, none⟩ = some (.int .u32 (x7.toNat : Int)) := by rw [← e7]; exact (hbel.cell lh).trans (hch 7 (by omega))
  have HX : Hid (ofL h = ⟨x0, x1, x2, x3, x4, x5, x6, x7⟩) := by unfold ofL; rw [e0, e1, e2, e3, e4, e5, e6, e7]; exact rfl
  have HE : Hid (h.getD 0 0 = x0 ∧ h.getD 1 0 = x1 ∧ h.getD 2 0 = x2 ∧ h.getD 3 0 = x3 ∧ h.getD 4 0 = x4 ∧ h.getD 5 0 = x5 ∧ h.getD 6 0 = x6 ∧ h.getD 7 0 = x7) := ⟨e0, e1, e2, e3, e4, e5, e6, e7⟩
  clear e0 e1 e2 e3 e4 e5 e6 e7
  have hWl := sched_length (m.drop fr) 64
  have hlg := hown.lt g rfl
  obtain ⟨W, hW⟩ : ∃ W, sched (m.drop fr) 64 = W := ⟨_, rfl⟩
  rw [hW] at hown hWl
  have HW : Hid (∀ N, N = 64 → sched (m.drop fr) N = W) := fun N hN => by rw [hN]; exact hW
  clear hW
  have hcw : ∀ j, j < 64 → w1.cell? ⟨g, j, none⟩ = some (.int .u32 ((W.getD j 0).toNat : Int)) := own_u hown hWl
  have hck1 : ∀ j, j < 64 → w1.cell? ⟨kb, j, none⟩ = some (.int .u32 ((kTab.getD j 0).toNat : Int)) := fun j hj => (hbel.cell lk).trans (hck j hj)
  clear hck hch hcm hown
  have lh1 : hb < w1.heap.size := Nat.lt_of_lt_of_le lh hbel.size
  have lk1 : kb < w1.heap.size := Nat.lt_of_lt_of_le lk hbel.size
  have HK : Hid (∀ j, j < 64 → w1.cell? ⟨kb, j, none⟩ = some (.int .u32 ((kTab.getD j 0).toNat : Int))) := hck1
  have HC : Hid (∀ j, j < 64 → w1.cell? ⟨g, j, none⟩ = some (.int .u32 ((W.getD j 0).toNat : Int))) := hcw
  clear hck1 hcw
  go_wp2_with fail
  go_loopw [10, 11, 12, 13, 14, 15, 16, 17, 18] (fun ta tb tc td te tf tg tz i wr => ∃ (k : Nat) (va vb vc vd ve vf vg vz : UInt32), k ≤ 64 ∧ i = .int .i64 k ∧ Hid (rnds W (⟨x0, x1, x2, x3, x4, x5, x6, x7⟩ : St) k = ⟨va, vb, vc, vd, ve, vf, vg, vz⟩) ∧ ta = .int .u32 (va.toNat : Int) ∧ tb = .int .u32 (vb.toNat : Int) ∧ tc = .int .u32 (vc.toNat : Int) ∧ td = .int .u32 (vd.toNat : Int) ∧ te = .int .u32 (ve.toNat : Int) ∧ tf = .int .u32 (vf.toNat : Int) ∧ tg = .int .u32 (vg.toNat : Int) ∧ tz = .int .u32 (vz.toNat : Int) ∧ Below w1.heap.size w1 wr) (fun _ _ _ _ _ _ _ _ i _ => 64 - (intOf i).toNat)
  case atStart => exact ⟨0, x0, x1, x2, x3, x4, x5, x6, x7, Nat.zero_le _, rfl, rfl, rfl, rfl, rfl, rfl, rfl, rfl, rfl, rfl, Below.refl _ _⟩
  case round =>
    obtain ⟨k, va, vb, vc, vd, ve, vf, vg, vz, hk, rfl, HST, rfl, rfl, rfl, rfl, rfl, rfl, rfl, rfl, hb2⟩ := hrel
    by_cases hlt : k < 64
    · obtain ⟨kk, hkk⟩ : ∃ x, kTab.getD k 0 = x := ⟨_, rfl⟩
      obtain ⟨ww, hww⟩ : ∃ x, W.getD k 0 = x := ⟨_, rfl⟩
      have ck : wr.cell? ⟨kb, k, none⟩ = some (.int .u32 (kk.toNat : Int)) := by rw [← hkk]; exact (hb2.cell lk1).trans (HK.out k hlt)
      have cw : wr.cell? ⟨g, k, none⟩ = some (.int .u32 (ww.toNat : Int)) := by rw [← hww]; exact (hb2.cell hlg.2).trans (HC.out k hlt)
      have HKW : Hid (kTab.getD k 0 = kk ∧ W.getD k 0 = ww) := ⟨hkk, hww⟩
      clear hkk hww
      go_wp2_with (go_at_call 57; refine (turn_any _ _ (by omega) (by omega) _).mono ?_; rintro e w' ⟨rfl, rfl⟩)
      have q0 : (0 : Int) ≤ (k : Int) := by omega
      have q1 : (k : Int) < 64 := by omega
      go_region_held3 (fun w' => w'.cell? ⟨kb, k, none⟩ = some (.int .u32 (kk.toNat : Int)) ∧ w'.cell? ⟨g, k, none⟩ = some (.int .u32 (ww.toNat : Int))) (go_keep) (fail)
      go_wp2_with (go_at_call 57; refine (turn_any _ _ (by omega) (by omega) _).mono ?_; rintro e w' ⟨rfl, rfl⟩)
      go_roundw
      case rel =>
        have HR := rnds_succ W _ k kk ww _ HST.out HKW.out
        simp only [sumE_form, sumA_form, ch_form, maj_form, u_add]
        exact ⟨k + 1, _, _, _, _, _, _, _, _, by omega, by go_num, HR, rfl, rfl, rfl, rfl, rfl, rfl, rfl, rfl, by first | exact hb2.drew | exact hb2⟩
      case measure => simp [intOf]; omega
    · obtain rfl : k = 64 := by omega
      have d0 : wr.cell? ⟨hb, 0, none⟩ = some (.int .u32 (x0.toNat : Int)) := (hb2.cell lh1).trans c0
      have d1 : wr.cell? ⟨hb, 1, none⟩ = some (.int .u32 (x1.toNat : Int)) := (hb2.cell lh1).trans c1
      have d2 : wr.cell? ⟨hb, 2, none⟩ = some (.int .u32 (x2.toNat : Int)) := (hb2.cell lh1).trans c2
      have d3 : wr.cell? ⟨hb, 3, none⟩ = some (.int .u32 (x3.toNat : Int)) := (hb2.cell lh1).trans c3
      have d4 : wr.cell? ⟨hb, 4, none⟩ = some (.int .u32 (x4.toNat : Int)) := (hb2.cell lh1).trans c4
      have d5 : wr.cell? ⟨hb, 5, none⟩ = some (.int .u32 (x5.toNat : Int)) := (hb2.cell lh1).trans c5
      have d6 : wr.cell? ⟨hb, 6, none⟩ = some (.int .u32 (x6.toNat : Int)) := (hb2.cell lh1).trans c6
      have d7 : wr.cell? ⟨hb, 7, none⟩ = some (.int .u32 (x7.toNat : Int)) := (hb2.cell lh1).trans c7
      clear c0 c1 c2 c3 c4 c5 c6 c7
      have HST' : Hid (∀ N, N = 64 → rnds W ⟨x0, x1, x2, x3, x4, x5, x6, x7⟩ N = ⟨va, vb, vc, vd, ve, vf, vg, vz⟩) := fun N hN => by rw [hN]; exact HST
      clear HST
      go_wp2_with fail
      go_region_held3 (fun w' => w'.cell? ⟨hb, 0, none⟩ = some (.int .u32 (x0.toNat : Int)) ∧ w'.cell? ⟨hb, 1, none⟩ = some (.int .u32 (x1.toNat : Int)) ∧ w'.cell? ⟨hb, 2, none⟩ = some (.int .u32 (x2.toNat : Int)) ∧ w'.cell? ⟨hb, 3, none⟩ = some (.int .u32 (x3.toNat : Int)) ∧ w'.cell? ⟨hb, 4, none⟩ = some (.int .u32 (x4.toNat : Int)) ∧ w'.cell? ⟨hb, 5, none⟩ = some (.int .u32 (x5.toNat : Int)) ∧ w'.cell? ⟨hb, 6, none⟩ = some (.int .u32 (x6.toNat : Int)) ∧ w'.cell? ⟨hb, 7, none⟩ = some (.int .u32 (x7.toNat : Int))) (go_keep) (fail)
      go_wp2
      go_ret
      have hs1 := hbel.size
      have hs2 := hb2.size
      rw [comp_form h (m.drop fr) W x0 x1 x2 x3 x4 x5 x6 x7 va vb vc vd ve vf vg vz HE.out (HW.out 64 rfl) (HST'.out 64 rfl)]
      exact ⟨wr.heap.size, rfl, (Row.of_block (base := w.heap.size) (by omega) (heap_alloc_new wr _) 8 (by simp) (.inl rfl)).drew, ((hbel.trans (hb2.mono hs1)).alloc (by omega) _).drew⟩
end Go.Proofs.YtngnbflkiiehmaaGreatDoor
namespace Go.Proofs.YtngnbflkiiehmaaGreatDoor
open Go.RowKit Go.Proofs.Sha

set_option maxRecDepth 100000 in
set_option maxHeartbeats 800000 in
theorem spec_any (s : ByteArray) (w : World) (hs : s.size ≤ 1048576) :
    Calls Tryz.prog 30 #[.string s] w fun e w' => e = .returned (.string ⟨(sha s.data.toList).toArray⟩) ∧ Below w.heap.size w w' := by
  obtain ⟨i0, hi0, hz0, hz1, hz2⟩ := info_parts info5
  have hsl : s.data.toList.length = s.size := rfl
  go_enter Tryz.func30, Tryz.ntmps30
  go_wp2_with fail
  refine (tab_any _).mono ?_
  rintro e w2 ⟨rfl, rfl⟩
  go_wp2_with fail
  refine (padded_any s _ hs).mono ?_
  rintro e w3 ⟨mb, mc, rfl, hrow, hbel⟩
  have hplen := pad_length s.data.toList
  have hpmod := pad_mod s.data.toList
  have hz := zpad_lt s.data.toList.length
  have htwo := two_blocks w hTab kTab 77
  have hcm := fun j hj => row_b hrow j hj
  have hmb := hrow.lt
  have hA : ∀ j, j < 8 → w3.cell? ⟨w.heap.size, j, none⟩ = some (.int .u32 ((hTab.getD j 0).toNat : Int)) := fun j hj => (hbel.cell (by simp; omega)).trans (htwo.1 j hj)
  have hK : ∀ j, j < 64 → w3.cell? ⟨w.heap.size + 1, j, none⟩ = some (.int .u32 ((kTab.getD j 0).toNat : Int)) := fun j hj => (hbel.cell (by simp)).trans (htwo.2 j hj)
  have hsz3 : w.heap.size + 2 ≤ w3.heap.size := by have := hbel.size; simpa using this
  have hbel3 : Below w.heap.size w w3 := (((Below.refl _ _).alloc (Nat.le_refl _) _).alloc (by simp) _).trans (hbel.mono (by simp; omega))
  clear htwo hbel hrow
  obtain ⟨p, hp⟩ : ∃ p, pad s.data.toList = p := ⟨_, rfl⟩
  rw [hp] at hplen hpmod hcm
  rw [hp]
  have HP : Hid (pad s.data.toList = p) := hp
  clear hp
  have hp2 : p.length ≤ 2000000 := by omega
  clear hplen hz
  have HM : Hid (∀ j, j < p.length → w3.cell? ⟨mb, j, none⟩ = some (.int .u8 ((p.getD j 0).toNat : Int))) := hcm
  have HK : Hid (∀ j, j < 64 → w3.cell? ⟨w.heap.size + 1, j, none⟩ = some (.int .u32 ((kTab.getD j 0).toNat : Int))) := hK
  clear hcm hK
  go_wp2_with fail
  go_loopw [3, 6] (fun v i wr => ∃ q g fr : Nat, fr ≤ p.length ∧ Hid (fr = 64 * q) ∧ i = .int .i64 (fr : Int) ∧ v = .slice (some ⟨g, 0, none⟩) 8 8 ∧ (∀ j, j < 8 → wr.cell? ⟨g, j, none⟩ = some (.int .u32 (((blocks p q).getD j 0).toNat : Int))) ∧ Below w3.heap.size w3 wr) (fun _ i _ => p.length - (intOf i).toNat)
  case atStart => exact ⟨0, w.heap.size, 0, by omega, rfl, rfl, rfl, hA, Below.refl _ _⟩
  case round =>
    clear hA
    obtain ⟨q, g, fr, hq, HQ, rfl, rfl, hcg, hb⟩ := hrel
    have hsr := hb.size
    have hgl : g < wr.heap.size := World.block_lt_of_cell? wr _ (hcg 0 (by omega))
    have HG : Hid (∀ j, j < 8 → wr.cell? ⟨g, j, none⟩ = some (.int .u32 (((blocks p q).getD j 0).toNat : Int))) := hcg
    clear hcg
    by_cases hlt : fr < p.length
    · have hfr : fr + 64 ≤ p.length := by have := HQ.out; omega
      go_wp2_with fail
      refine (block_any (blocks p q) g 8 (w.heap.size + 1) 64 p mb mc fr wr hp2 hfr (fun j hj => (hb.cell hmb).trans (HM.out j hj)) HG.out (fun j hj => (hb.cell (by exact hsz3)).trans (HK.out j hj))).mono ?_
      rintro e w4 ⟨g', rfl, hrow', hb'⟩
      go_wp2_with fail
      go_roundw
      case rel =>
        refine ⟨q + 1, g', fr + 64, by omega, ?_, by go_num, rfl, ?_, hb.trans (hb'.mono hsr)⟩
        · have := HQ.out; show fr + 64 = 64 * (q + 1); omega
        · intro j hj
          rw [blocks, ← HQ.out]; exact row_u hrow' j hj
      case measure => simp [intOf]; omega
    · obtain rfl : fr = p.length := by omega
      have HF : Hid (sha s.data.toList = outTo (blocks p q) 8) := by
        show sha s.data.toList = _
        unfold sha
        rw [HP.out, HQ.out]
        congr 2; omega
      have hbw : Below w.heap.size w wr := hbel3.trans (hb.mono (by omega))
      clear HM HK HP
      obtain ⟨w5, rfl⟩ : ∃ w5, w5 = wr := ⟨_, rfl⟩
      go_wp2_with fail
      go_loopw [7, 8] (fun v i wx => ∃ k go cap : Nat, k ≤ 8 ∧ i = .int .i64 (k : Int) ∧ v = .slice (some ⟨go, 0, none⟩) (4 * k) cap ∧ Row wx w5.heap.size go (4 * k) cap ((outTo (blocks p q) k).map B) ∧ Below w5.heap.size w5 wx) (fun _ i _ => 8 - (intOf i).toNat)
      case atStart => exact ⟨0, w5.heap.size, 0, by omega, rfl, rfl, Row.of_block (Nat.le_refl _) (heap_alloc_new w5 _) 0 (by simp) (.inl rfl), (Below.refl _ _).alloc (Nat.le_refl _) _⟩
      case round =>
        obtain ⟨k, go, cap, hk, rfl, rfl, hrow, hbx⟩ := hrel
        have hsx := hbx.size
        have hgo := hrow.ge
        by_cases hlt2 : k < 8
        · obtain ⟨x, hx⟩ : ∃ x, (blocks p q).getD k 0 = x := ⟨_, rfl⟩
          have cx : wr.cell? ⟨g, k, none⟩ = some (.int .u32 (x.toNat : Int)) := by rw [← hx]; exact (hbx.cell hgl).trans (HG.out k hlt2)
          have HX : Hid ((blocks p q).getD k 0 = x) := hx
          clear hx
          have hne : some g ≠ some go := by simp; omega
          have q0 : (0 : Int) ≤ (k : Int) := by omega
          have q1 : (k : Int) < 8 := by omega
          go_wp2_with fail
          go_region_held3 (fun w' => w'.cell? ⟨g, k, none⟩ = some (.int .u32 (x.toNat : Int)))
            (first | go_keep | (rw [hgrow.cell_far _ (by simp; omega) hne]; assumption))
            ((refine step_append_row _ (by rfl) _ _ _ (by rfl) 5 i0 _ 1 Tryz.underlying22 hi0 hz0 hz1 hz2 rfl w5.heap.size go (4 * k) cap _ (by rfl) ((hrow.alloc _).drew) ⟨wr.heap.size, 0, none⟩ 4 4 [_, _, _, _] (by rfl) (by rfl) (World.news_of_block (heap_alloc_new wr _)) (by simp [Value.oneCell']) (by unfold maxLen; omega) (by omega) (by simp; omega) (wr.heap.size + 1) (by simp) ?_; intro go' cap' wy hrow' hgrow hat hold))
          go_wp2
          go_roundw
          case rel =>
            rw [← outTo_succ (blocks p q) k x HX.out] at hrow'
            exact ⟨k + 1, go', cap', by omega, by go_num, rfl, hrow', (hbx.alloc hsx _).drew.grown hgrow (by simp; omega) (fun y hy => by cases hy; exact hgo)⟩
          case measure => simp [intOf]; omega
        · obtain rfl : k = 8 := by omega
          go_wp2_with (refine wpList_string_row _ rfl (.tmp 55) 22 9 5 rfl w5.heap.size go 32 cap _ rfl (by exact hrow) Tryz.underlying22 Tryz.underlying5 Tryz.underlying9 ?_)
          go_ret
          rw [HF.out]
          exact ⟨rfl, hbw.trans (hbx.mono hbw.size)⟩
end Go.Proofs.YtngnbflkiiehmaaGreatDoor
