import Derived.Test.YtmoajibmbppkjaeGreatDoorProg
import Derived.Test.YtmoajibmbppkjaeGreatDoorZae
import Derived.WalkSpells
import Derived.WalkLawsBesides
import Derived.StillTactics
import Derived.Laws.Pointers
import Derived.Deep.RegionHeld3
namespace Go.Proofs.YtmoajibmbppkjaeGreatDoor
open Go.RowKit Go.Proofs.Sha

theorem and31 (n : Nat) (hn : n ≤ 31) (h1 : 1 ≤ n) : bits BinOp.and IntKind.u64 (IntKind.u64.wrap (-(n:Int))) 31 = ((32 - n : Nat) : Int) := by
  have : n = 1 ∨ n = 2 ∨ n = 3 ∨ n = 4 ∨ n = 5 ∨ n = 6 ∨ n = 7 ∨ n = 8 ∨ n = 9 ∨ n = 10 ∨ n = 11 ∨ n = 12 ∨ n = 13 ∨ n = 14 ∨ n = 15 ∨ n = 16 ∨ n = 17 ∨ n = 18 ∨ n = 19 ∨ n = 20 ∨ n = 21 ∨ n = 22 ∨ n = 23 ∨ n = 24 ∨ n = 25 ∨ n = 26 ∨ n = 27 ∨ n = 28 ∨ n = 29 ∨ n = 30 ∨ n = 31 := by omega
  rcases this with h|h|h|h|h|h|h|h|h|h|h|h|h|h|h|h|h|h|h|h|h|h|h|h|h|h|h|h|h|h|h <;> subst h <;> decide

set_option maxHeartbeats 400000 in
theorem rot_any (x : UInt32) (m : Int) (h1 : m ≤ -1) (h2 : -31 ≤ m) (w : World) :
    Calls Tryz.prog 208 #[.int .u32 x.toNat, .int .i64 m] w fun e w' => e = .returned (.int .u32 (turn x (-m).toNat).toNat) ∧ w = w' := by
  obtain ⟨n, hn⟩ := Int.eq_ofNat_of_zero_le (show 0 ≤ -m by omega)
  obtain rfl : m = -(n : Int) := by omega
  rw [Int.neg_neg, Int.toNat_natCast]
  clear hn
  have hn1 : 1 ≤ n := by omega
  have hn2 : n ≤ 31 := by omega
  have ha := and31 n hn2 hn1
  go_enter Tryz.func208, Tryz.ntmps208
  go_wp2
  go_ret
  exact ⟨ret_int (by rw [show 32 - (32 - n) = n from by omega]; exact turn_impl x n), rfl⟩

def zeros32 : List UInt32 := List.replicate 64 0
theorem alloc46 (w : World) : (Instr.alloc 272 true (.tuple #[])).run Tryz.prog w = .ok (.pointer (some ⟨w.heap.size, 0, none⟩)) (w.alloc (.cells (zeros32.map U).toArray 272)) := by kernel_rfl
theorem size46 : (Tryz.prog.info? 272).map (·.size) = some 64 := by kernel_rfl

set_option maxRecDepth 100000 in
set_option maxHeartbeats 800000 in
theorem isched_any (b : Nat) (h : List UInt32) (kb : List UInt8) (held size : Nat) (w : World) (H : Hsh w b h kb held size) :
    Calls Tryz.prog 207 #[.pointer (some ⟨b, 0, none⟩)] w fun e w' => e = .returned (.agg ((sched kb 64).map U).toArray) ∧ Below w.heap.size w w' := by
  have hbl := H.lt
  go_enter Tryz.func207, Tryz.ntmps207
  go_wp2_with (first | (refine wpList_alloc_row _ rfl (some 2) rfl 272 272 rfl (zeros32.map U) alloc46 ?_; intro g2 w2 hr2 hb2) | (refine wpList_alloc_row _ rfl (some 3) rfl 272 272 rfl (zeros32.map U) alloc46 ?_; intro g3 w3 hr3 hb3))
  have hr2' : Row w2 w.heap.size g2 64 64 (zeros32.map U) := hr2
  have hr3' : Row w3 w2.heap.size g3 64 64 ((arr kb 0).map U) := hr3
  have h2 := hb2.size
  have h3 := hb3.size
  have hl2 := hr2.lt
  have hg3 := hr3.ge
  have hg2 := hr2.ge
  have HR2 : Row w3 w.heap.size g2 64 64 (zeros32.map U) := hr2'.below hb3
  have HH : Hsh w3 b h kb held size := (H.below hb2).below hb3
  have hbw : Below w.heap.size w w3 := hb2.trans (hb3.mono h2)
  clear hr2 hr3 hr2' H hb2 hb3
  go_loopw [4] (fun i wr => ∃ q : Nat, q ≤ 16 ∧ i = .int .i64 (q : Int) ∧ Row wr w2.heap.size g3 64 64 ((arr kb q).map U) ∧ w3.grownBy wr (some g3)) (fun i _ => 16 - (intOf i).toNat)
  case atStart => exact ⟨0, by omega, rfl, hr3', grownBy_refl _ _⟩
  case round =>
    clear hr3'
    obtain ⟨q, hq, rfl, hrow, hgr⟩ := hrel
    have hne : b ≠ g3 := by omega
    have hH : Hsh wr b h kb held size := HH.kept hgr (by simp; omega)
    by_cases hlt : q < 16
    · obtain ⟨p, hp⟩ : ∃ p, p = 4 * q := ⟨_, rfl⟩
      have c0 := hH.ks p (by omega)
      have c1 := hH.ks (p + 1) (by omega)
      have c2 := hH.ks (p + 2) (by omega)
      have c3 := hH.ks (p + 3) (by omega)
      generalize hb0 : kb.getD p 0 = b0 at c0
      generalize hb1 : kb.getD (p + 1) 0 = b1 at c1
      generalize hb2 : kb.getD (p + 2) 0 = b2 at c2
      generalize hb3 : kb.getD (p + 3) 0 = b3 at c3
      have HB : Hid (kb.getD p 0 = b0 ∧ kb.getD (p + 1) 0 = b1 ∧ kb.getD (p + 2) 0 = b2 ∧ kb.getD (p + 3) 0 = b3) := ⟨hb0, hb1, hb2, hb3⟩
      clear hb0 hb1 hb2 hb3 hH
      have ct := row_u hrow q (by omega)
      have cf := hrow.free q (by omega)
      have w0 : IntKind.i64.wrap (4 * (q : Int)) = (p : Int) := by rw [wrap_i64_in _ (by omega) (by omega)]; omega
      have q0 : (0 : Int) ≤ (p : Int) := by omega
      have q1 : (p : Int) < 64 := by omega
      have q2 : (p : Int) + 1 < 64 := by omega
      have q3 : (p : Int) + 2 < 64 := by omega
      have q4 : (p : Int) + 3 < 64 := by omega
      have w1 : IntKind.i64.wrap ((p : Int) + 1) = (p : Int) + 1 := wrap_i64_in _ (by omega) (by omega)
      have r1 : (0 : Int) ≤ (p : Int) + 1 := by omega
      have t1 : ((p : Int) + 1).toNat = p + 1 := by omega
      have wp2 : IntKind.i64.wrap ((p : Int) + 2) = (p : Int) + 2 := wrap_i64_in _ (by omega) (by omega)
      have r2 : (0 : Int) ≤ (p : Int) + 2 := by omega
      have t2 : ((p : Int) + 2).toNat = p + 2 := by omega
      have wp3 : IntKind.i64.wrap ((p : Int) + 3) = (p : Int) + 3 := wrap_i64_in _ (by omega) (by omega)
      have r3 : (0 : Int) ≤ (p : Int) + 3 := by omega
      have t3 : ((p : Int) + 3).toNat = p + 3 := by omega
      have s0 : (0 : Int) ≤ (q : Int) := by omega
      have s1 : (q : Int) < 64 := by omega
      have HP : Hid (p = 4 * q) := hp
      clear hp
      go_wp2_with fail
      go_region_held3 (fun w' => w'.cell? ⟨b, 8 + p, none⟩ = some (.int .u8 (b0.toNat : Int)) ∧ w'.cell? ⟨b, 8 + (p + 1), none⟩ = some (.int .u8 (b1.toNat : Int)) ∧ w'.cell? ⟨b, 8 + (p + 2), none⟩ = some (.int .u8 (b2.toNat : Int)) ∧ w'.cell? ⟨b, 8 + (p + 3), none⟩ = some (.int .u8 (b3.toNat : Int)))
        (first | exact ⟨c0, c1, c2, c3⟩ | exact ⟨(cell_set_far _ _ _ _ _ _ hne).trans c0, (cell_set_far _ _ _ _ _ _ hne).trans c1, (cell_set_far _ _ _ _ _ _ hne).trans c2, (cell_set_far _ _ _ _ _ _ hne).trans c3⟩) (fail)
      rw [word_form]
      go_wp2
      go_roundw
      case rel =>
        refine ⟨q + 1, by omega, by go_num, ?_, ?_⟩
        · rw [← arr_lo kb q p b0 b1 b2 b3 hlt HP.out HB.out, word_form]; exact (hrow.set q (by omega) _).drew
        · exact grownBy_drewR (grownBy_trans hgr (grownBy_setCell _ _ _ _))
      case measure => simp [intOf]; omega
    · obtain rfl : q = 16 := by omega
      obtain ⟨w4, rfl⟩ : ∃ w4, w4 = wr := ⟨_, rfl⟩
      clear hH
      go_wp2_with fail
      go_loopw [5] (fun i wr => ∃ q : Nat, 16 ≤ q ∧ q ≤ 64 ∧ i = .int .i64 (q : Int) ∧ Row wr w2.heap.size g3 64 64 ((arr kb q).map U) ∧ w3.grownBy wr (some g3)) (fun i _ => 64 - (intOf i).toNat)
      case atStart => exact ⟨16, by omega, by omega, rfl, hrow, hgr⟩
      case round =>
        clear hrow hgr
        obtain ⟨q, hq16, hq, rfl, hrow, hgr⟩ := hrel
        by_cases hlt : q < 64
        · have c15 := row_u hrow (q - 15) (by omega)
          have c2 := row_u hrow (q - 2) (by omega)
          have c16 := row_u hrow (q - 16) (by omega)
          have c7 := row_u hrow (q - 7) (by omega)
          have ct := row_u hrow q (by omega)
          have cf := hrow.free q (by omega)
          rw [arr_getD kb q _ (by omega)] at c15 c2 c16 c7
          generalize h15 : (sched kb q).getD (q - 15) 0 = x15 at *
          generalize h2' : (sched kb q).getD (q - 2) 0 = x2 at *
          generalize h16' : (sched kb q).getD (q - 16) 0 = x16 at *
          generalize h7 : (sched kb q).getD (q - 7) 0 = x7 at *
          have HB : Hid ((sched kb q).getD (q - 16) 0 = x16 ∧ (sched kb q).getD (q - 15) 0 = x15 ∧ (sched kb q).getD (q - 7) 0 = x7 ∧ (sched kb q).getD (q - 2) 0 = x2) := ⟨h16', h15, h7, h2'⟩
          clear h15 h2' h16' h7
          have k1 : (q : Int) - 16 < 64 := by omega
          have k2 : (q : Int) - 7 < 64 := by omega
          have k3 : (q : Int) - 15 < 64 := by omega
          have k4 : (q : Int) - 2 < 64 := by omega
          have k5 : (q : Int) < 64 := by omega
          have k6 : (0 : Int) ≤ (q : Int) := by omega
          have w1 : IntKind.i64.wrap ((q : Int) - 16) = (q : Int) - 16 := wrap_i64_in _ (by omega) (by omega)
          have r1 : (16 : Int) ≤ (q : Int) := by omega
          have t1 : ((q : Int) - 16).toNat = q - 16 := by omega
          have w2' : IntKind.i64.wrap ((q : Int) - 7) = (q : Int) - 7 := wrap_i64_in _ (by omega) (by omega)
          have r2 : (7 : Int) ≤ (q : Int) := by omega
          have t2 : ((q : Int) - 7).toNat = q - 7 := by omega
          have w3' : IntKind.i64.wrap ((q : Int) - 15) = (q : Int) - 15 := wrap_i64_in _ (by omega) (by omega)
          have r3 : (15 : Int) ≤ (q : Int) := by omega
          have t3 : ((q : Int) - 15).toNat = q - 15 := by omega
          have w4' : IntKind.i64.wrap ((q : Int) - 2) = (q : Int) - 2 := wrap_i64_in _ (by omega) (by omega)
          have r4 : (2 : Int) ≤ (q : Int) := by omega
          have t4 : ((q : Int) - 2).toNat = q - 2 := by omega
          go_wp2_with fail
          go_region_held3 (fun w' => w'.cell? ⟨g3, q - 2, none⟩ = some (.int .u32 (x2.toNat : Int)) ∧ w'.cell? ⟨g3, q - 15, none⟩ = some (.int .u32 (x15.toNat : Int))) (exact ⟨c2, c15⟩) (fail)
          go_wp2_with (go_at_call 208; refine (rot_any _ _ (by omega) (by omega) _).mono ?_; rintro e w' ⟨rfl, rfl⟩)
          rw [far_form, near_form]
          generalize hs0 : sumFar x15 = sf at *
          generalize hs1 : sumNear x2 = sn at *
          have HS : Hid (sumFar x15 = sf ∧ sumNear x2 = sn) := ⟨hs0, hs1⟩
          clear hs0 hs1
          go_region_held3 (fun w' => w'.cell? ⟨g3, q - 7, none⟩ = some (.int .u32 (x7.toNat : Int)) ∧ w'.cell? ⟨g3, q - 16, none⟩ = some (.int .u32 (x16.toNat : Int))) (first | exact ⟨c7, c16⟩ | exact ⟨(cell_set_ne _ _ _ _ _ (by omega)).trans c7, (cell_set_ne _ _ _ _ _ (by omega)).trans c16⟩) (fail)
          rw [wrap_add, wrap_add, wrap_add]
          generalize hv : sn + x7 + sf + x16 = nv
          have HV : Hid (sn + x7 + sf + x16 = nv) := hv
          clear hv
          go_wp2
          go_roundw
          case rel =>
            have e := arr_hi kb q x16 x15 x7 x2 hq16 hlt HB.out
            rw [HS.out.1, HS.out.2, wrap_add, wrap_add, wrap_add, HV.out] at e
            (repeat apply Exists.intro)
            refine ⟨⟨q + 1, by omega, by omega, by go_num, ?_, ?_⟩, rfl⟩
            · rw [← e]; exact (hrow.set q (by omega) _).drew.drew
            · exact grownBy_drewR (grownBy_drewR (grownBy_trans hgr (grownBy_setCell _ _ _ _)))
          case measure => simp [intOf]; omega
        · obtain rfl : q = 64 := by omega
          have hR2 : Row wr w.heap.size g2 64 64 (zeros32.map U) := HR2.kept hgr (by simp; omega)
          rw [arr_full] at hrow
          have hln : ((sched kb 64).map U).length = 64 := by rw [List.length_map, sched_length]
          have h1c : ∀ v ∈ (sched kb 64).map U, v.oneCell' = true := by
            intro v hv
            obtain ⟨x, _, rfl⟩ := List.mem_map.1 hv
            rfl
          have HF : Hid (∀ N, N = 64 → Row wr w2.heap.size g3 64 64 ((sched kb N).map U) ∧ ((sched kb N).map U).length = 64 ∧ ∀ v ∈ (sched kb N).map U, v.oneCell' = true) := fun N hN => by subst hN; exact ⟨hrow, hln, h1c⟩
          clear hrow hln h1c
          obtain ⟨L, hL⟩ : ∃ L, (sched kb 64).map U = L := ⟨_, rfl⟩
          have HL : Hid (∀ N, N = 64 → (sched kb N).map U = L) := fun N hN => by subst hN; exact hL
          have F := HF.out 64 rfl
          rw [hL] at F
          obtain ⟨F1, F2, F3⟩ := F
          clear hL HF
          go_wp2_with (first | (refine wpList_load_whole _ rfl 272 (.tmp 3) rfl w2.heap.size g3 64 64 L 173 rfl F1 Tryz.underlying272 size46 ?_) | (refine wpList_store_whole _ rfl rfl 272 (.tmp 2) (.tmp 100) rfl w.heap.size g2 64 (zeros32.map U) L rfl rfl hR2 F2 size46 F3 ?_; intro w5 hR5 hg5))
          refine ret_row _ (p := 2) (ty := 272) rfl w.heap.size g2 64 64 L 173 rfl hR5 Tryz.underlying272 size46 rfl ?_
          refine ⟨?_, ?_⟩
          · rw [← HL.out 64 rfl]
          · exact (hbw.trans (below_of_grown hgr (by omega) (by omega))).trans (below_of_grown hg5 (by omega) (by have := hgr.size; omega))
end Go.Proofs.YtmoajibmbppkjaeGreatDoor
