import Derived.Test.YtmfhfehemoeeeaaGreatDoorProg
import Derived.Test.YtmfhfehemoeeeaaGreatDoorZsac
import Derived.WalkSpells
import Derived.WalkLawsBesides
import Derived.StillTactics
import Derived.Laws.Pointers
import Derived.Deep.RegionHeld3
set_option maxRecDepth 100000
set_option maxHeartbeats 1600000
namespace Go.Proofs.YtmfhfehemoeeeaaGreatDoor
open Go.RowKit Go.Proofs.Sha

theorem and31 (n : Nat) (hn : n ≤ 31) (h1 : 1 ≤ n) : bits BinOp.and IntKind.u64 (IntKind.u64.wrap (-(n:Int))) 31 = ((32 - n : Nat) : Int) := by
  have : n = 1 ∨ n = 2 ∨ n = 3 ∨ n = 4 ∨ n = 5 ∨ n = 6 ∨ n = 7 ∨ n = 8 ∨ n = 9 ∨ n = 10 ∨ n = 11 ∨ n = 12 ∨ n = 13 ∨ n = 14 ∨ n = 15 ∨ n = 16 ∨ n = 17 ∨ n = 18 ∨ n = 19 ∨ n = 20 ∨ n = 21 ∨ n = 22 ∨ n = 23 ∨ n = 24 ∨ n = 25 ∨ n = 26 ∨ n = 27 ∨ n = 28 ∨ n = 29 ∨ n = 30 ∨ n = 31 := by omega
  rcases this with h|h|h|h|h|h|h|h|h|h|h|h|h|h|h|h|h|h|h|h|h|h|h|h|h|h|h|h|h|h|h <;> subst h <;> decide

theorem rot_any (x : UInt32) (m : Int) (h1 : m ≤ -1) (h2 : -31 ≤ m) (w : World) :
    Calls Tryz.prog 112 #[.int .u32 x.toNat, .int .i64 m] w fun e w' => e = .returned (.int .u32 (turn x (-m).toNat).toNat) ∧ w = w' := by
  obtain ⟨n, hn⟩ := Int.eq_ofNat_of_zero_le (show 0 ≤ -m by omega)
  obtain rfl : m = -(n : Int) := by omega
  rw [Int.neg_neg, Int.toNat_natCast]
  clear hn
  have hn1 : 1 ≤ n := by omega
  have hn2 : n ≤ 31 := by omega
  have ha := and31 n hn2 hn1
  go_enter Tryz.func112, Tryz.ntmps112
  go_wp2
  go_ret
  exact ⟨ret_int (by rw [show 32 - (32 - n) = n from by omega]; exact turn_impl x n), rfl⟩

def zeros32 : List UInt32 := List.replicate 64 0
theorem alloc46 (w : World) : (Instr.alloc 166 true (.tuple #[])).run Tryz.prog w = .ok (.pointer (some ⟨w.heap.size, 0, none⟩)) (w.alloc (.cells (zeros32.map U).toArray 166)) := by kernel_rfl
theorem size46 : (Tryz.prog.info? 166).map (·.size) = some 64 := by kernel_rfl

theorem isched_any (b : Nat) (h : List UInt32) (kb : List UInt8) (held size : Nat) (w : World) (H : Hsh w b h kb held size) :
    Calls Tryz.prog 111 #[.pointer (some ⟨b, 0, none⟩)] w fun e w' => e = .returned (.agg ((sched kb 64).map U).toArray) ∧ Below w.heap.size w w' := by
  have hbl := H.lt
  go_enter Tryz.func111, Tryz.ntmps111
  go_wp2_with (first | (refine wpList_alloc_row _ rfl (some 2) rfl 166 166 rfl (zeros32.map U) alloc46 ?_; intro g2 w2 hr2 hb2) | (refine wpList_alloc_row _ rfl (some 3) rfl 166 166 rfl (zeros32.map U) alloc46 ?_; intro g3 w3 hr3 hb3))
  have hr2' : Row w2 w.heap.size g2 64 64 (zeros32.map U) := hr2
  have hr3' : Row w3 w2.heap.size g3 64 64 ((arr kb 0).map U) := hr3
  have h2 := hb2.size
  have h3 := hb3.size
  have hl2 := hr2.lt
  have hg3 := hr3.ge
  have hg2 := hr2.ge
  have HR2 : Row w3 w.heap.size g2 64 64 (zeros32.map U) := hr2'.below hb3
  have HH : Hsh w3 b h kb held size := (H.below hb2).below hb3
  have hbw : Below w.heap.size w w3 := hb2.trans (hb3.mono h2)
  clear hr2 hr3 hr2' H hb2 hb3
  go_loopw [4] (fun i wr => ∃ q : Nat, q ≤ 16 ∧ i = .int .i64 (q : Int) ∧ Row wr w2.heap.size g3 64 64 ((arr kb q).map U) ∧ w3.grownBy wr (some g3)) (fun i _ => 16 - (intOf i).toNat)
  case atStart => exact ⟨0, by omega, rfl, hr3', grownBy_refl _ _⟩
  case round =>
    clear hr3'
    obtain ⟨q, hq, rfl, hrow, hgr⟩ := hrel
    have hne : b ≠ g3 := by omega
    have hH : Hsh wr b h kb held size := HH.kept hgr (by simp; omega)
    by_cases hlt : q < 16
    · obtain ⟨p, hp⟩ : ∃ p, p = 4 * q := ⟨_, rfl⟩
      have c0 := hH.ks p (by omega)
      have c1 := hH.ks (p + 1) (by omega)
      have c2 := hH.ks (p + 2) (by omega)
      have c3 := hH.ks (p + 3) (by omega)
      generalize hb0 : kb.getD p 0 = b0 at c0
      generalize hb1 : kb.getD (p + 1) 0 = b1 at c1
      generalize hb2 : kb.getD (p + 2) 0 = b2 at c2
      generalize hb3 : kb.getD (p + 3) 0 = b3 at c3
      have HB : Hid (kb.getD p 0 = b0 ∧ kb.getD (p + 1) 0 = b1 ∧ kb.getD (p + 2) 0 = b2 ∧ kb.getD (p + 3) 0 = b3) := ⟨hb0, hb1, hb2, hb3⟩
      clear hb0 hb1 hb2 hb3 hH
      have ct := row_u hrow q (by omega)
      have cf := hrow.free q (by omega)
      have w0 : IntKind.i64.wrap (4 * (q : Int)) = (p : Int) := by rw [wrap_i64_in _ (by omega) (by omega)]; omega
      have q0 : (0 : Int) ≤ (p : Int) := by omega
      have q1 : (p : Int) < 64 := by omega
      have q2 : (p : Int) + 1 < 64 := by omega
      have q3 : (p : Int) + 2 < 64 := by omega
      have q4 : (p : Int) + 3 < 64 := by omega
      have w1 : IntKind.i64.wrap ((p : Int) + 1) = (p : Int) + 1 := wrap_i64_in _ (by omega) (by omega)
      have r1 : (0 : Int) ≤ (p : Int) + 1 := by omega
      have t1 : ((p : Int) + 1).toNat = p + 1 := by omega
      have wp2 : IntKind.i64.wrap ((p : Int) + 2) = (p : Int) + 2 := wrap_i64_in _ (by omega) (by omega)
      have r2 : (0 : Int) ≤ (p : Int) + 2 := by omega
      have t2 : ((p : Int) + 2).toNat = p + 2 := by omega
      have wp3 : IntKind.i64.wrap ((p : Int) + 3) = (p : Int) + 3 := wrap_i64_in _ (by omega) (by omega)
      have r3 : (0 : Int) ≤ (p : Int) + 3 := by omega
      have t3 : ((p : Int) + 3).toNat = p + 3 := by omega
      have s0 : (0 : Int) ≤ (q : Int) := by omega
      have s1 : (q : Int) < 64 := by omega
      have HP : Hid (p = 4 * q) := hp
      clear hp
      go_wp2_with fail
      go_region_held3 (fun w' => w'.cell? ⟨b, 8 + p, none⟩ = some (.int .u8 (b0.toNat : Int)) ∧ w'.cell? ⟨b, 8 + (p + 1), none⟩ = some (.int .u8 (b1.toNat : Int)) ∧ w'.cell? ⟨b, 8 + (p + 2), none⟩ = some (.int .u8 (b2.toNat : Int)) ∧ w'.cell? ⟨b, 8 + (p + 3), none⟩ = some (.int .u8 (b3.toNat : Int)))
        (first | exact ⟨c0, c1, c2, c3⟩ | exact ⟨(cell_set_far _ _ _ _ _ _ hne).trans c0, (cell_set_far _ _ _ _ _ _ hne).trans c1, (cell_set_far _ _ _ _ _ _ hne).trans c2, (cell_set_far _ _ _ _ _ _ hne).trans c3⟩) (fail)
      rw [word_form]
      go_wp2
      go_roundw
      case rel =>
        refine ⟨q + 1, by omega, by go_num, ?_, ?_⟩
        · rw [← arr_lo kb q p b0 b1 b2 b3 hlt HP.out HB.out, word_form]; exact (hrow.set q (by omega) _).drew
        · exact grownBy_drewR (grownBy_trans hgr (grownBy_setCell _ _ _ _))
      case measure => simp [intOf]; omega
    · obtain rfl : q = 16 := by omega
      obtain ⟨w4, rfl⟩ : ∃ w4, w4 = wr := ⟨_, rfl⟩
      clear hH
      go_wp2_with fail
      go_loopw [5] (fun i wr => ∃ q : Nat, 16 ≤ q ∧ q ≤ 64 ∧ i = .int .i64 (q : Int) ∧ Row wr w2.heap.size g3 64 64 ((arr kb q).map U) ∧ w3.grownBy wr (some g3)) (fun i _ => 64 - (intOf i).toNat)
      case atStart => exact ⟨16, by omega, by omega, rfl, hrow, hgr⟩
      case round =>
        clear hrow hgr
        obtain ⟨q, hq16, hq, rfl, hrow, hgr⟩ := hrel
        by_cases hlt : q < 64
        · have c15 := row_u hrow (q - 15) (by omega)
          have c2 := row_u hrow (q - 2) (by omega)
          have c16 := row_u hrow (q - 16) (by omega)
          have c7 := row_u hrow (q - 7) (by omega)
          have ct := row_u hrow q (by omega)
          have cf := hrow.free q (by omega)
          rw [arr_getD kb q _ (by omega)] at c15 c2 c16 c7
          generalize h15 : (sched kb q).getD (q - 15) 0 = x15 at *
          generalize h2' : (sched kb q).getD (q - 2) 0 = x2 at *
          generalize h16' : (sched kb q).getD (q - 16) 0 = x16 at *
          generalize h7 : (sched kb q).getD (q - 7) 0 = x7 at *
          have HB : Hid ((sched kb q).getD (q - 16) 0 = x16 ∧ (sched kb q).getD (q - 15) 0 = x15 ∧ (sched kb q).getD (q - 7) 0 = x7 ∧ (sched kb q).getD (q - 2) 0 = x2) := ⟨h16', h15, h7, h2'⟩
          clear h15 h2' h16' h7
          have k1 : (q : Int) - 16 < 64 := by omega
          have k2 : (q : Int) - 7 < 64 := by omega
          have k3 : (q : Int) - 15 < 64 := by omega
          have k4 : (q : Int) - 2 < 64 := by omega
          have k5 : (q : Int) < 64 := by omega
          have k6 : (0 : Int) ≤ (q : Int) := by omega
          have w1 : IntKind.i64.wrap ((q : Int) - 16) = (q : Int) - 16 := wrap_i64_in _ (by omega) (by omega)
          have r1 : (16 : Int) ≤ (q : Int) := by omega
          have t1 : ((q : Int) - 16).toNat = q - 16 := by omega
          have w2' : IntKind.i64.wrap ((q : Int) - 7) = (q : Int) - 7 := wrap_i64_in _ (by omega) (by omega)
          have r2 : (7 : Int) ≤ (q : Int) := by omega
          have t2 : ((q : Int) - 7).toNat = q - 7 := by omega
          have w3' : IntKind.i64.wrap ((q : Int) - 15) = (q : Int) - 15 := wrap_i64_in _ (by omega) (by omega)
          have r3 : (15 : Int) ≤ (q : Int) := by omega
          have t3 : ((q : Int) - 15).toNat = q - 15 := by omega
          have w4' : IntKind.i64.wrap ((q : Int) - 2) = (q : Int) - 2 := wrap_i64_in _ (by omega) (by omega)
          have r4 : (2 : Int) ≤ (q : Int) := by omega
          have t4 : ((q : Int) - 2).toNat = q - 2 := by omega
          go_wp2_with fail
          go_region_held3 (fun w' => w'.cell? ⟨g3, q - 2, none⟩ = some (.int .u32 (x2.toNat : Int)) ∧ w'.cell? ⟨g3, q - 15, none⟩ = some (.int .u32 (x15.toNat : Int))) (exact ⟨c2, c15⟩) (fail)
          go_wp2_with (go_at_call 112; refine (rot_any _ _ (by omega) (by omega) _).mono ?_; rintro e w' ⟨rfl, rfl⟩)
          rw [far_form, near_form]
          generalize hs0 : sumFar x15 = sf at *
          generalize hs1 : sumNear x2 = sn at *
          have HS : Hid (sumFar x15 = sf ∧ sumNear x2 = sn) := ⟨hs0, hs1⟩
          clear hs0 hs1
          go_region_held3 (fun w' => w'.cell? ⟨g3, q - 7, none⟩ = some (.int .u32 (x7.toNat : Int)) ∧ w'.cell? ⟨g3, q - 16, none⟩ = some (.int .u32 (x16.toNat : Int))) (first | exact ⟨c7, c16⟩ | exact ⟨(cell_set_ne _ _ _ _ _ (by omega)).trans c7, (cell_set_ne _ _ _ _ _ (by omega)).trans c16⟩) (fail)
          rw [wrap_add, wrap_add, wrap_add]
          generalize hv : sn + x7 + sf + x16 = nv
          have HV : Hid (sn + x7 + sf + x16 = nv) := hv
          clear hv
          go_wp2
          go_roundw
          case rel =>
            have e := arr_hi kb q x16 x15 x7 x2 hq16 hlt HB.out
            rw [HS.out.1, HS.out.2, wrap_add, wrap_add, wrap_add, HV.out] at e
            (repeat apply Exists.intro)
            refine ⟨⟨q + 1, by omega, by omega, by go_num, ?_, ?_⟩, rfl⟩
            · rw [← e]; exact (hrow.set q (by omega) _).drew.drew
            · exact grownBy_drewR (grownBy_drewR (grownBy_trans hgr (grownBy_setCell _ _ _ _)))
          case measure => simp [intOf]; omega
        · obtain rfl : q = 64 := by omega
          have hR2 : Row wr w.heap.size g2 64 64 (zeros32.map U) := HR2.kept hgr (by simp; omega)
          rw [arr_full] at hrow
          have hln : ((sched kb 64).map U).length = 64 := by rw [List.length_map, sched_length]
          have h1c : ∀ v ∈ (sched kb 64).map U, v.oneCell' = true := by
            intro v hv
            obtain ⟨x, _, rfl⟩ := List.mem_map.1 hv
            rfl
          have HF : Hid (∀ N, N = 64 → Row wr w2.heap.size g3 64 64 ((sched kb N).map U) ∧ ((sched kb N).map U).length = 64 ∧ ∀ v ∈ (sched kb N).map U, v.oneCell' = true) := fun N hN => by subst hN; exact ⟨hrow, hln, h1c⟩
          clear hrow hln h1c
          obtain ⟨L, hL⟩ : ∃ L, (sched kb 64).map U = L := ⟨_, rfl⟩
          have HL : Hid (∀ N, N = 64 → (sched kb N).map U = L) := fun N hN => by subst hN; exact hL
          have F := HF.out 64 rfl
          rw [hL] at F
          obtain ⟨F1, F2, F3⟩ := F
          clear hL HF
          go_wp2_with (first | (refine wpList_load_whole _ rfl 166 (.tmp 3) rfl w2.heap.size g3 64 64 L 130 rfl F1 Tryz.underlying166 size46 ?_) | (refine wpList_store_whole _ rfl rfl 166 (.tmp 2) (.tmp 100) rfl w.heap.size g2 64 (zeros32.map U) L rfl rfl hR2 F2 size46 F3 ?_; intro w5 hR5 hg5))
          refine ret_row _ (p := 2) (ty := 166) rfl w.heap.size g2 64 64 L 130 rfl hR5 Tryz.underlying166 size46 rfl ?_
          refine ⟨?_, ?_⟩
          · rw [← HL.out 64 rfl]
          · exact (hbw.trans (below_of_grown hgr (by omega) (by omega))).trans (below_of_grown hg5 (by omega) (by have := hgr.size; omega))
theorem ch_form2 (e f g : UInt32) : bits BinOp.xor IntKind.u32 (bits BinOp.and IntKind.u32 (e.toNat : Int) (f.toNat : Int)) (bits BinOp.and IntKind.u32 (bits BinOp.xor IntKind.u32 IntKind.u32.max (e.toNat : Int)) (g.toNat : Int)) = ((ch e f g).toNat : Int) := ch_form e f g
theorem size41 : (Tryz.prog.info? 159).map (·.size) = some 8 := by kernel_rfl
theorem size24 : (Tryz.prog.info? 130).map (·.size) = some 1 := by kernel_rfl

theorem mix_any (b : Nat) (x0 x1 x2 x3 x4 x5 x6 x7 : UInt32) (kb : List UInt8) (held size : Nat) (w : World) (H : Hsh w b [x0, x1, x2, x3, x4, x5, x6, x7] kb held size) (_hb0 : b ≠ 0)
    (hK : ∀ j, j < 64 → w.cell? ⟨0, j, none⟩ = some (.int .u32 ((kTab.getD j 0).toNat : Int))) :
    Calls Tryz.prog 106 #[.pointer (some ⟨b, 0, none⟩)] w fun e w' => e = .returned (.tuple #[]) ∧ Hsh w' b (comp [x0, x1, x2, x3, x4, x5, x6, x7] kb) kb 0 size ∧ w.grownBy w' (some b) := by
  have hbl := H.lt
  have hl0 : 0 < w.heap.size := by omega
  have hWl := sched_length kb 64
  have h1c : ∀ v ∈ (sched kb 64).map U, v.oneCell' = true := by
    intro v hv
    obtain ⟨x, _, rfl⟩ := List.mem_map.1 hv
    rfl
  have hsa := isched_any b [x0, x1, x2, x3, x4, x5, x6, x7] kb held size w H
  obtain ⟨W, hW⟩ : ∃ W, sched kb 64 = W := ⟨_, rfl⟩
  rw [hW] at hWl h1c hsa
  have HW : Hid (∀ N, N = 64 → sched kb N = W) := fun N hN => by rw [hN]; exact hW
  clear hW
  have hLW : (W.map U).length = 64 := by rw [List.length_map, hWl]
  obtain ⟨L, hL⟩ : ∃ L, W.map U = L := ⟨_, rfl⟩
  have HL : Hid (W.map U = L) := hL
  rw [hL] at hLW h1c hsa
  clear hL
  go_enter Tryz.func106, Tryz.ntmps106
  go_wp2_with fail
  refine hsa.mono ?_
  rintro e w1 ⟨rfl, hb1⟩
  clear hsa
  have hs1 := hb1.size
  go_wp2_with (first | (refine wpList_alloc_row _ rfl (some 2) rfl 166 166 rfl (zeros32.map U) alloc46 ?_; intro g2 w2 hr2 hb2) | (refine wpList_store_whole _ rfl rfl 166 (.tmp 2) (.tmp 21) rfl w1.heap.size g2 64 (zeros32.map U) L rfl rfl hr2 hLW size46 h1c ?_; intro w3 hr3 hg3))
  have hg2l := hr2.ge
  have hg2g := hr2.lt
  have hs2 := hb2.size
  have hs3 := hg3.size
  have H3 : Hsh w3 b [x0, x1, x2, x3, x4, x5, x6, x7] kb held size := ((H.below hb1).below hb2).kept hg3 (by simp; omega)
  have hB3 : Below w.heap.size w w3 := (hb1.trans (hb2.mono hs1)).trans (below_of_grown hg3 (by omega) (by omega))
  have hK3 : ∀ j, j < 64 → w3.cell? ⟨0, j, none⟩ = some (.int .u32 ((kTab.getD j 0).toNat : Int)) := fun j hj => (hB3.cell (by exact hl0)).trans (hK j hj)
  have hC3 : ∀ j, j < 64 → w3.cell? ⟨g2, j, none⟩ = some (.int .u32 ((W.getD j 0).toNat : Int)) := by rw [← HL.out] at hr3; exact fun j hj => row_u hr3 j hj
  have HK : Hid (∀ j, j < 64 → w3.cell? ⟨0, j, none⟩ = some (.int .u32 ((kTab.getD j 0).toNat : Int))) := hK3
  have HC : Hid (∀ j, j < 64 → w3.cell? ⟨g2, j, none⟩ = some (.int .u32 ((W.getD j 0).toNat : Int))) := hC3
  have c0 : w3.cell? ⟨b, 0, none⟩ = some (.int .u32 (x0.toNat : Int)) := H3.hs 0 (by omega)
  have c1 : w3.cell? ⟨b, 1, none⟩ = some (.int .u32 (x1.toNat : Int)) := H3.hs 1 (by omega)
  have c2 : w3.cell? ⟨b, 2, none⟩ = some (.int .u32 (x2.toNat : Int)) := H3.hs 2 (by omega)
  have c3 : w3.cell? ⟨b, 3, none⟩ = some (.int .u32 (x3.toNat : Int)) := H3.hs 3 (by omega)
  have c4 : w3.cell? ⟨b, 4, none⟩ = some (.int .u32 (x4.toNat : Int)) := H3.hs 4 (by omega)
  have c5 : w3.cell? ⟨b, 5, none⟩ = some (.int .u32 (x5.toNat : Int)) := H3.hs 5 (by omega)
  have c6 : w3.cell? ⟨b, 6, none⟩ = some (.int .u32 (x6.toNat : Int)) := H3.hs 6 (by omega)
  have c7 : w3.cell? ⟨b, 7, none⟩ = some (.int .u32 (x7.toNat : Int)) := H3.hs 7 (by omega)
  have hl3 : g2 < w3.heap.size := by omega
  have hl30 : 0 < w3.heap.size := by omega
  clear hK hK3 hC3 hr2 hr3 hg3 hb2 hb1 h1c hLW HL H
  go_region_held3 (fun w' => w'.cell? ⟨b, 0, none⟩ = some (.int .u32 (x0.toNat : Int)) ∧ w'.cell? ⟨b, 1, none⟩ = some (.int .u32 (x1.toNat : Int)) ∧ w'.cell? ⟨b, 2, none⟩ = some (.int .u32 (x2.toNat : Int)) ∧ w'.cell? ⟨b, 3, none⟩ = some (.int .u32 (x3.toNat : Int))) (exact ⟨c0, c1, c2, c3⟩) (fail)
  go_wp2_with fail
  go_region_held3 (fun w' => w'.cell? ⟨b, 4, none⟩ = some (.int .u32 (x4.toNat : Int)) ∧ w'.cell? ⟨b, 5, none⟩ = some (.int .u32 (x5.toNat : Int)) ∧ w'.cell? ⟨b, 6, none⟩ = some (.int .u32 (x6.toNat : Int)) ∧ w'.cell? ⟨b, 7, none⟩ = some (.int .u32 (x7.toNat : Int))) (exact ⟨c4, c5, c6, c7⟩) (fail)
  go_wp2_with fail
  go_loopw [3, 4, 5, 6, 7, 8, 9, 10, 11] (fun ta tb tc td te tf tg tz i wr => ∃ (k : Nat) (va vb vc vd ve vf vg vz : UInt32), k ≤ 64 ∧ i = .int .i64 k ∧ Hid (rnds W ⟨x0, x1, x2, x3, x4, x5, x6, x7⟩ k = ⟨va, vb, vc, vd, ve, vf, vg, vz⟩) ∧ ta = .int .u32 (va.toNat : Int) ∧ tb = .int .u32 (vb.toNat : Int) ∧ tc = .int .u32 (vc.toNat : Int) ∧ td = .int .u32 (vd.toNat : Int) ∧ te = .int .u32 (ve.toNat : Int) ∧ tf = .int .u32 (vf.toNat : Int) ∧ tg = .int .u32 (vg.toNat : Int) ∧ tz = .int .u32 (vz.toNat : Int) ∧ Below w3.heap.size w3 wr) (fun _ _ _ _ _ _ _ _ i _ => 64 - (intOf i).toNat)
  case atStart => exact ⟨0, x0, x1, x2, x3, x4, x5, x6, x7, Nat.zero_le _, rfl, rfl, rfl, rfl, rfl, rfl, rfl, rfl, rfl, rfl, (Below.refl _ _).drew.drew⟩
  case round =>
    obtain ⟨k, va, vb, vc, vd, ve, vf, vg, vz, hk, rfl, HST, rfl, rfl, rfl, rfl, rfl, rfl, rfl, rfl, hb2⟩ := hrel
    by_cases hlt : k < 64
    · obtain ⟨kk, hkk⟩ : ∃ x, kTab.getD k 0 = x := ⟨_, rfl⟩
      obtain ⟨ww, hww⟩ : ∃ x, W.getD k 0 = x := ⟨_, rfl⟩
      have ck : wr.cell? ⟨0, k, none⟩ = some (.int .u32 (kk.toNat : Int)) := by rw [← hkk]; exact (hb2.cell hl30).trans (HK.out k hlt)
      have cw : wr.cell? ⟨g2, k, none⟩ = some (.int .u32 (ww.toNat : Int)) := by rw [← hww]; exact (hb2.cell hl3).trans (HC.out k hlt)
      have HKW : Hid (kTab.getD k 0 = kk ∧ W.getD k 0 = ww) := ⟨hkk, hww⟩
      clear hkk hww
      have q0 : (0 : Int) ≤ (k : Int) := by omega
      have q1 : (k : Int) < 64 := by omega
      go_wp2_with (go_at_call 112; refine (rot_any _ _ (by omega) (by omega) _).mono ?_; rintro e w' ⟨rfl, rfl⟩)
      rw [sumE_form, sumA_form, ch_form2, maj_form]
      go_region_held3 (fun w' => w'.cell? ⟨0, k, none⟩ = some (.int .u32 (kk.toNat : Int)) ∧ w'.cell? ⟨g2, k, none⟩ = some (.int .u32 (ww.toNat : Int))) (exact ⟨ck, cw⟩) (fail)
      go_wp2
      go_roundw
      case rel =>
        have HR := rnds_succ W _ k kk ww _ HST.out HKW.out
        simp only [u_add]
        exact ⟨k + 1, _, _, _, _, _, _, _, _, by omega, by go_num, HR, rfl, rfl, rfl, rfl, rfl, rfl, rfl, rfl, by first | exact hb2.drew | exact hb2⟩
      case measure => simp [intOf]; omega
    · obtain rfl : k = 64 := by omega
      obtain ⟨w4, rfl⟩ : ∃ w4, w4 = wr := ⟨_, rfl⟩
      have H4 : Hsh w4 b [x0, x1, x2, x3, x4, x5, x6, x7] kb held size := H3.below hb2
      have HST' : Hid (∀ N, N = 64 → rnds W ⟨x0, x1, x2, x3, x4, x5, x6, x7⟩ N = ⟨va, vb, vc, vd, ve, vf, vg, vz⟩) := fun N hN => by rw [hN]; exact HST
      clear HST c0 c1 c2 c3 c4 c5 c6 c7 H3 HK HC
      have hg4 : w.grownBy w4 (some b) := grownBy_of_below (hB3.trans (hb2.mono (by omega))) _
      go_wp2_with fail
      go_loopw [138] (fun t wr => ∃ i : Nat, i ≤ 8 ∧ t = .int .i64 (i : Int) ∧ Hsh wr b (addTo [x0, x1, x2, x3, x4, x5, x6, x7] [va, vb, vc, vd, ve, vf, vg, vz] i) kb held size ∧ w.grownBy wr (some b)) (fun t _ => 8 - (intOf t).toNat)
      case atStart => exact ⟨0, by omega, rfl, H4, hg4⟩
      case round =>
        clear H4 hg4 hb2
        obtain ⟨i, hi, rfl, HH, hgr⟩ := hrel
        by_cases hlt : i < 8
        · obtain ⟨x, hx⟩ : ∃ x, (addTo [x0, x1, x2, x3, x4, x5, x6, x7] [va, vb, vc, vd, ve, vf, vg, vz] i).getD i 0 = x := ⟨_, rfl⟩
          obtain ⟨y, hy⟩ : ∃ y, [va, vb, vc, vd, ve, vf, vg, vz].getD i 0 = y := ⟨_, rfl⟩
          have cx : wr.cell? ⟨b, i, none⟩ = some (.int .u32 (x.toNat : Int)) := by rw [← hx]; exact HH.hs i hlt
          have cf := HH.fr i (by omega)
          have HXY : Hid ((addTo [x0, x1, x2, x3, x4, x5, x6, x7] [va, vb, vc, vd, ve, vf, vg, vz] i).getD i 0 = x ∧ [va, vb, vc, vd, ve, vf, vg, vz].getD i 0 = y) := ⟨hx, hy⟩
          clear hx hy
          have q0 : (0 : Int) ≤ (i : Int) := by omega
          have q1 : (i : Int) < 8 := by omega
          go_wp2_with (refine wpList_index_u _ rfl 159 (.tmp 137) (.tmp 138) rfl [va, vb, vc, vd, ve, vf, vg, vz] 8 130 i rfl rfl rfl hlt Tryz.underlying159 Tryz.underlying130 size24 ?_; rw [HXY.out.2])
          go_region
          go_wp2
          go_roundw
          case rel =>
            have e : addTo [x0, x1, x2, x3, x4, x5, x6, x7] [va, vb, vc, vd, ve, vf, vg, vz] (i + 1) = (addTo [x0, x1, x2, x3, x4, x5, x6, x7] [va, vb, vc, vd, ve, vf, vg, vz] i).set i (x + y) := by rw [addTo, HXY.out.1, HXY.out.2]
            have hw2 := u_add x y
            simp only [hw2]
            first
              | exact ⟨i + 1, by omega, by go_num, by rw [e]; exact (HH.setWord i hlt (x + y)).drew, grownBy_drewR (grownBy_trans hgr (grownBy_setCell _ _ _ _))⟩
              | ((repeat apply Exists.intro); exact ⟨⟨i + 1, by omega, by go_num, by rw [e]; exact (HH.setWord i hlt (x + y)).drew, grownBy_drewR (grownBy_trans hgr (grownBy_setCell _ _ _ _))⟩, rfl⟩)
          case measure => simp [intOf]; omega
        · obtain rfl : i = 8 := by omega
          have cd := HH.hd
          have cf := HH.fr 72 (by omega)
          go_wp2
          go_end0
          refine ⟨rfl, ?_, grownBy_trans hgr (grownBy_setCell _ _ _ _)⟩
          rw [← addTo_comp kb W x0 x1 x2 x3 x4 x5 x6 x7 va vb vc vd ve vf vg vz (HW.out 64 rfl) (HST'.out 64 rfl)]
          exact HH.setHeld 0
end Go.Proofs.YtmfhfehemoeeeaaGreatDoor
namespace Go.Proofs.Sha
open Go Go.RowKit

def heldOf (w : World) (b : Nat) : Nat := (intOf ((w.cell? ⟨b, 72, none⟩).getD undef)).toNat
theorem Hsh.heldOf {w : World} {b : Nat} {h : List UInt32} {k : List UInt8} {held size : Nat} (H : Hsh w b h k held size) : heldOf w b = held := by
  unfold Sha.heldOf; rw [H.hd]; simp [intOf]

/-- n zeros from place p on. -/
def zf (k : List UInt8) (p : Nat) : Nat → List UInt8
  | 0 => k
  | n + 1 => (zf k p n).set (p + n) 0
theorem zf_length (k : List UInt8) (p n : Nat) : (zf k p n).length = k.length := by
  induction n with
  | zero => rfl
  | succ n ih => rw [zf, List.length_set, ih]
theorem zf_getD (k : List UInt8) (p n j : Nat) (hn : p + n ≤ k.length) : (zf k p n).getD j 0 = if p ≤ j ∧ j < p + n then 0 else k.getD j 0 := by
  induction n with
  | zero => rw [zf, if_neg (by omega)]
  | succ n ih =>
    rw [zf, getD_set _ _ _ _ _ (by rw [zf_length]; omega), ih (by omega)]
    by_cases e : j = p + n
    · rw [if_pos e, if_pos (by omega)]
    · rw [if_neg e]
      by_cases e2 : p ≤ j ∧ j < p + n
      · rw [if_pos e2, if_pos (by omega)]
      · rw [if_neg e2, if_neg (by omega)]


def outArr (h : List UInt32) (i : Nat) : List UInt8 := outTo h i ++ List.replicate (32 - 4 * i) 0
theorem set4 {α : Type} (A R : List α) (n : Nat) (hn : A.length = n) (z0 z1 z2 z3 a b c d : α) :
    ((((A ++ z0 :: z1 :: z2 :: z3 :: R).set n a).set (n + 1) b).set (n + 2) c).set (n + 3) d = (A ++ [a, b, c, d]) ++ R := by
  subst hn
  rw [List.set_append_right _ _ (Nat.le_refl _), List.set_append_right _ _ (by omega), List.set_append_right _ _ (by omega), List.set_append_right _ _ (by omega)]
  simp
theorem outArr_succ (h : List UInt32) (i : Nat) (x : UInt32) (hi : i < 8) (hx : h.getD i 0 = x) :
    (((((outArr h i).map B).set (4 * i) (.int .u8 ((byteAt x 3).toNat : Int))).set (4 * i + 1) (.int .u8 ((byteAt x 2).toNat : Int))).set (4 * i + 2) (.int .u8 ((byteAt x 1).toNat : Int))).set (4 * i + 3) (.int .u8 ((byteAt x 0).toNat : Int)) = (outArr h (i + 1)).map B := by
  have e : 32 - 4 * i = (32 - 4 * (i + 1)) + 4 := by omega
  show ((((_ : List Value).set (4 * i) (B (byteAt x 3))).set (4 * i + 1) (B (byteAt x 2))).set (4 * i + 2) (B (byteAt x 1))).set (4 * i + 3) (B (byteAt x 0)) = _
  rw [← List.map_set, ← List.map_set, ← List.map_set, ← List.map_set, outArr, e, outArr, outTo, hx]
  congr 1
  exact set4 (outTo h i) _ (4 * i) (outTo_length h i) 0 0 0 0 _ _ _ _
theorem outArr_full (h : List UInt32) : outArr h 8 = outTo h 8 := by simp [outArr]
theorem byteAt_mod (x : UInt32) (i : Nat) : ((x.toNat : Int) / 2 ^ (8 * i)) % 256 = ((byteAt x i).toNat : Int) := by
  have := byteAt_form x i; rw [IntKind.wrap_u8'] at this; exact this
theorem byteM3 (x : UInt32) : (x.toNat : Int) / (16777216 : Int) % 256 = ((byteAt x 3).toNat : Int) := byteAt_mod x 3
theorem byteM2 (x : UInt32) : (x.toNat : Int) / (65536 : Int) % 256 = ((byteAt x 2).toNat : Int) := byteAt_mod x 2
theorem byteM1 (x : UInt32) : (x.toNat : Int) / (256 : Int) % 256 = ((byteAt x 1).toNat : Int) := byteAt_mod x 1
theorem byteM0 (x : UInt32) : (x.toNat : Int) % 256 = ((byteAt x 0).toNat : Int) := by
  have := byteAt_mod x 0
  simpa using this


end Go.Proofs.Sha
