import Derived.Test.YtngnbflkiiehmaaGreatDoorProg
import Derived.Test.YtngnbflkiiehmaaGreatDoorZa
import Derived.WalkSpells
import Derived.WalkLawsBesides
import Derived.StillTactics
import Derived.Laws.Pointers
import Derived.Deep.RegionHeld3
namespace Go.Proofs.YtngnbflkiiehmaaGreatDoor
open Go.RowKit Go.Proofs.Sha

theorem info24 : (Tryz.prog.info? 77).map (fun i => (i.zero, i.size, i.bytes)) = some (some (.int .u32 0), 1, 4) := by kernel_rfl

set_option maxHeartbeats 400000 in
theorem turn_any (x : UInt32) (n : Int) (h1 : 1 ≤ n) (h2 : n ≤ 31) (w : World) :
    Calls Tryz.prog 57 #[.int .u32 x.toNat, .int .i64 n] w fun e w' => e = .returned (.int .u32 (turn x n.toNat).toNat) ∧ w = w' := by
  obtain ⟨m, rfl⟩ := Int.eq_ofNat_of_zero_le (show 0 ≤ n by omega)
  rw [Int.toNat_natCast]
  go_enter Tryz.func57, Tryz.ntmps57
  go_wp2
  go_ret
  exact ⟨ret_int (turn_spec x m), rfl⟩

set_option maxRecDepth 100000 in
set_option maxHeartbeats 400000 in
theorem schedule_any (m : List UInt8) (mb mc fr : Nat) (w : World) (hl : m.length ≤ 2000000) (hf : fr + 64 ≤ m.length)
    (hc : ∀ j, j < m.length → w.cell? ⟨mb, j, none⟩ = some (.int .u8 ((m.getD j 0).toNat : Int))) :
    Calls Tryz.prog 56 #[.slice (some ⟨mb, 0, none⟩) m.length mc, .int .i64 fr] w fun e w' => ∃ g cap, e = .returned (.slice (some ⟨g, 0, none⟩) 64 cap) ∧ w'.ownsRow w.heap.size 77 1 (.slice (some ⟨g, 0, none⟩) 64 cap) 64 ((sched (m.drop fr) 64).map U) ∧ Below w.heap.size w w' := by
  obtain ⟨i0, hi0, hz0, hz1, hz2⟩ := info_parts info24
  have hmb : mb < w.heap.size := World.block_lt_of_cell? w _ (hc 0 (by omega))
  go_enter Tryz.func56, Tryz.ntmps56
  go_wp2_with fail
  go_loopw [5, 6] (fun v i wr => ∃ k g cap : Nat, k ≤ 16 ∧ i = .int .i64 k ∧ v = .slice (some ⟨g, 0, none⟩) k cap ∧ wr.ownsRow w.heap.size 77 1 (.slice (some ⟨g, 0, none⟩) k cap) k ((sched (m.drop fr) k).map U) ∧ Below w.heap.size w wr) (fun _ i _ => 16 - (intOf i).toNat)
  case atStart => exact ⟨0, w.heap.size, 0, Nat.zero_le _, rfl, rfl, World.ownsRow_made w #[] 0 (Nat.le_refl _) (by decide) rfl, (Below.refl _ _).alloc (Nat.le_refl _) _⟩
  case round =>
    obtain ⟨k, g, cap, hk, rfl, rfl, hown, hbel⟩ := hrel
    have hsz := hbel.size
    by_cases hlt : k < 16
    · obtain ⟨p, hp⟩ : ∃ p, p = fr + 4 * k := ⟨_, rfl⟩
      have hpl : p + 3 < m.length := by omega
      have c0 : wr.cell? ⟨mb, p, none⟩ = some (.int .u8 ((m.getD p 0).toNat : Int)) := (hbel.cell hmb).trans (hc _ (by omega))
      have c1 : wr.cell? ⟨mb, p + 1, none⟩ = some (.int .u8 ((m.getD (p + 1) 0).toNat : Int)) := (hbel.cell hmb).trans (hc _ (by omega))
      have c2 : wr.cell? ⟨mb, p + 2, none⟩ = some (.int .u8 ((m.getD (p + 2) 0).toNat : Int)) := (hbel.cell hmb).trans (hc _ (by omega))
      have c3 : wr.cell? ⟨mb, p + 3, none⟩ = some (.int .u8 ((m.getD (p + 3) 0).toNat : Int)) := (hbel.cell hmb).trans (hc _ (by omega))
      generalize hb0 : m.getD p 0 = b0 at *
      generalize hb1 : m.getD (p + 1) 0 = b1 at *
      generalize hb2 : m.getD (p + 2) 0 = b2 at *
      generalize hb3 : m.getD (p + 3) 0 = b3 at *
      have HB : Hid (m.getD p 0 = b0 ∧ m.getD (p + 1) 0 = b1 ∧ m.getD (p + 2) 0 = b2 ∧ m.getD (p + 3) 0 = b3) := ⟨hb0, hb1, hb2, hb3⟩
      clear hb0 hb1 hb2 hb3
      have hge : w.heap.size ≤ g := (hown.lt g rfl).1
      have hne : some mb ≠ some g := by simp; omega
      go_wp2_with fail
      rw [show (fr : Int) + 4 * (k : Int) = (p : Int) from by omega]
      have q0 : (0 : Int) ≤ (p : Int) := by omega
      have q1 : (p : Int) < (m.length : Int) := by omega
      have q2 : (p : Int) + 1 < (m.length : Int) := by omega
      have q3 : (p : Int) + 2 < (m.length : Int) := by omega
      have q4 : (p : Int) + 3 < (m.length : Int) := by omega
      have w1 : IntKind.i64.wrap ((p : Int) + 1) = (p : Int) + 1 := wrap_i64_in _ (by omega) (by omega)
      have r1 : (0 : Int) ≤ (p : Int) + 1 := by omega
      have t1 : ((p : Int) + 1).toNat = p + 1 := by omega
      have w2 : IntKind.i64.wrap ((p : Int) + 2) = (p : Int) + 2 := wrap_i64_in _ (by omega) (by omega)
      have r2 : (0 : Int) ≤ (p : Int) + 2 := by omega
      have t2 : ((p : Int) + 2).toNat = p + 2 := by omega
      have w3 : IntKind.i64.wrap ((p : Int) + 3) = (p : Int) + 3 := wrap_i64_in _ (by omega) (by omega)
      have r3 : (0 : Int) ≤ (p : Int) + 3 := by omega
      have t3 : ((p : Int) + 3).toNat = p + 3 := by omega
      have HP : Hid (p = fr + 4 * k) := hp
      clear hp
      go_region_held3 (fun w' => w'.cell? ⟨mb, p, none⟩ = some (.int .u8 (b0.toNat : Int)) ∧ w'.cell? ⟨mb, p + 1, none⟩ = some (.int .u8 (b1.toNat : Int)) ∧ w'.cell? ⟨mb, p + 2, none⟩ = some (.int .u8 (b2.toNat : Int)) ∧ w'.cell? ⟨mb, p + 3, none⟩ = some (.int .u8 (b3.toNat : Int)))
        (first | go_keep | (go_split_ands; refine ⟨?_, ?_, ?_, ?_⟩ <;> (rw [hgrow.cell_far _ (by simp; omega) hne]; assumption)))
        ((refine step_append_keep _ (by rfl) _ _ _ (by rfl) w.heap.size 77 i0 _ 1 4 Tryz.underlying78 hi0 hz0 hz1 hz2 rfl (by omega) g k cap _ (by rfl) ((hown.alloc _).drew) ⟨wr.heap.size, 0, none⟩ 1 1 [_] (by rfl) (by rfl) (World.news_of_block (heap_alloc_new wr _)) (by simp [Value.oneCell']) (by omega) (by unfold maxLen; omega) (by omega) (by simp; omega) (wr.heap.size + 1) (by simp) ?_; intro gg cap' wx hown1 hgrow hat hlt1 hold))
      go_wp2
      go_roundw
      case rel =>
        rw [← sched_lo m fr k p b0 b1 b2 b3 hlt HP.out HB.out] at hown1
        exact ⟨k + 1, gg, cap', by omega, by go_num, rfl, hown1, (hbel.alloc hsz _).drew.grown hgrow (by simp; omega) (fun q hq => by cases hq; exact hge)⟩
      case measure => simp [intOf]; omega
    · obtain rfl : k = 16 := by omega
      go_wp2_with fail
      go_loopw [5, 8] (fun v i wr => ∃ k g cap : Nat, 16 ≤ k ∧ k ≤ 64 ∧ i = .int .i64 k ∧ v = .slice (some ⟨g, 0, none⟩) k cap ∧ wr.ownsRow w.heap.size 77 1 (.slice (some ⟨g, 0, none⟩) k cap) k ((sched (m.drop fr) k).map U) ∧ Below w.heap.size w wr) (fun _ i _ => 64 - (intOf i).toNat)
      case atStart => exact ⟨16, g, cap, by omega, by omega, rfl, rfl, hown, hbel⟩
      case round =>
        clear hown hbel hsz
        obtain ⟨k, g, cap, h16, hk, rfl, rfl, hown, hbel⟩ := hrel
        have hsz := hbel.size
        have hge : w.heap.size ≤ g := (hown.lt g rfl).1
        by_cases hlt : k < 64
        · have c15 := own_u hown (sched_length _ _) (k - 15) (by omega)
          have c2 := own_u hown (sched_length _ _) (k - 2) (by omega)
          have c16 := own_u hown (sched_length _ _) (k - 16) (by omega)
          have c7 := own_u hown (sched_length _ _) (k - 7) (by omega)
          generalize h15 : (sched (m.drop fr) k).getD (k - 15) 0 = x15 at *
          generalize h2 : (sched (m.drop fr) k).getD (k - 2) 0 = x2 at *
          generalize h16' : (sched (m.drop fr) k).getD (k - 16) 0 = x16 at *
          generalize h7 : (sched (m.drop fr) k).getD (k - 7) 0 = x7 at *
          have HB : Hid ((sched (m.drop fr) k).getD (k - 16) 0 = x16 ∧ (sched (m.drop fr) k).getD (k - 15) 0 = x15 ∧ (sched (m.drop fr) k).getD (k - 7) 0 = x7 ∧ (sched (m.drop fr) k).getD (k - 2) 0 = x2) := ⟨h16', h15, h7, h2⟩
          clear h15 h2 h16' h7
          go_wp2_with (go_at_call 57; refine (turn_any _ _ (by omega) (by omega) _).mono ?_; rintro e w' ⟨rfl, rfl⟩)
          rw [far_form, near_form]
          generalize hs0 : sumFar x15 = sf at *
          generalize hs1 : sumNear x2 = sn at *
          have HS : Hid (sumFar x15 = sf ∧ sumNear x2 = sn) := ⟨hs0, hs1⟩
          clear hs0 hs1
          have q1 : (k : Int) - 16 < (k : Int) := by omega
          have q2 : (k : Int) - 7 < (k : Int) := by omega
          have w1 : IntKind.i64.wrap ((k : Int) - 16) = (k : Int) - 16 := wrap_i64_in _ (by omega) (by omega)
          have r1 : (16 : Int) ≤ (k : Int) := by omega
          have t1 : ((k : Int) - 16).toNat = k - 16 := by omega
          have w2 : IntKind.i64.wrap ((k : Int) - 7) = (k : Int) - 7 := wrap_i64_in _ (by omega) (by omega)
          have r2 : (7 : Int) ≤ (k : Int) := by omega
          have t2 : ((k : Int) - 7).toNat = k - 7 := by omega
          go_region_held3 (fun w' => w'.cell? ⟨g, k - 16, none⟩ = some (.int .u32 (x16.toNat : Int)) ∧ w'.cell? ⟨g, k - 7, none⟩ = some (.int .u32 (x7.toNat : Int)))
            (first | go_keep | (go_split_ands; refine ⟨?_, ?_⟩ <;> (rw [hold _ (by omega)]; assumption)))
            ((refine step_append_keep _ (by rfl) _ _ _ (by rfl) w.heap.size 77 i0 _ 1 4 Tryz.underlying78 hi0 hz0 hz1 hz2 rfl (by omega) g k cap _ (by rfl) ((hown.alloc _).drew) ⟨wr.heap.size, 0, none⟩ 1 1 [_] (by rfl) (by rfl) (World.news_of_block (heap_alloc_new wr _)) (by simp [Value.oneCell']) (by omega) (by unfold maxLen; omega) (by omega) (by simp; omega) (wr.heap.size + 1) (by simp) ?_; intro gg cap' wx hown1 hgrow hat hlt1 hold))
          go_wp2
          go_roundw
          case rel =>
            rw [← HS.out.1, ← HS.out.2, ← sched_hi (m.drop fr) k x16 x15 x7 x2 h16 HB.out] at hown1
            (repeat apply Exists.intro)
            exact ⟨⟨k + 1, gg, cap', by omega, by omega, by go_num, rfl, hown1, (hbel.alloc hsz _).drew.grown hgrow (by simp; omega) (fun q hq => by cases hq; exact hge)⟩, rfl⟩
          case measure => simp [intOf]; omega
        · go_wp2
          go_ret
          obtain rfl : k = 64 := by omega
          exact ⟨g, cap, rfl, hown, hbel⟩
end Go.Proofs.YtngnbflkiiehmaaGreatDoor
namespace Go.Proofs.YtngnbflkiiehmaaGreatDoor
open Go.RowKit Go.Proofs.Sha

theorem info5 : (Tryz.prog.info? 5).map (fun i => (i.zero, i.size, i.bytes)) = some (some (.int .u8 0), 1, 1) := by kernel_rfl

set_option maxRecDepth 100000 in
set_option maxHeartbeats 400000 in
theorem padded_any (s : ByteArray) (w : World) (hs : s.size ≤ 1048576) :
    Calls Tryz.prog 48 #[.string s] w fun e w' => ∃ g cap, e = .returned (.slice (some ⟨g, 0, none⟩) (pad s.data.toList).length cap) ∧ Row w' w.heap.size g (pad s.data.toList).length cap ((pad s.data.toList).map B) ∧ Below w.heap.size w w' := by
  obtain ⟨i0, hi0, hz0, hz1, hz2⟩ := info_parts info5
  have hl : s.data.toList.length = s.size := rfl
  go_enter Tryz.func48, Tryz.ntmps48
  go_wp2_with (first | (refine wpList_bytes_row _ rfl (.tmp 6) 9 22 5 rfl s rfl Tryz.underlying9 Tryz.underlying22 Tryz.underlying5 ?_; intro g0 cap0 w0 hrow0 hbel0) | (at_builtin; refine wpList_append_row _ rfl (.tmp 8) (.tmp 9) 22 rfl 5 i0 (.int .u8 0) 1 Tryz.underlying22 hi0 hz0 hz1 hz2 rfl w.heap.size g0 s.size cap0 _ rfl (hrow0.alloc _) ⟨w0.heap.size, 0, none⟩ 1 1 [.int .u8 128] rfl rfl (World.news_of_block (heap_alloc_new w0 _)) (by simp [Value.oneCell']) (by unfold maxLen; omega) (by omega) (by have := hbel0.size; simp; omega) (w0.heap.size + 1) (by simp) ?_; intro g1 cap1 w1 hrow1 hgrow1 _ _))
  have hbel1 : Below w.heap.size w w1 := (hbel0.alloc hbel0.size _).grown hgrow1 (by have := hbel0.size; simp; omega) (fun q hq => by cases hq; exact hrow0.ge)
  have hrow1' : Row w1 w.heap.size g1 (s.size + 1 + 0) cap1 ((s.data.toList ++ [128] ++ List.replicate 0 0).map B) := by simpa [B] using hrow1
  clear hgrow1 hrow1 hrow0 hbel0
  go_loopw [3] (fun v wr => ∃ j g cap : Nat, j ≤ zpad s.size ∧ v = .slice (some ⟨g, 0, none⟩) (s.size + 1 + j) cap ∧ Row wr w.heap.size g (s.size + 1 + j) cap ((s.data.toList ++ [128] ++ List.replicate j 0).map B) ∧ Below w.heap.size w wr) (fun v _ => zpad s.size + s.size + 1 - lenOf v)
  case atStart => exact ⟨0, g1, cap1, Nat.zero_le _, rfl, hrow1', hbel1⟩
  case round =>
    clear hrow1' hbel1
    obtain ⟨j, g, cap, hj, rfl, hrow, hbel⟩ := hrel
    have hsz := hbel.size
    have hge := hrow.ge
    have hz := zpad_lt s.size
    by_cases hlt : j < zpad s.size
    · have hm := zpad_ne s.size j hlt
      go_wp2_with (at_builtin; refine wpList_append_row _ rfl (.tmp 15) (.tmp 16) 22 rfl 5 i0 (.int .u8 0) 1 Tryz.underlying22 hi0 hz0 hz1 hz2 rfl w.heap.size g (s.size + 1 + j) cap _ rfl (hrow.alloc _) ⟨wr.heap.size, 0, none⟩ 1 1 [.int .u8 0] rfl rfl (World.news_of_block (heap_alloc_new wr _)) (by simp [Value.oneCell']) (by unfold maxLen; omega) (by omega) (by simp; omega) (wr.heap.size + 1) (by simp) ?_; intro g2 cap2 w2 hrow2 hgrow2 _ _)
      go_roundw
      case rel =>
        have e : (s.data.toList ++ [128] ++ List.replicate j 0).map B ++ [.int .u8 0] = (s.data.toList ++ [128] ++ List.replicate (j + 1) 0).map B := by
          rw [List.replicate_succ', ← List.append_assoc, List.map_append (l₂ := [0])]; rfl
        rw [e] at hrow2
        exact ⟨j + 1, g2, cap2, by omega, rfl, hrow2, (hbel.alloc hsz _).grown hgrow2 (by simp; omega) (fun q hq => by cases hq; exact hge)⟩
      case measure => simp [lenOf]; omega
    · obtain rfl : j = zpad s.size := by omega
      have hm := zpad_eq s.size
      have hm' : ((((s.size : Int) + 1 + ((zpad s.size : Nat) : Int)) % 64) != 56) = false := by
        rw [bne_eq_false_iff_eq]; omega
      go_wp2_with fail
      try rw [hm']
      go_loopw [3, 5] (fun v i wr => ∃ k g cap : Nat, k ≤ 8 ∧ i = .int .i64 (7 - (k : Int)) ∧ v = .slice (some ⟨g, 0, none⟩) (s.size + 1 + zpad s.size + k) cap ∧ Row wr w.heap.size g (s.size + 1 + zpad s.size + k) cap ((s.data.toList ++ [128] ++ List.replicate (zpad s.size) 0 ++ beTo (8 * s.size) k).map B) ∧ Below w.heap.size w wr) (fun v _ _ => zpad s.size + s.size + 9 - lenOf v)
      case atStart => exact ⟨0, g, cap, by omega, rfl, rfl, by simpa [beTo] using hrow, hbel⟩
      case round =>
        clear hrow hbel hge hsz
        obtain ⟨k, g, cap, hk, rfl, rfl, hrow, hbel⟩ := hrel
        have hsz := hbel.size
        have hge := hrow.ge
        by_cases hlt2 : k < 8
        · go_wp2_with (at_builtin; refine wpList_append_row _ rfl (.tmp 26) (.tmp 33) 22 rfl 5 i0 (.int .u8 0) 1 Tryz.underlying22 hi0 hz0 hz1 hz2 rfl w.heap.size g (s.size + 1 + zpad s.size + k) cap _ rfl (hrow.alloc _) ⟨wr.heap.size, 0, none⟩ 1 1 [_] rfl rfl (World.news_of_block (heap_alloc_new wr _)) (by simp [Value.oneCell']) (by unfold maxLen; omega) (by omega) (by simp; omega) (wr.heap.size + 1) (by simp) ?_; intro g2 cap2 w2 hrow2 hgrow2 _ _)
          go_roundw
          case rel =>
            rw [lenByte_form] at hrow2
            have e : (s.data.toList ++ [128] ++ List.replicate (zpad s.size) 0 ++ beTo (8 * s.size) k).map B ++ [.int .u8 ((lenByte (8 * s.size) (7 - k)).toNat : Int)] = (s.data.toList ++ [128] ++ List.replicate (zpad s.size) 0 ++ beTo (8 * s.size) (k + 1)).map B := by
              rw [beTo_succ, ← List.append_assoc, List.map_append (l₂ := [lenByte (8 * s.size) (7 - k)])]; rfl
            rw [e] at hrow2
            exact ⟨k + 1, g2, cap2, by omega, by go_num, rfl, hrow2, (hbel.alloc hsz _).grown hgrow2 (by simp; omega) (fun q hq => by cases hq; exact hge)⟩
          case measure => simp [lenOf]; omega
        · obtain rfl : k = 8 := by omega
          go_wp2
          go_ret
          have e : pad s.data.toList = s.data.toList ++ [128] ++ List.replicate (zpad s.size) 0 ++ beTo (8 * s.size) 8 := by rw [pad, hl]
          have e2 : (pad s.data.toList).length = s.size + 1 + zpad s.size + 8 := by rw [pad_length, hl]; omega
          rw [e2, e]
          exact ⟨g, cap, rfl, hrow, hbel⟩
end Go.Proofs.YtngnbflkiiehmaaGreatDoor
