import Derived.Test.YthopecgcpfhceadProg
import Derived.Test.YthopecgcpfhceadM
import Derived.Test.YthopecgcpfhceadR
import Derived.WalkSpells
import Derived.WalkLawsBesides
import Derived.StillTactics
import Derived.Laws.Pointers
import Derived.Deep.RegionHeld3
namespace Go.Proofs.Ythopecgcpfhcead
open Go.RowKit Go.Proofs.Sha

theorem info5 : (Try.prog.info? 5).map (fun i => (i.zero, i.size, i.bytes)) = some (some (.int .u8 0), 1, 1) := by kernel_rfl

set_option maxRecDepth 100000 in
set_option maxHeartbeats 400000 in
theorem padded_any (s : ByteArray) (w : World) (hs : s.size ≤ 1048576) :
    Calls Try.prog 68 #[.string s] w fun e w' => ∃ g cap, e = .returned (.slice (some ⟨g, 0, none⟩) (pad s.data.toList).length cap) ∧ Row w' w.heap.size g (pad s.data.toList).length cap ((pad s.data.toList).map B) ∧ Below w.heap.size w w' := by
  obtain ⟨i0, hi0, hz0, hz1, hz2⟩ := info_parts info5
  have hl : s.data.toList.length = s.size := rfl
  go_enter Try.func68, Try.ntmps68
  go_wp2_with (first | (refine wpList_bytes_row _ rfl (.tmp 6) 9 31 5 rfl s rfl Try.underlying9 Try.underlying31 Try.underlying5 ?_; intro g0 cap0 w0 hrow0 hbel0) | (at_builtin; refine wpList_append_row _ rfl (.tmp 8) (.tmp 9) 31 rfl 5 i0 (.int .u8 0) 1 Try.underlying31 hi0 hz0 hz1 hz2 rfl w.heap.size g0 s.size cap0 _ rfl (hrow0.alloc _) ⟨w0.heap.size, 0, none⟩ 1 1 [.int .u8 128] rfl rfl (World.news_of_block (heap_alloc_new w0 _)) (by simp [Value.oneCell']) (by unfold maxLen; omega) (by omega) (by have := hbel0.size; simp; omega) (w0.heap.size + 1) (by simp) ?_; intro g1 cap1 w1 hrow1 hgrow1 _ _))
  have hbel1 : Below w.heap.size w w1 := (hbel0.alloc hbel0.size _).grown hgrow1 (by have := hbel0.size; simp; omega) (fun q hq => by cases hq; exact hrow0.ge)
  have hrow1' : Row w1 w.heap.size g1 (s.size + 1 + 0) cap1 ((s.data.toList ++ [128] ++ List.replicate 0 0).map B) := by simpa [B] using hrow1
  clear hgrow1 hrow1 hrow0 hbel0
  go_loopw [3] (fun v wr => ∃ j g cap : Nat, j ≤ zpad s.size ∧ v = .slice (some ⟨g, 0, none⟩) (s.size + 1 + j) cap ∧ Row wr w.heap.size g (s.size + 1 + j) cap ((s.data.toList ++ [128] ++ List.replicate j 0).map B) ∧ Below w.heap.size w wr) (fun v _ => zpad s.size + s.size + 1 - lenOf v)
  case atStart => exact ⟨0, g1, cap1, Nat.zero_le _, rfl, hrow1', hbel1⟩
  case round =>
    clear hrow1' hbel1
    obtain ⟨j, g, cap, hj, rfl, hrow, hbel⟩ := hrel
    have hsz := hbel.size
    have hge := hrow.ge
    have hz := zpad_lt s.size
    by_cases hlt : j < zpad s.size
    · have hm := zpad_ne s.size j hlt
      go_wp2_with (at_builtin; refine wpList_append_row _ rfl (.tmp 15) (.tmp 16) 31 rfl 5 i0 (.int .u8 0) 1 Try.underlying31 hi0 hz0 hz1 hz2 rfl w.heap.size g (s.size + 1 + j) cap _ rfl (hrow.alloc _) ⟨wr.heap.size, 0, none⟩ 1 1 [.int .u8 0] rfl rfl (World.news_of_block (heap_alloc_new wr _)) (by simp [Value.oneCell']) (by unfold maxLen; omega) (by omega) (by simp; omega) (wr.heap.size + 1) (by simp) ?_; intro g2 cap2 w2 hrow2 hgrow2 _ _)
      go_roundw
      case rel =>
        have e : (s.data.toList ++ [128] ++ List.replicate j 0).map B ++ [.int .u8 0] = (s.data.toList ++ [128] ++ List.replicate (j + 1) 0).map B := by
          rw [List.replicate_succ', ← List.append_assoc, List.map_append (l₂ := [0])]; rfl
        rw [e] at hrow2
        exact ⟨j + 1, g2, cap2, by omega, rfl, hrow2, (hbel.alloc hsz _).grown hgrow2 (by simp; omega) (fun q hq => by cases hq; exact hge)⟩
      case measure => simp [lenOf]; omega
    · obtain rfl : j = zpad s.size := by omega
      have hm := zpad_eq s.size
      have hm' : ((((s.size : Int) + 1 + ((zpad s.size : Nat) : Int)) % 64) != 56) = false := by
        rw [bne_eq_false_iff_eq]; omega
      go_wp2_with fail
      try rw [hm']
      go_loopw [3, 5] (fun v i wr => ∃ k g cap : Nat, k ≤ 8 ∧ i = .int .i64 (7 - (k : Int)) ∧ v = .slice (some ⟨g, 0, none⟩) (s.size + 1 + zpad s.size + k) cap ∧ Row wr w.heap.size g (s.size + 1 + zpad s.size + k) cap ((s.data.toList ++ [128] ++ List.replicate (zpad s.size) 0 ++ beTo (8 * s.size) k).map B) ∧ Below w.heap.size w wr) (fun v _ _ => zpad s.size + s.size + 9 - lenOf v)
      case atStart => exact ⟨0, g, cap, by omega, rfl, rfl, by simpa [beTo] using hrow, hbel⟩
      case round =>
        clear hrow hbel hge hsz
        obtain ⟨k, g, cap, hk, rfl, rfl, hrow, hbel⟩ := hrel
        have hsz := hbel.size
        have hge := hrow.ge
        by_cases hlt2 : k < 8
        · go_wp2_with (at_builtin; refine wpList_append_row _ rfl (.tmp 26) (.tmp 33) 31 rfl 5 i0 (.int .u8 0) 1 Try.underlying31 hi0 hz0 hz1 hz2 rfl w.heap.size g (s.size + 1 + zpad s.size + k) cap _ rfl (hrow.alloc _) ⟨wr.heap.size, 0, none⟩ 1 1 [_] rfl rfl (World.news_of_block (heap_alloc_new wr _)) (by simp [Value.oneCell']) (by unfold maxLen; omega) (by omega) (by simp; omega) (wr.heap.size + 1) (by simp) ?_; intro g2 cap2 w2 hrow2 hgrow2 _ _)
          go_roundw
          case rel =>
            rw [lenByte_form] at hrow2
            have e : (s.data.toList ++ [128] ++ List.replicate (zpad s.size) 0 ++ beTo (8 * s.size) k).map B ++ [.int .u8 ((lenByte (8 * s.size) (7 - k)).toNat : Int)] = (s.data.toList ++ [128] ++ List.replicate (zpad s.size) 0 ++ beTo (8 * s.size) (k + 1)).map B := by
              rw [beTo_succ, ← List.append_assoc, List.map_append (l₂ := [lenByte (8 * s.size) (7 - k)])]; rfl
            rw [e] at hrow2
            exact ⟨k + 1, g2, cap2, by omega, by go_num, rfl, hrow2, (hbel.alloc hsz _).grown hgrow2 (by simp; omega) (fun q hq => by cases hq; exact hge)⟩
          case measure => simp [lenOf]; omega
        · obtain rfl : k = 8 := by omega
          go_wp2
          go_ret
          have e : pad s.data.toList = s.data.toList ++ [128] ++ List.replicate (zpad s.size) 0 ++ beTo (8 * s.size) 8 := by rw [pad, hl]
          have e2 : (pad s.data.toList).length = s.size + 1 + zpad s.size + 8 := by rw [pad_length, hl]; omega
          rw [e2, e]
          exact ⟨g, cap, rfl, hrow, hbel⟩
end Go.Proofs.Ythopecgcpfhcead
