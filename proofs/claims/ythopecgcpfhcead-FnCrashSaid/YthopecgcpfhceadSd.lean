import Derived.Test.YthopecgcpfhceadSb
import Derived.Test.YthopecgcpfhceadSc
import Derived.Test.YthopecgcpfhceadN
namespace Go.Proofs.Ythopecgcpfhcead
open Go.RowKit Go.Proofs.Sha

set_option maxRecDepth 100000 in
set_option maxHeartbeats 800000 in
theorem spec_any (s : ByteArray) (w : World) (hs : s.size ≤ 1048576) :
    Calls Try.prog 59 #[.string s] w fun e w' => e = .returned (.string ⟨(sha s.data.toList).toArray⟩) ∧ Below w.heap.size w w' := by
  obtain ⟨i0, hi0, hz0, hz1, hz2⟩ := info_parts info5
  have hsl : s.data.toList.length = s.size := rfl
  go_enter Try.func59, Try.ntmps59
  go_wp2_with fail
  refine (tab_any _).mono ?_
  rintro e w2 ⟨rfl, rfl⟩
  go_wp2_with fail
  refine (padded_any s _ hs).mono ?_
  rintro e w3 ⟨mb, mc, rfl, hrow, hbel⟩
  have hplen := pad_length s.data.toList
  have hpmod := pad_mod s.data.toList
  have hz := zpad_lt s.data.toList.length
  have htwo := two_blocks w hTab kTab 92
  have hcm := fun j hj => row_b hrow j hj
  have hmb := hrow.lt
  have hA : ∀ j, j < 8 → w3.cell? ⟨w.heap.size, j, none⟩ = some (.int .u32 ((hTab.getD j 0).toNat : Int)) := fun j hj => (hbel.cell (by simp; omega)).trans (htwo.1 j hj)
  have hK : ∀ j, j < 64 → w3.cell? ⟨w.heap.size + 1, j, none⟩ = some (.int .u32 ((kTab.getD j 0).toNat : Int)) := fun j hj => (hbel.cell (by simp)).trans (htwo.2 j hj)
  have hsz3 : w.heap.size + 2 ≤ w3.heap.size := by have := hbel.size; simpa using this
  have hbel3 : Below w.heap.size w w3 := (((Below.refl _ _).alloc (Nat.le_refl _) _).alloc (by simp) _).trans (hbel.mono (by simp; omega))
  clear htwo hbel hrow
  obtain ⟨p, hp⟩ : ∃ p, pad s.data.toList = p := ⟨_, rfl⟩
  rw [hp] at hplen hpmod hcm
  rw [hp]
  have HP : Hid (pad s.data.toList = p) := hp
  clear hp
  have hp2 : p.length ≤ 2000000 := by omega
  clear hplen hz
  have HM : Hid (∀ j, j < p.length → w3.cell? ⟨mb, j, none⟩ = some (.int .u8 ((p.getD j 0).toNat : Int))) := hcm
  have HK : Hid (∀ j, j < 64 → w3.cell? ⟨w.heap.size + 1, j, none⟩ = some (.int .u32 ((kTab.getD j 0).toNat : Int))) := hK
  clear hcm hK
  go_wp2_with fail
  go_loopw [3, 6] (fun v i wr => ∃ q g fr : Nat, fr ≤ p.length ∧ Hid (fr = 64 * q) ∧ i = .int .i64 (fr : Int) ∧ v = .slice (some ⟨g, 0, none⟩) 8 8 ∧ (∀ j, j < 8 → wr.cell? ⟨g, j, none⟩ = some (.int .u32 (((blocks p q).getD j 0).toNat : Int))) ∧ Below w3.heap.size w3 wr) (fun _ i _ => p.length - (intOf i).toNat)
  case atStart => exact ⟨0, w.heap.size, 0, by omega, rfl, rfl, rfl, hA, Below.refl _ _⟩
  case round =>
    clear hA
    obtain ⟨q, g, fr, hq, HQ, rfl, rfl, hcg, hb⟩ := hrel
    have hsr := hb.size
    have hgl : g < wr.heap.size := World.block_lt_of_cell? wr _ (hcg 0 (by omega))
    have HG : Hid (∀ j, j < 8 → wr.cell? ⟨g, j, none⟩ = some (.int .u32 (((blocks p q).getD j 0).toNat : Int))) := hcg
    clear hcg
    by_cases hlt : fr < p.length
    · have hfr : fr + 64 ≤ p.length := by have := HQ.out; omega
      go_wp2_with fail
      refine (block_any (blocks p q) g 8 (w.heap.size + 1) 64 p mb mc fr wr hp2 hfr (fun j hj => (hb.cell hmb).trans (HM.out j hj)) HG.out (fun j hj => (hb.cell (by exact hsz3)).trans (HK.out j hj))).mono ?_
      rintro e w4 ⟨g', rfl, hrow', hb'⟩
      go_wp2_with fail
      go_roundw
      case rel =>
        refine ⟨q + 1, g', fr + 64, by omega, ?_, by go_num, rfl, ?_, hb.trans (hb'.mono hsr)⟩
        · have := HQ.out; show fr + 64 = 64 * (q + 1); omega
        · intro j hj
          rw [blocks, ← HQ.out]; exact row_u hrow' j hj
      case measure => simp [intOf]; omega
    · obtain rfl : fr = p.length := by omega
      have HF : Hid (sha s.data.toList = outTo (blocks p q) 8) := by
        show sha s.data.toList = _
        unfold sha
        rw [HP.out, HQ.out]
        congr 2; omega
      have hbw : Below w.heap.size w wr := hbel3.trans (hb.mono (by omega))
      clear HM HK HP
      obtain ⟨w5, rfl⟩ : ∃ w5, w5 = wr := ⟨_, rfl⟩
      go_wp2_with fail
      go_loopw [7, 8] (fun v i wx => ∃ k go cap : Nat, k ≤ 8 ∧ i = .int .i64 (k : Int) ∧ v = .slice (some ⟨go, 0, none⟩) (4 * k) cap ∧ Row wx w5.heap.size go (4 * k) cap ((outTo (blocks p q) k).map B) ∧ Below w5.heap.size w5 wx) (fun _ i _ => 8 - (intOf i).toNat)
      case atStart => exact ⟨0, w5.heap.size, 0, by omega, rfl, rfl, Row.of_block (Nat.le_refl _) (heap_alloc_new w5 _) 0 (by simp) (.inl rfl), (Below.refl _ _).alloc (Nat.le_refl _) _⟩
      case round =>
        obtain ⟨k, go, cap, hk, rfl, rfl, hrow, hbx⟩ := hrel
        have hsx := hbx.size
        have hgo := hrow.ge
        by_cases hlt2 : k < 8
        · obtain ⟨x, hx⟩ : ∃ x, (blocks p q).getD k 0 = x := ⟨_, rfl⟩
          have cx : wr.cell? ⟨g, k, none⟩ = some (.int .u32 (x.toNat : Int)) := by rw [← hx]; exact (hbx.cell hgl).trans (HG.out k hlt2)
          have HX : Hid ((blocks p q).getD k 0 = x) := hx
          clear hx
          have hne : some g ≠ some go := by simp; omega
          have q0 : (0 : Int) ≤ (k : Int) := by omega
          have q1 : (k : Int) < 8 := by omega
          go_wp2_with fail
          go_region_held3 (fun w' => w'.cell? ⟨g, k, none⟩ = some (.int .u32 (x.toNat : Int)))
            (first | go_keep | (rw [hgrow.cell_far _ (by simp; omega) hne]; assumption))
            ((refine step_append_row _ (by rfl) _ _ _ (by rfl) 5 i0 _ 1 Try.underlying31 hi0 hz0 hz1 hz2 rfl w5.heap.size go (4 * k) cap _ (by rfl) ((hrow.alloc _).drew) ⟨wr.heap.size, 0, none⟩ 4 4 [_, _, _, _] (by rfl) (by rfl) (World.news_of_block (heap_alloc_new wr _)) (by simp [Value.oneCell']) (by unfold maxLen; omega) (by omega) (by simp; omega) (wr.heap.size + 1) (by simp) ?_; intro go' cap' wy hrow' hgrow hat hold))
          go_wp2
          go_roundw
          case rel =>
            rw [← outTo_succ (blocks p q) k x HX.out] at hrow'
            exact ⟨k + 1, go', cap', by omega, by go_num, rfl, hrow', (hbx.alloc hsx _).drew.grown hgrow (by simp; omega) (fun y hy => by cases hy; exact hgo)⟩
          case measure => simp [intOf]; omega
        · obtain rfl : k = 8 := by omega
          go_wp2_with (refine wpList_string_row _ rfl (.tmp 55) 31 9 5 rfl w5.heap.size go 32 cap _ rfl (by exact hrow) Try.underlying31 Try.underlying5 Try.underlying9 ?_)
          go_ret
          rw [HF.out]
          exact ⟨rfl, hbw.trans (hbx.mono hbw.size)⟩
end Go.Proofs.Ythopecgcpfhcead
