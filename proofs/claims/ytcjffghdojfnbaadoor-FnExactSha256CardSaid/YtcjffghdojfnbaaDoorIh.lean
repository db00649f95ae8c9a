import Derived.Test.YtcjffghdojfnbaaDoorIg
namespace Go.Proofs.YtcjffghdojfnbaaDoor
open Go.RowKit Go.Proofs.Sha

set_option maxRecDepth 100000 in
set_option maxHeartbeats 800000 in
theorem impl_any (s : ByteArray) (w : World) (hs : s.size ≤ 1048576)
    (hK : ∀ j, j < 64 → w.cell? ⟨0, j, none⟩ = some (.int .u32 ((kTab.getD j 0).toNat : Int))) :
    Calls Tryd.prog 5 #[.string s] w fun e w' => e = .returned (.string ⟨(sha s.data.toList).toArray⟩) ∧ Below w.heap.size w w' := by
  have hh := hash_any s w hs hK
  clear hK
  have hln : (sha s.data.toList).length = 32 := by unfold sha; rw [outTo_length]
  obtain ⟨M, hM⟩ : ∃ M, sha s.data.toList = M := ⟨_, rfl⟩
  have HM : Hid (sha s.data.toList = M) := hM
  rw [hM] at hh hln
  clear hM
  have hln2 : (M.map B).length = 32 := by rw [List.length_map, hln]
  have h1c : ∀ v ∈ M.map B, v.oneCell' = true := by
    intro v hv
    obtain ⟨x, _, rfl⟩ := List.mem_map.1 hv
    rfl
  obtain ⟨L, hL⟩ : ∃ L, M.map B = L := ⟨_, rfl⟩
  have HL : Hid (M.map B = L) := hL
  rw [hL] at hh hln2 h1c
  clear hL
  go_enter Tryd.func5, Tryd.ntmps5
  go_wp2_with fail
  refine hh.mono ?_
  rintro e w1 ⟨rfl, hb1⟩
  have hs1 := hb1.size
  clear hh
  go_wp2_with (first | (refine wpList_alloc_row _ rfl (some 3) rfl 32 32 rfl (zeros8.map B) alloc32 ?_; intro g2 w2 hr2 hb2) | (refine wpList_store_whole _ rfl rfl 32 (.tmp 3) (.tmp 5) rfl w1.heap.size g2 32 (zeros8.map B) L rfl rfl hr2 hln2 size32 h1c ?_; intro w3 hr3 hg3) | (refine wpList_string_row _ rfl (.tmp 6) 27 9 5 rfl w1.heap.size g2 32 32 M rfl (by rw [HL.out]; exact hr3) Tryd.underlying27 Tryd.underlying5 Tryd.underlying9 ?_))
  go_ret
  rw [HM.out]
  exact ⟨rfl, (hb1.trans (hb2.mono hs1)).trans (below_of_grown hg3 (by have := hr2.ge; omega) (by have := hb2.size; omega))⟩
end Go.Proofs.YtcjffghdojfnbaaDoor
