import Derived.Test.YtcjffghdojfnbaaDoorSd
import Derived.Test.YtcjffghdojfnbaaDoorIh
namespace Go.Proofs.YtcjffghdojfnbaaDoor
open Go.RowKit Go.Proofs.Sha

set_option maxRecDepth 100000 in
set_option maxHeartbeats 400000 in
theorem law_big (s : ByteArray) (w : World) (hs : 1048576 < s.size) (hm : s.size ≤ maxLen) :
    Calls Tryd.prog 3 #[.string s] w fun e w' => e = .returned (.bool true) ∧ Below w.heap.size w w' := by
  unfold maxLen at hm
  go_enter Tryd.func3, Tryd.ntmps3
  go_wp2_with fail
  go_ret
  exact ⟨rfl, Below.refl _ _⟩

set_option maxRecDepth 100000 in
set_option maxHeartbeats 400000 in
theorem law_any (s : ByteArray) (w : World) (hm : s.size ≤ maxLen)
    (hK : ∀ j, j < 64 → w.cell? ⟨0, j, none⟩ = some (.int .u32 ((kTab.getD j 0).toNat : Int))) :
    Calls Tryd.prog 3 #[.string s] w fun e w' => e = .returned (.bool true) ∧ Below w.heap.size w w' := by
  by_cases hs : 1048576 < s.size
  · exact law_big s w hs hm
  · unfold maxLen at hm
    have hs' : s.size ≤ 1048576 := by omega
    clear hs
    have hl0 : 0 < w.heap.size := World.block_lt_of_cell? w _ (hK 0 (by omega))
    have HK : Hid (∀ w' : World, Below w.heap.size w w' → ∀ j, j < 64 → w'.cell? ⟨0, j, none⟩ = some (.int .u32 ((kTab.getD j 0).toNat : Int))) := fun w' hb j hj => (hb.cell (by exact hl0)).trans (hK j hj)
    clear hK
    go_enter Tryd.func3, Tryd.ntmps3
    go_wp2_with fail
    refine (spec_any s w hs').mono ?_
    rintro e w1 ⟨rfl, hb1⟩
    generalize hX : (⟨(sha s.data.toList).toArray⟩ : ByteArray) = X
    have HX : Hid ((⟨(sha s.data.toList).toArray⟩ : ByteArray) = X) := hX
    clear hX
    go_wp2_with fail
    refine (impl_any s w1 hs' (HK.out w1 hb1)).mono ?_
    rintro e w2 ⟨rfl, hb2⟩
    rw [HX.out]
    go_wp2
    go_ret
    exact ⟨rfl, hb1.trans (hb2.mono hb1.size)⟩
end Go.Proofs.YtcjffghdojfnbaaDoor
