import Derived.Test.YtcjffghdojfnbabDoorDa
namespace Go.Proofs.YtcjffghdojfnbabDoor
open Go.RowKit Go.Proofs.Sha

set_option maxRecDepth 100000 in
set_option maxHeartbeats 400000 in
theorem idig_no (s : ByteArray) (k : Int) (w : World) (h : k < 1 ∨ 32 < k) :
    Calls Tryd.prog 6 #[.string s, .int .i64 k] w fun e w' => e = .returned (.string ⟨#[]⟩) ∧ Below w.heap.size w w' := by
  rcases h with h | h
  · have h1 : decide (1 ≤ k) = false := by simpa using h
    go_enter Tryd.func6, Tryd.ntmps6
    go_wp2
    go_ret
    exact ⟨rfl, Below.refl _ _⟩
  · have h1 : 1 ≤ k := by omega
    have h2 : decide (k ≤ 32) = false := by simpa using h
    go_enter Tryd.func6, Tryd.ntmps6
    go_wp2
    go_ret
    exact ⟨rfl, Below.refl _ _⟩

/-- The first k elements of a row. -/
theorem row_take {w : World} {base g n cap : Nat} {xs : List Value} (h : Row w base g n cap xs) (k : Nat) (hk : k ≤ n) : Row w base g k cap (xs.take k) :=
  ⟨h.ge, h.lt, by rw [List.length_take, h.len]; exact Nat.min_eq_left hk, Nat.le_trans hk h.le, fun j hj => by rw [h.cell j (by omega), List.getElem?_take, if_pos hj], h.room, h.free⟩

set_option maxRecDepth 100000 in
set_option maxHeartbeats 400000 in
theorem idig_yes (s : ByteArray) (k : Nat) (w : World) (hs : s.size ≤ 1048576) (h1 : 1 ≤ k) (h2 : k ≤ 32)
    (hK : ∀ j, j < 64 → w.cell? ⟨0, j, none⟩ = some (.int .u32 ((kTab.getD j 0).toNat : Int))) :
    Calls Tryd.prog 6 #[.string s, .int .i64 (k : Int)] w fun e w' => e = .returned (.string ⟨((sha s.data.toList).take k).toArray⟩) ∧ Below w.heap.size w w' := by
  have hh := hash_any s w hs hK
  clear hK
  have hln : (sha s.data.toList).length = 32 := sha_len _
  obtain ⟨M, hM⟩ : ∃ M, sha s.data.toList = M := ⟨_, rfl⟩
  have HM : Hid (sha s.data.toList = M) := hM
  rw [hM] at hh hln
  clear hM
  have hln2 : (M.map B).length = 32 := by rw [List.length_map, hln]
  have h1c : ∀ v ∈ M.map B, v.oneCell' = true := by
    intro v hv
    obtain ⟨x, _, rfl⟩ := List.mem_map.1 hv
    rfl
  obtain ⟨L, hL⟩ : ∃ L, M.map B = L := ⟨_, rfl⟩
  have HL : Hid (M.map B = L) := hL
  rw [hL] at hh hln2 h1c
  clear hL
  have q1 : (1 : Int) ≤ (k : Int) := by omega
  have q2 : (k : Int) ≤ 32 := by omega
  have q3 : (0 : Int) ≤ (k : Int) := by omega
  go_enter Tryd.func6, Tryd.ntmps6
  go_wp2_with (first | (go_at_call 12; refine hh.mono ?_; rintro e w1 ⟨rfl, hb1⟩; have hs1 := hb1.size) | go_in | (refine wpList_alloc_row _ rfl (some 5) rfl 28 28 rfl (zeros8.map B) alloc32 ?_; intro g2 w2 hr2 hb2) | (refine wpList_store_whole _ rfl rfl 28 (.tmp 5) (.tmp 10) rfl w1.heap.size g2 32 (zeros8.map B) L rfl rfl hr2 hln2 size32 h1c ?_; intro w3 hr3 hg3) | (refine wpList_string_row _ rfl (.tmp 12) 30 9 5 rfl w1.heap.size g2 k 32 (M.take k) rfl (by rw [List.map_take, HL.out]; exact row_take hr3 k h2) Tryd.underlying30 Tryd.underlying5 Tryd.underlying9 ?_))
  go_ret
  rw [HM.out]
  exact ⟨rfl, (hb1.trans (hb2.mono hs1)).trans (below_of_grown hg3 (by have := hr2.ge; omega) (by have := hb2.size; omega))⟩

set_option maxRecDepth 100000 in
set_option maxHeartbeats 400000 in
theorem dlaw_big (s : ByteArray) (k : Int) (w : World) (hs : 1048576 < s.size) (hm : s.size ≤ maxLen) :
    Calls Tryd.prog 3 #[.string s, .int .i64 k] w fun e w' => e = .returned (.bool true) ∧ Below w.heap.size w w' := by
  unfold maxLen at hm
  go_enter Tryd.func3, Tryd.ntmps3
  go_wp2_with fail
  go_ret
  exact ⟨rfl, Below.refl _ _⟩

set_option maxRecDepth 100000 in
set_option maxHeartbeats 400000 in
theorem dlaw_of (s X : ByteArray) (k : Int) (w : World) (hm : s.size ≤ 1048576)
    (h5 : Calls Tryd.prog 5 #[.string s, .int .i64 k] w fun e w' => e = .returned (.string X) ∧ Below w.heap.size w w')
    (h6 : ∀ w1, Below w.heap.size w w1 → Calls Tryd.prog 6 #[.string s, .int .i64 k] w1 fun e w' => e = .returned (.string X) ∧ Below w1.heap.size w1 w') :
    Calls Tryd.prog 3 #[.string s, .int .i64 k] w fun e w' => e = .returned (.bool true) ∧ Below w.heap.size w w' := by
  have H6 : Hid (∀ w1, Below w.heap.size w w1 → Calls Tryd.prog 6 #[.string s, .int .i64 k] w1 fun e w' => e = .returned (.string X) ∧ Below w1.heap.size w1 w') := h6
  have H5 : Hid (Calls Tryd.prog 5 #[.string s, .int .i64 k] w fun e w' => e = .returned (.string X) ∧ Below w.heap.size w w') := h5
  clear h5 h6
  go_enter Tryd.func3, Tryd.ntmps3
  go_wp2_with fail
  refine H5.out.mono ?_
  rintro e w1 ⟨rfl, hb1⟩
  go_wp2_with fail
  refine (H6.out w1 hb1).mono ?_
  rintro e w2 ⟨rfl, hb2⟩
  go_wp2
  go_ret
  exact ⟨rfl, hb1.trans (hb2.mono hb1.size)⟩

theorem dlaw_any (s : ByteArray) (k : Int) (w : World) (hm : s.size ≤ maxLen)
    (hK : ∀ j, j < 64 → w.cell? ⟨0, j, none⟩ = some (.int .u32 ((kTab.getD j 0).toNat : Int))) :
    Calls Tryd.prog 3 #[.string s, .int .i64 k] w fun e w' => e = .returned (.bool true) ∧ Below w.heap.size w w' := by
  by_cases hs : 1048576 < s.size
  · exact dlaw_big s k w hs hm
  · have hs' : s.size ≤ 1048576 := by omega
    have hl0 : 0 < w.heap.size := World.block_lt_of_cell? w _ (hK 0 (by omega))
    by_cases hk : 1 ≤ k ∧ k ≤ 32
    · obtain ⟨n, rfl⟩ := Int.eq_ofNat_of_zero_le (show 0 ≤ k by omega)
      exact dlaw_of s _ _ w hs' (sdig_yes s n w hs' (by omega) (by omega)) (fun w1 hb => idig_yes s n w1 hs' (by omega) (by omega) (fun j hj => (hb.cell (by exact hl0)).trans (hK j hj)))
    · exact dlaw_of s _ _ w hs' (sdig_no s k w (by omega)) (fun w1 _ => idig_no s k w1 (by omega))
end Go.Proofs.YtcjffghdojfnbabDoor
