import Derived.Test.YtglpjoandgbngacDoorGb
namespace Go.Proofs.YtglpjoandgbngacDoor
open Go.RowKit Go.Proofs.Sha

set_option maxRecDepth 100000 in
set_option maxHeartbeats 1000000 in
theorem ihash_any (k v l r : ByteArray) (n : Int) (w : World) (hk : k.size ≤ 1048576) (hv : v.size ≤ 1048576) (hl : l.size ≤ 1048576) (hr : r.size ≤ 1048576)
    (hK : ∀ j, j < 64 → w.cell? ⟨0, j, none⟩ = some (.int .u32 ((kTab.getD j 0).toNat : Int))) :
    Calls Tryd.prog 7 #[.agg #[.string k, .string v, .string l, .string r], .int .i64 n] w fun e w' => ∃ t, e = .returned (.string t) ∧ Hid (t = hashS k v l r n) ∧ Below w.heap.size w w' := by
  have hl0 : 0 < w.heap.size := World.block_lt_of_cell? w _ (hK 0 (by omega))
  have HK : Hid (∀ w' : World, Below w.heap.size w w' → ∀ j, j < 64 → w'.cell? ⟨0, j, none⟩ = some (.int .u32 ((kTab.getD j 0).toNat : Int))) := fun w' hb j hj => (hb.cell (by exact hl0)).trans (hK j hj)
  have hsz := encS_size k v l r n
  obtain ⟨q, hq⟩ : ∃ q, encS k v l r n = q := ⟨_, rfl⟩
  have HA : Hid (∀ w', Calls Tryd.prog 11 #[.agg #[.string k, .string v, .string l, .string r], .int .i64 n] w' fun e w'' => e = .returned (.string q) ∧ Below w'.heap.size w' w'') := fun w' => (enc_impl k v l r n w' hk hv hl hr).mono (by rintro e w'' ⟨t, rfl, HX, hb⟩; exact ⟨by rw [HX.out, hq], hb⟩)
  have HR : Hid (hashS k v l r n = if q.size = 0 then ⟨#[]⟩ else ⟨((sha (78 :: q.data.toList)).take n.toNat).toArray⟩) := by show _ = _; unfold hashS; rw [hq]
  rw [hq] at hsz
  clear hq hk hv hl hr hK
  by_cases h0 : q.size = 0
  · have z : q.toList.isEmpty = true := by rw [empty_iff, h0]; rfl
    go_enter Tryd.func7, Tryd.ntmps7
    go_wp2_with (first | (go_at_call 11; refine (HA.out _).mono ?_; rintro e w1 ⟨rfl, hb1⟩))
    go_ret
    refine ⟨_, rfl, ?_, ((Below.refl _ w).alloc (Nat.le_refl _) _).trans (hb1.mono (by simp))⟩
    show _ = _
    rw [HR.out, if_pos h0]
  · have z : q.toList.isEmpty = false := by rw [empty_iff]; simp [h0]
    obtain ⟨m, rfl⟩ := Int.eq_ofNat_of_zero_le (show 0 ≤ n by have := hsz.2 h0; omega)
    have hm := hsz.2 h0
    have HE : Hid (∀ w', Below w.heap.size w w' → Calls Tryd.prog 12 #[.string q] w' fun e w'' => e = .returned (.agg ((sha (78 :: q.data.toList)).map B).toArray) ∧ Below w'.heap.size w' w'') := fun w' hb => ehash_any q w' (by omega) (HK.out w' hb)
    have hln : (sha (78 :: q.data.toList)).length = 32 := sha_len _
    obtain ⟨M, hM⟩ : ∃ M, sha (78 :: q.data.toList) = M := ⟨_, rfl⟩
    have HM : Hid (sha (78 :: q.data.toList) = M) := hM
    rw [hM] at HE hln
    clear hM
    have hln2 : (M.map B).length = 32 := by rw [List.length_map, hln]
    have h1c : ∀ v ∈ M.map B, v.oneCell' = true := by
      intro v hv
      obtain ⟨x, _, rfl⟩ := List.mem_map.1 hv
      rfl
    obtain ⟨L, hL⟩ : ∃ L, M.map B = L := ⟨_, rfl⟩
    have HL : Hid (M.map B = L) := hL
    rw [hL] at HE hln2 h1c
    clear hL
    have q1 : (1 : Int) ≤ (m : Int) := by omega
    have q2 : (m : Int) ≤ 32 := by omega
    have q3 : (0 : Int) ≤ (m : Int) := by omega
    have q4 : m ≤ 32 := by omega
    go_enter Tryd.func7, Tryd.ntmps7
    go_wp2_with fail
    refine (HA.out _).mono ?_
    rintro e w1 ⟨rfl, hb1⟩
    have hw1 : Below w.heap.size w w1 := ((Below.refl _ w).alloc (Nat.le_refl _) _).trans (hb1.mono (by simp))
    go_wp2_with fail
    refine (HE.out _ hw1).mono ?_
    rintro e w2 ⟨rfl, hb2⟩
    have hw2 : Below w.heap.size w w2 := hw1.trans (hb2.mono hw1.size)
    go_wp2_with (first | (refine wpList_alloc_row _ rfl (some 6) rfl 32 32 rfl (zeros8.map B) alloc32 ?_; intro g2 w3 hr3 hb3) | (refine wpList_store_whole _ rfl rfl 32 (.tmp 6) (.tmp 13) rfl w2.heap.size g2 32 (zeros8.map B) L rfl rfl hr3 hln2 size32 h1c ?_; intro w4 hr4 hg4) | (refine wpList_string_row _ rfl (.tmp 15) 34 9 5 rfl w2.heap.size g2 m 32 (M.take m) rfl (by rw [List.map_take, HL.out]; exact row_take hr4 m q4) Tryd.underlying34 Tryd.underlying5 Tryd.underlying9 ?_))
    go_ret
    have hw3 : Below w.heap.size w w3 := hw2.trans (hb3.mono hw2.size)
    refine ⟨_, rfl, ?_, hw3.trans (below_of_grown hg4 (by have := hr3.ge; have := hw2.size; omega) (by have := hw3.size; omega))⟩
    show _ = _
    rw [HR.out, if_neg h0, HM.out, Int.toNat_natCast]

set_option maxRecDepth 100000 in
set_option maxHeartbeats 1000000 in
theorem law_hash (k v l r : ByteArray) (n : Int) (w : World) (hk : k.size ≤ maxLen) (hv : v.size ≤ maxLen) (hl : l.size ≤ maxLen) (hr : r.size ≤ maxLen)
    (hK : ∀ j, j < 64 → w.cell? ⟨0, j, none⟩ = some (.int .u32 ((kTab.getD j 0).toNat : Int))) :
    Calls Tryd.prog 3 #[.agg #[.string k, .string v, .string l, .string r], .int .i64 n] w fun e w' => e = .returned (.bool true) ∧ Below w.heap.size w w' := by
  unfold maxLen at hk hv hl hr
  have hl0 : 0 < w.heap.size := World.block_lt_of_cell? w _ (hK 0 (by omega))
  have HK : Hid (∀ w' : World, Below w.heap.size w w' → ∀ j, j < 64 → w'.cell? ⟨0, j, none⟩ = some (.int .u32 ((kTab.getD j 0).toNat : Int))) := fun w' hb j hj => (hb.cell (by exact hl0)).trans (hK j hj)
  obtain ⟨q, hq⟩ : ∃ q, hashS k v l r n = q := ⟨_, rfl⟩
  have HS : Hid (∀ w', Calls Tryd.prog 4 #[.agg #[.string k, .string v, .string l, .string r], .int .i64 1048576] w' fun e w'' => ∃ x : Int, e = .returned (.int .i64 x) ∧ Hid (0 ≤ x → k.size ≤ 1048576 ∧ v.size ≤ 1048576 ∧ l.size ≤ 1048576 ∧ r.size ≤ 1048576) ∧ Below w'.heap.size w' w'') := fun w' => sz_any k v l r w' hk hv hl hr
  have HT : Hid (∀ w', Calls Tryd.prog 6 #[.agg #[.string k, .string v, .string l, .string r]] w' fun e w'' => e = .returned (.agg #[.string k, .string v, .string l, .string r]) ∧ Below w'.heap.size w' w'') := fun w' => toNode_any k v l r w'
  have HA : Hid (k.size ≤ 1048576 ∧ v.size ≤ 1048576 ∧ l.size ≤ 1048576 ∧ r.size ≤ 1048576 → ∀ w', Calls Tryd.prog 5 #[.agg #[.string k, .string v, .string l, .string r], .int .i64 n] w' fun e w'' => e = .returned (.string q) ∧ Below w'.heap.size w' w'') := fun hs w' => (shash_any k v l r n w' hs.1 hs.2.1 hs.2.2.1 hs.2.2.2).mono (by rintro e w'' ⟨t, rfl, HX, hb⟩; exact ⟨by rw [HX.out, hq], hb⟩)
  have HB : Hid (k.size ≤ 1048576 ∧ v.size ≤ 1048576 ∧ l.size ≤ 1048576 ∧ r.size ≤ 1048576 → ∀ w', Below w.heap.size w w' → Calls Tryd.prog 7 #[.agg #[.string k, .string v, .string l, .string r], .int .i64 n] w' fun e w'' => e = .returned (.string q) ∧ Below w'.heap.size w' w'') := fun hs w' hbw => (ihash_any k v l r n w' hs.1 hs.2.1 hs.2.2.1 hs.2.2.2 (HK.out w' hbw)).mono (by rintro e w'' ⟨t, rfl, HX, hb⟩; exact ⟨by rw [HX.out, hq], hb⟩)
  clear hq hk hv hl hr hK
  go_enter Tryd.func3, Tryd.ntmps3
  go_wp2_with fail
  refine (HS.out _).mono ?_
  rintro e w1 ⟨x, rfl, HX, hb1⟩
  have hn1 := below_cells hb1 (heap_alloc_new w (.cells #[.string k, .string v, .string l, .string r] 23))
  have hw1 : Below w.heap.size w w1 := ((Below.refl _ w).alloc (Nat.le_refl _) _).trans (hb1.mono (by simp))
  clear hb1
  by_cases hx : x < 0
  · have z1 : decide (x < 0) = true := decide_eq_true hx
    clear hx
    go_wp2_with fail
    go_ret
    exact ⟨rfl, hw1⟩
  · have hs := HX.out (by omega)
    have z1 : decide (x < 0) = false := decide_eq_false hx
    have HA' : Hid (∀ w', Calls Tryd.prog 5 #[.agg #[.string k, .string v, .string l, .string r], .int .i64 n] w' fun e w'' => e = .returned (.string q) ∧ Below w'.heap.size w' w'') := HA.out hs
    have HB' : Hid (∀ w', Below w.heap.size w w' → Calls Tryd.prog 7 #[.agg #[.string k, .string v, .string l, .string r], .int .i64 n] w' fun e w'' => e = .returned (.string q) ∧ Below w'.heap.size w' w'') := HB.out hs
    clear HA HB HX hx hs HS
    have c0 := Lib.cell_of_heap hn1 0
    have c1 := Lib.cell_of_heap hn1 1
    have c2 := Lib.cell_of_heap hn1 2
    have c3 := Lib.cell_of_heap hn1 3
    go_wp2_with (first | (go_at_call 6; refine (HT.out w1).mono ?_; rintro e w2 ⟨rfl, hb2⟩) | (go_at_call 5; refine (HA'.out w2).mono ?_; rintro e w3 ⟨rfl, hb3⟩; have hn3 := below_cells hb3 (below_cells hb2 hn1); have e0 := Lib.cell_of_heap hn3 0; have e1 := Lib.cell_of_heap hn3 1; have e2 := Lib.cell_of_heap hn3 2; have e3 := Lib.cell_of_heap hn3 3) | (go_at_call 6; refine (HT.out w3).mono ?_; rintro e w4 ⟨rfl, hb4⟩; have b13 : Below w1.heap.size w1 w3 := hb2.trans (hb3.mono hb2.size); have b14 : Below w1.heap.size w1 w4 := b13.trans (hb4.mono b13.size); have hw4 : Below w.heap.size w w4 := hw1.trans (b14.mono hw1.size)) | (go_at_call 7; refine (HB'.out w4 hw4).mono ?_; rintro e w5 ⟨rfl, hb5⟩))
    go_ret
    exact ⟨rfl, hw4.trans (hb5.mono hw4.size)⟩
end Go.Proofs.YtglpjoandgbngacDoor
