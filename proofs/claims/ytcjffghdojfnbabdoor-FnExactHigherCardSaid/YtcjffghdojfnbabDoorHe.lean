import Derived.Test.YtcjffghdojfnbabDoorHd
namespace Go.Proofs.YtcjffghdojfnbabDoor
open Go.RowKit Go.Proofs.Sha

set_option maxRecDepth 100000 in
set_option maxHeartbeats 400000 in
theorem shigher_any (a b : ByteArray) (w : World) (ha : a.size ≤ 1048576) (hb : b.size ≤ 1048576) :
    Calls Tryd.prog 7 #[.string a, .string b] w fun e w' => e = .returned (.bool (rk (sha a.data.toList) (sha b.data.toList) a.data.toList b.data.toList)) ∧ Below w.heap.size w w' := by
  have hla : (sha a.data.toList).length = 32 := by unfold sha; rw [outTo_length]
  have hlb : (sha b.data.toList).length = 32 := by unfold sha; rw [outTo_length]
  have H1 := fun w' => spec_any a w' ha
  have H2 := fun w' => spec_any b w' hb
  have HR1 : Hid (sha a.data.toList = sha b.data.toList → rk (sha a.data.toList) (sha b.data.toList) a.data.toList b.data.toList = Op.bytesLess a.data.toList b.data.toList) := fun h => if_pos h
  have HR2 : Hid (sha a.data.toList ≠ sha b.data.toList → rk (sha a.data.toList) (sha b.data.toList) a.data.toList b.data.toList = Op.bytesLess (sha b.data.toList) (sha a.data.toList)) := fun h => if_neg h
  obtain ⟨X, hX⟩ : ∃ X, sha a.data.toList = X := ⟨_, rfl⟩
  obtain ⟨Y, hY⟩ : ∃ Y, sha b.data.toList = Y := ⟨_, rfl⟩
  rw [hX] at hla H1
  rw [hY] at hlb H2
  rw [hX, hY] at HR1 HR2
  rw [hX, hY]
  obtain ⟨SX, hSX⟩ : ∃ S : ByteArray, S = ⟨X.toArray⟩ := ⟨_, rfl⟩
  obtain ⟨SY, hSY⟩ : ∃ S : ByteArray, S = ⟨Y.toArray⟩ := ⟨_, rfl⟩
  have dX : SX.data.toList = X := by rw [hSX]
  have dY : SY.data.toList = Y := by rw [hSY]
  have zX : SX.size ≤ 1048576 := by rw [hSX]; show X.length ≤ _; omega
  have zY : SY.size ≤ 1048576 := by rw [hSY]; show Y.length ≤ _; omega
  rw [← hSX] at H1
  rw [← hSY] at H2
  have L1 := fun w' => less_any SY SX w' zY zX
  have L2 := fun w' => less_any a b w' ha hb
  rw [dX, dY] at L1
  have K1 : Hid (∀ w', Calls Tryd.prog 10 #[.string a] w' fun e w'' => e = .returned (.string SX) ∧ Below w'.heap.size w' w'') := H1
  have K2 : Hid (∀ w', Calls Tryd.prog 10 #[.string b] w' fun e w'' => e = .returned (.string SY) ∧ Below w'.heap.size w' w'') := H2
  have K3 : Hid (∀ w', Calls Tryd.prog 13 #[.string SY, .string SX] w' fun e w'' => e = .returned (.bool (Op.bytesLess Y X)) ∧ Below w'.heap.size w' w'') := L1
  have K4 : Hid (∀ w', Calls Tryd.prog 13 #[.string a, .string b] w' fun e w'' => e = .returned (.bool (Op.bytesLess a.data.toList b.data.toList)) ∧ Below w'.heap.size w' w'') := L2
  have tX : SX.toList = X := by rw [ByteArray.toList_eq, dX]
  have tY : SY.toList = Y := by rw [ByteArray.toList_eq, dY]
  have TXY : Hid (SX.toList = X ∧ SY.toList = Y) := ⟨tX, tY⟩
  clear hX hY H1 H2 L1 L2 hSX hSY dX dY zX zY hla hlb tX tY
  by_cases hXY : X = Y
  · have c1 : (SX.toList == SY.toList) = true := by rw [TXY.out.1, TXY.out.2, hXY]; simp
    have HR := HR1.out hXY
    have HR' : Hid (rk X Y a.data.toList b.data.toList = Op.bytesLess a.data.toList b.data.toList) := HR
    clear HR HR1 HR2 hXY
    go_enter Tryd.func7, Tryd.ntmps7
    go_wp2_with fail
    refine (K1.out _).mono ?_
    rintro e w1 ⟨rfl, hb1⟩
    go_wp2_with fail
    refine (K2.out _).mono ?_
    rintro e w2 ⟨rfl, hb2⟩
    go_wp2_with fail
    refine (K4.out _).mono ?_
    rintro e w3 ⟨rfl, hb3⟩
    go_wp2
    go_ret
    exact ⟨by rw [HR'.out]; rfl, (hb1.trans (hb2.mono hb1.size)).trans (hb3.mono (Nat.le_trans hb1.size hb2.size))⟩
  · have c1 : (SX.toList == SY.toList) = false := by rw [TXY.out.1, TXY.out.2]; exact beq_eq_false_iff_ne.2 hXY
    have HR' : Hid (rk X Y a.data.toList b.data.toList = Op.bytesLess Y X) := HR2.out hXY
    clear HR1 HR2 hXY
    go_enter Tryd.func7, Tryd.ntmps7
    go_wp2_with fail
    refine (K1.out _).mono ?_
    rintro e w1 ⟨rfl, hb1⟩
    go_wp2_with fail
    refine (K2.out _).mono ?_
    rintro e w2 ⟨rfl, hb2⟩
    go_wp2_with fail
    refine (K3.out _).mono ?_
    rintro e w3 ⟨rfl, hb3⟩
    go_wp2
    go_ret
    exact ⟨by rw [HR'.out]; rfl, (hb1.trans (hb2.mono hb1.size)).trans (hb3.mono (Nat.le_trans hb1.size hb2.size))⟩

set_option maxRecDepth 100000 in
set_option maxHeartbeats 400000 in
theorem ihigher_any (a b : ByteArray) (w : World) (ha : a.size ≤ 1048576) (hb : b.size ≤ 1048576)
    (hK : ∀ j, j < 64 → w.cell? ⟨0, j, none⟩ = some (.int .u32 ((kTab.getD j 0).toNat : Int))) :
    Calls Tryd.prog 8 #[.string a, .string b] w fun e w' => e = .returned (.bool (rk (sha a.data.toList) (sha b.data.toList) a.data.toList b.data.toList)) ∧ Below w.heap.size w w' := by
  have hla : (sha a.data.toList).length = 32 := by unfold sha; rw [outTo_length]
  have hlb : (sha b.data.toList).length = 32 := by unfold sha; rw [outTo_length]
  have hl0 : 0 < w.heap.size := World.block_lt_of_cell? w _ (hK 0 (by omega))
  have H1 : ∀ w', Below w.heap.size w w' → Calls Tryd.prog 14 #[.string a] w' fun e w'' => e = .returned (.agg ((sha a.data.toList).map B ++ [Value.string a]).toArray) ∧ Below w'.heap.size w' w'' := fun w' hb => rank_any a w' ha (fun j hj => (hb.cell (by exact hl0)).trans (hK j hj))
  have H2 : ∀ w', Below w.heap.size w w' → Calls Tryd.prog 14 #[.string b] w' fun e w'' => e = .returned (.agg ((sha b.data.toList).map B ++ [Value.string b]).toArray) ∧ Below w'.heap.size w' w'' := fun w' hb' => rank_any b w' hb (fun j hj => (hb'.cell (by exact hl0)).trans (hK j hj))
  clear hK
  obtain ⟨X, hX⟩ : ∃ X, sha a.data.toList = X := ⟨_, rfl⟩
  obtain ⟨Y, hY⟩ : ∃ Y, sha b.data.toList = Y := ⟨_, rfl⟩
  rw [hX] at hla H1
  rw [hY] at hlb H2
  rw [hX, hY]
  have K3 := fun w' => above_any X Y hla hlb a b w'
  obtain ⟨LX, hLX⟩ : ∃ L, (X.map B ++ [Value.string a]).toArray = L := ⟨_, rfl⟩
  obtain ⟨LY, hLY⟩ : ∃ L, (Y.map B ++ [Value.string b]).toArray = L := ⟨_, rfl⟩
  rw [hLX] at H1 K3
  rw [hLY] at H2 K3
  have K1 : Hid (∀ w', Below w.heap.size w w' → Calls Tryd.prog 14 #[.string a] w' fun e w'' => e = .returned (.agg LX) ∧ Below w'.heap.size w' w'') := H1
  have K2 : Hid (∀ w', Below w.heap.size w w' → Calls Tryd.prog 14 #[.string b] w' fun e w'' => e = .returned (.agg LY) ∧ Below w'.heap.size w' w'') := H2
  have K3' : Hid (∀ w', Calls Tryd.prog 15 #[.agg LX, .agg LY] w' fun e w'' => e = .returned (.bool (rk X Y a.data.toList b.data.toList)) ∧ Below w'.heap.size w' w'') := K3
  clear hX hY H1 H2 K3 hLX hLY hla hlb
  go_enter Tryd.func8, Tryd.ntmps8
  go_wp2_with fail
  refine (K1.out _ (Below.refl _ _)).mono ?_
  rintro e w1 ⟨rfl, hb1⟩
  go_wp2_with fail
  refine (K2.out _ hb1).mono ?_
  rintro e w2 ⟨rfl, hb2⟩
  go_wp2_with fail
  refine (K3'.out _).mono ?_
  rintro e w3 ⟨rfl, hb3⟩
  go_wp2
  go_ret
  exact ⟨rfl, (hb1.trans (hb2.mono hb1.size)).trans (hb3.mono (Nat.le_trans hb1.size hb2.size))⟩

set_option maxRecDepth 100000 in
set_option maxHeartbeats 400000 in
theorem hlaw_big (a b : ByteArray) (w : World) (hma : a.size ≤ maxLen) (hmb : b.size ≤ maxLen) (h : 1048576 < a.size ∨ 1048576 < b.size) :
    Calls Tryd.prog 4 #[.string a, .string b] w fun e w' => e = .returned (.bool true) ∧ Below w.heap.size w w' := by
  unfold maxLen at hma hmb
  by_cases h1 : 1048576 < a.size
  · go_enter Tryd.func4, Tryd.ntmps4
    go_wp2_with fail
    go_ret
    exact ⟨rfl, Below.refl _ _⟩
  · have h2 : 1048576 < b.size := by omega
    go_enter Tryd.func4, Tryd.ntmps4
    go_wp2_with fail
    go_ret
    exact ⟨rfl, Below.refl _ _⟩

set_option maxRecDepth 100000 in
set_option maxHeartbeats 400000 in
theorem hlaw_any (a b : ByteArray) (w : World) (hma : a.size ≤ maxLen) (hmb : b.size ≤ maxLen)
    (hK : ∀ j, j < 64 → w.cell? ⟨0, j, none⟩ = some (.int .u32 ((kTab.getD j 0).toNat : Int))) :
    Calls Tryd.prog 4 #[.string a, .string b] w fun e w' => e = .returned (.bool true) ∧ Below w.heap.size w w' := by
  by_cases hbig : 1048576 < a.size ∨ 1048576 < b.size
  · exact hlaw_big a b w hma hmb hbig
  · have ha : a.size ≤ 1048576 := by omega
    have hb : b.size ≤ 1048576 := by omega
    have hl0 : 0 < w.heap.size := World.block_lt_of_cell? w _ (hK 0 (by omega))
    have H1 := shigher_any a b w ha hb
    have H2 : ∀ w', Below w.heap.size w w' → Calls Tryd.prog 8 #[.string a, .string b] w' fun e w'' => e = .returned (.bool (rk (sha a.data.toList) (sha b.data.toList) a.data.toList b.data.toList)) ∧ Below w'.heap.size w' w'' := fun w' hbb => ihigher_any a b w' ha hb (fun j hj => (hbb.cell (by exact hl0)).trans (hK j hj))
    clear hK hbig hma hmb
    obtain ⟨r, hr⟩ : ∃ r, rk (sha a.data.toList) (sha b.data.toList) a.data.toList b.data.toList = r := ⟨_, rfl⟩
    rw [hr] at H1 H2
    clear hr
    have K1 : Hid (Calls Tryd.prog 7 #[.string a, .string b] w fun e w'' => e = .returned (.bool r) ∧ Below w.heap.size w w'') := H1
    have K2 : Hid (∀ w', Below w.heap.size w w' → Calls Tryd.prog 8 #[.string a, .string b] w' fun e w'' => e = .returned (.bool r) ∧ Below w'.heap.size w' w'') := H2
    clear H1 H2
    cases r
    all_goals
      go_enter Tryd.func4, Tryd.ntmps4
      go_wp2_with fail
      refine K1.out.mono ?_
      rintro e w1 ⟨rfl, hb1⟩
      go_wp2_with fail
      refine (K2.out _ hb1).mono ?_
      rintro e w2 ⟨rfl, hb2⟩
      go_wp2
      go_ret
      exact ⟨rfl, hb1.trans (hb2.mono hb1.size)⟩
end Go.Proofs.YtcjffghdojfnbabDoor
