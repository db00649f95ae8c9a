import Derived.Test.YtibjhkpgaaapaaaGreatDoorZvbq
import Derived.Test.YtibjhkpgaaapaaaGreatDoorZvaf
import Derived.Test.YtibjhkpgaaapaaaGreatDoorZvbb
namespace Go.Proofs.YtibjhkpgaaapaaaGreatDoor
open Go.RowKit Go.Proofs.Sha

/-- What is left of a number, and its digits so far. -/
def leftK (k : Nat) : Nat → Nat
  | 0 => k
  | j + 1 => leftK k j / 10
def digs (k : Nat) : Nat → ByteArray
  | 0 => ⟨#[]⟩
  | j + 1 => ⟨#[UInt8.ofNat (48 + leftK k j % 10)]⟩ ++ digs k j
theorem digs_size (k j : Nat) : (digs k j).size = j := by
  induction j with
  | zero => rfl
  | succ j ih => rw [digs, ByteArray.size_append, ih]; show 1 + j = _; omega
theorem leftK_le (k j : Nat) (h : ∀ i, i < j → 0 < leftK k i) : leftK k j + j ≤ k := by
  induction j with
  | zero => exact Nat.le_refl _
  | succ j ih =>
    have h1 := ih (fun i hi => h i (by omega))
    have h2 := h j (by omega)
    rw [leftK]
    omega
theorem leftK_ends (k : Nat) : ∃ j, leftK k j = 0 ∧ ∀ i, i < j → 0 < leftK k i := by
  by_cases h : ∀ j, ∀ i, i < j → 0 < leftK k i
  · exfalso
    have := leftK_le k (k + 1) (h (k + 1))
    omega
  · obtain ⟨j, hj⟩ := Classical.not_forall.1 h
    clear h
    induction j with
    | zero => exact absurd (fun i hi => absurd hi (Nat.not_lt_zero i)) hj
    | succ j ih =>
      by_cases hs : ∀ i, i < j → 0 < leftK k i
      · refine ⟨j, ?_, hs⟩
        apply Nat.eq_zero_of_not_pos
        intro hp
        exact hj (fun i hi => by
          by_cases e : i = j
          · subst e; exact hp
          · exact hs i (by omega))
      · exact ih hs
set_option maxRecDepth 100000 in
set_option maxHeartbeats 400000 in
theorem markText_ex (k : Nat) (hk : 1 ≤ k) (hk2 : k ≤ 4000000) : ∃ X : ByteArray, ∀ w, Calls Tryz.prog 57 #[.int .i64 (k : Int)] w fun e w' => e = .returned (.string X) ∧ Below w.heap.size w w' := by
  obtain ⟨j0, hj0, hpos⟩ := leftK_ends k
  have hjb : j0 ≤ k := by have := leftK_le k j0 hpos; omega
  refine ⟨⟨#[109]⟩ ++ digs k j0, fun w => ?_⟩
  have z0 : decide ((k : Int) ≤ 0) = false := by rw [decide_eq_false_iff_not]; omega
  have z00 : decide (k = 0) = false := by rw [decide_eq_false_iff_not]; omega
  have z01 : ¬ k = 0 := by omega
  obtain ⟨Y, hY⟩ : ∃ Y, (⟨#[109]⟩ : ByteArray) ++ digs k j0 = Y := ⟨_, rfl⟩
  rw [hY]
  have HY : Hid ((⟨#[109]⟩ : ByteArray) ++ digs k j0 = Y) := hY
  clear hY
  go_enter Tryz.func57, Tryz.ntmps57
  go_wp2_with fail
  go_loopw [0, 3] (fun t0 t3 wr => ∃ j : Nat, j ≤ j0 ∧ t0 = .int .i64 (leftK k j : Int) ∧ t3 = .string (digs k j) ∧ Below w.heap.size w wr) (fun t0 _ _ => (intOf t0).toNat)
  case atStart => exact ⟨0, Nat.zero_le _, rfl, rfl, Below.refl _ _⟩
  case round =>
    obtain ⟨j, hj, rfl, rfl, hbw⟩ := hrel
    have hKb : leftK k j ≤ 4000000 := by have := leftK_le k j (fun i hi => hpos i (by omega)); omega
    have hsz := digs_size k j
    by_cases hlt : j < j0
    · have hp := hpos j hlt
      have hnx : Hid (leftK k (j + 1) = leftK k j / 10) := rfl
      have hdx : Hid (digs k (j + 1) = ⟨#[UInt8.ofNat (48 + leftK k j % 10)]⟩ ++ digs k j) := rfl
      generalize leftK k j = K at hp hKb hnx hdx ⊢
      generalize hD : digs k j = D at hsz hdx ⊢
      have z1 : decide ((K : Int) > 0) = true := by rw [decide_eq_true_eq]; omega
      have z2 : decide ((0 : Int) < (K : Int)) = true := by rw [decide_eq_true_eq]; omega
      have z3 : decide (0 < K) = true := by rw [decide_eq_true_eq]; omega
      obtain ⟨d, hd⟩ : ∃ d, 48 + K % 10 = d := ⟨_, rfl⟩
      have hrow : Row (wr.alloc (.cells #[.int .u8 (48 + (K : Int) % 10)] 5)) wr.heap.size wr.heap.size 1 1 ([UInt8.ofNat d].map B) := by
        have e : [UInt8.ofNat d].map B = [.int .u8 (48 + (K : Int) % 10)] := by
          show [B (UInt8.ofNat d)] = _
          unfold B
          have h8 : ((UInt8.ofNat d).toNat : Int) = 48 + (K : Int) % 10 := by
            rw [UInt8.toNat_ofNat']; omega
          rw [h8]
        rw [e]
        exact Row.of_block (Nat.le_refl _) (heap_alloc_new wr (.cells #[.int .u8 (48 + (K : Int) % 10)] 5)) 1 (by simp) (.inl rfl)
      have hbn : Below w.heap.size w (wr.alloc (.cells #[.int .u8 (48 + (K : Int) % 10)] 5)) := hbw.alloc hbw.size _
      rw [hd] at hdx
      have z4 : ¬ (9223372036854775807 < (⟨[UInt8.ofNat d].toArray⟩ : ByteArray).size + D.size) := by show ¬ _ < 1 + _; omega
      have z5 : ¬ (9223372036854775807 < 1 + D.size) := by omega
      have z6 : ¬ (9223372036854775807 < (⟨#[UInt8.ofNat d]⟩ : ByteArray).size + D.size) := by show ¬ _ < 1 + _; omega
      clear hd hpos
      go_upto_region 5 with fail
      go_wp2_with (first | (refine wpList_string_row _ rfl (.tmp 12) 41 9 5 rfl wr.heap.size wr.heap.size 1 1 [UInt8.ofNat d] rfl hrow Tryz.underlying41 Tryz.underlying5 Tryz.underlying9 ?_))
      go_roundw
      case rel => exact ⟨j + 1, hlt, by rw [hnx.out]; rfl, by rw [hdx.out], hbn⟩
      case measure => simp [intOf]; omega
    · obtain rfl : j = j0 := by omega
      rw [hj0]
      have z4 : ¬ (9223372036854775807 < (⟨#[109]⟩ : ByteArray).size + (digs k j).size) := by show ¬ _ < 1 + _; omega
      have z5 : ¬ (9223372036854775807 < 1 + (digs k j).size) := by omega
      go_wp2_with fail
      go_ret
      exact ⟨by rw [← HY.out]; rfl, hbw⟩
end Go.Proofs.YtibjhkpgaaapaaaGreatDoor
namespace Go.Proofs.YtibjhkpgaaapaaaGreatDoor
open Go.RowKit Go.Proofs.Sha

/-- What markText's contract says, by itself. -/
def MarkSaid (M : Nat → ByteArray) : Prop := ∀ k : Nat, 1 ≤ k → k ≤ 4000000 → ∀ w, Calls Tryz.prog 57 #[.int .i64 (k : Int)] w fun e w' => e = .returned (.string (M k)) ∧ Below w.heap.size w w'
theorem mark_ex : ∃ M, MarkSaid M := by
  have h : ∀ k : Nat, ∃ X : ByteArray, 1 ≤ k → k ≤ 4000000 → ∀ w, Calls Tryz.prog 57 #[.int .i64 (k : Int)] w fun e w' => e = .returned (.string X) ∧ Below w.heap.size w w' := fun k => by
    by_cases h1 : 1 ≤ k ∧ k ≤ 4000000
    · obtain ⟨X, hX⟩ := markText_ex k h1.1 h1.2
      exact ⟨X, fun _ _ => hX⟩
    · exact ⟨⟨#[]⟩, fun a b => absurd ⟨a, b⟩ h1⟩
  obtain ⟨M, hM⟩ := Classical.axiomOfChoice h
  exact ⟨M, hM⟩
def marksV (M : Nat → ByteArray) (k0 n : Nat) : List Value := (List.range n).map fun i => .string (M (k0 + i))
/-- A row, or nothing. -/
def SRow (w : World) (base : Nat) (a : Option Addr) (n c : Nat) (xs : List Value) : Prop := n = 0 ∨ ∃ g, a = some ⟨g, 0, none⟩ ∧ Row w base g n c xs
theorem own_srow {w : World} {base n c : Nat} {a : Option Addr} {xs : List Value} (h : w.ownsRow base 9 1 (.slice a n c) n xs) : SRow w base a n c xs := by
  by_cases hn : n = 0
  · exact .inl hn
  · right
    rcases h.2 with ⟨e, h0⟩ | ⟨g, cap, cur, e, hb, hg, q1, q2, q3, q4⟩
    · omega
    · simp only [Value.slice.injEq, true_and] at e
      obtain ⟨rfl, rfl⟩ := e
      refine ⟨g, rfl, hb, (Array.getElem?_eq_some_iff.1 hg).1, by have := h.1; omega, q1, fun j hj => ?_, fun j hj => ?_, fun j _ => ?_⟩
      · rw [cell_of_row w g j cur 9 (0, 0) hg, ← q4, List.getElem?_take, if_pos (by omega)]; simp
      · rw [cell_of_row w g j cur 9 (0, 0) hg, Array.getElem?_eq_getElem (by omega)]; rfl
      · rw [World.frozen?, hg]; rfl
theorem SRow.kept {w w' : World} {base n c : Nat} {a : Option Addr} {xs : List Value} {row : Option Nat} (h : SRow w base a n c xs) (hg : w.grownBy w' row) (hn : ∀ g, a = some ⟨g, 0, none⟩ → some g ≠ row) : SRow w' base a n c xs := by
  rcases h with h | ⟨g, ha, hr⟩
  · exact .inl h
  · exact .inr ⟨g, ha, hr.kept hg (hn g ha)⟩
theorem SRow.below {w w' : World} {base n c : Nat} {a : Option Addr} {xs : List Value} (h : SRow w base a n c xs) (hb : Below w.heap.size w w') : SRow w' base a n c xs := h.kept (grownBy_of_below hb none) (fun _ _ e => by cases e)
def partV (ys xs : List Value) (k : Nat) : List Value := ys.take k ++ xs.drop k
theorem partV_set (ys xs : List Value) (k : Nat) (h1 : k < ys.length) (h2 : k < xs.length) (v : Value) (hv : ys[k] = v) : (partV ys xs k).set k v = partV ys xs (k + 1) := by
  unfold partV
  rw [List.set_append_right _ _ (by rw [List.length_take]; omega), List.length_take, show k - min k ys.length = 0 by omega, List.drop_eq_getElem_cons h2, List.set_cons_zero, List.take_add_one, List.getElem?_eq_getElem h1, hv]
  simp
theorem marksV_at (M : Nat → ByteArray) (k0 n k : Nat) (h : k < (marksV M k0 n).length) : (marksV M k0 n)[k] = .string (M (k0 + k)) := by simp [marksV]
theorem marksV_len (M : Nat → ByteArray) (k0 n : Nat) : (marksV M k0 n).length = n := by simp [marksV]

end Go.Proofs.YtibjhkpgaaapaaaGreatDoor
namespace Go.Proofs.YtibjhkpgaaapaaaGreatDoor
open Go.RowKit Go.Proofs.Sha

/-- A row of pairs, or nothing. -/
def PRow (w : World) (base : Nat) (a : Option Addr) (n _c : Nat) (xs : List Value) : Prop := n = 0 ∨ ∃ g, a = some ⟨g, 0, none⟩ ∧ Row w base g (n * 2) (n * 2) xs
theorem own_prow {w : World} {base n c : Nat} {a : Option Addr} {xs : List Value} (h : w.ownsRow base 81 2 (.slice a n c) n xs) : PRow w base a n c xs := by
  by_cases hn : n = 0
  · exact .inl hn
  · right
    rcases h.2 with ⟨e, h0⟩ | ⟨g, cap, cur, e, hb, hg, q1, q2, q3, q4⟩
    · omega
    · simp only [Value.slice.injEq, true_and] at e
      obtain ⟨rfl, rfl⟩ := e
      refine ⟨g, rfl, hb, (Array.getElem?_eq_some_iff.1 hg).1, by have := h.1; omega, Nat.le_refl _, fun j hj => ?_, fun j hj => ?_, fun j _ => ?_⟩
      · rw [cell_of_row w g j cur 81 (0, 0) hg, ← q4, List.getElem?_take, if_pos (by omega)]; simp
      · rw [cell_of_row w g j cur 81 (0, 0) hg, Array.getElem?_eq_getElem (by omega)]; rfl
      · rw [World.frozen?, hg]; rfl
theorem PRow.below {w w' : World} {base n c : Nat} {a : Option Addr} {xs : List Value} (h : PRow w base a n c xs) (hb : Below w.heap.size w w') : PRow w' base a n c xs := by
  rcases h with h | ⟨g, h1, h2⟩
  · exact .inl h
  · exact .inr ⟨g, h1, h2.below hb⟩
set_option maxRecDepth 100000 in
set_option maxHeartbeats 400000 in
theorem markP_row (M : Nat → ByteArray) (HM : Hid (MarkSaid M)) (base g n c k0 : Nat) (xs : List Value) (w : World) (h : Row w base g (n * 2) (n * 2) xs) (h1 : 1 ≤ k0) (h2 : k0 + n * 2 ≤ 4000000) :
    Calls Tryz.prog 19 #[.slice (some ⟨g, 0, none⟩) n c, .int .i64 (k0 : Int)] w fun e w' => e = .returned (.int .i64 ((k0 + n * 2 : Nat) : Int)) ∧ Row w' base g (n * 2) (n * 2) (marksV M k0 (n * 2)) ∧ w.grownBy w' (some g) := by
  have hxl := h.len
  obtain ⟨Y, hY⟩ : ∃ Y, marksV M k0 (n * 2) = Y := ⟨_, rfl⟩
  have hYl : Y.length = n * 2 := by rw [← hY, marksV_len]
  have HYa : Hid (∀ k (hk : k < Y.length), Y[k] = .string (M (k0 + k))) := by subst hY; exact fun k hk => marksV_at M k0 (n * 2) k hk
  rw [hY]
  clear hY
  obtain ⟨z, hz⟩ : ∃ z : Int, ((k0 + n * 2 : Nat) : Int) = z := ⟨_, rfl⟩
  rw [hz]
  have HZ : Hid (((k0 + n * 2 : Nat) : Int) = z) := hz
  clear hz
  go_enter Tryz.func19, Tryz.ntmps19
  go_wp2_with fail
  go_loopw [1, 5] (fun t1 t5 wr => ∃ k : Nat, k ≤ n ∧ t1 = .int .i64 ((k0 + k * 2 : Nat) : Int) ∧ t5 = .int .i64 (k : Int) ∧ Row wr base g (n * 2) (n * 2) (partV Y xs (k * 2)) ∧ w.grownBy wr (some g)) (fun _ t5 _ => n - (intOf t5).toNat)
  case atStart => exact ⟨0, Nat.zero_le _, rfl, rfl, by unfold partV; simpa using h, grownBy_refl _ _⟩
  case round =>
    obtain ⟨k, hk, rfl, rfl, hrow, hgr⟩ := hrel
    by_cases hlt : k < n
    · have z1 : decide ((k : Int) < (n : Int)) = true := by simp; omega
      have hx0 : (0 : Int) ≤ (k : Int) := Int.natCast_nonneg _
      have hx1 : (k : Int) < (n : Int) := by omega
      have HK : Hid (∀ w', Calls Tryz.prog 57 #[.int .i64 ((k0 + k * 2 : Nat) : Int)] w' fun e w'' => e = .returned (.string (M (k0 + k * 2))) ∧ Below w'.heap.size w' w'') := fun w' => HM.out (k0 + k * 2) (by omega) (by omega) w'
      have HK2 : Hid (∀ w', Calls Tryz.prog 57 #[.int .i64 (((k0 + k * 2 : Nat) : Int) + 1)] w' fun e w'' => e = .returned (.string (M (k0 + (k * 2 + 1)))) ∧ Below w'.heap.size w' w'') := fun w' => HM.out (k0 + (k * 2 + 1)) (by omega) (by omega) w'
      have hset : Hid ((partV Y xs (k * 2)).set (k * 2) (.string (M (k0 + k * 2))) = partV Y xs (k * 2 + 1)) := partV_set Y xs (k * 2) (by omega) (by omega) _ (HYa.out (k * 2) (by omega))
      have hset2 : Hid ((partV Y xs (k * 2 + 1)).set (k * 2 + 1) (.string (M (k0 + (k * 2 + 1)))) = partV Y xs (k * 2 + 1 + 1)) := partV_set Y xs (k * 2 + 1) (by omega) (by omega) _ (HYa.out (k * 2 + 1) (by omega))
      obtain ⟨X, hX⟩ : ∃ X, M (k0 + k * 2) = X := ⟨_, rfl⟩
      rw [hX] at HK hset
      obtain ⟨X2, hX2⟩ : ∃ X2, M (k0 + (k * 2 + 1)) = X2 := ⟨_, rfl⟩
      rw [hX2] at HK2 hset2
      obtain ⟨p, hp⟩ : ∃ p : Nat, k0 + k * 2 = p := ⟨_, rfl⟩
      rw [hp] at HK HK2 ⊢
      have hpb : p ≤ 4000000 := by omega
      have hpn : Hid (k0 + (k + 1) * 2 = p + 1 + 1) := by show _ = _; omega
      clear hX hp hX2
      go_wp2_with fail
      refine (HK.out _).mono ?_
      rintro e w1 ⟨rfl, hb1⟩
      have hrow1 := hrow.below hb1
      have hrow1s := hrow1.set (k * 2) (by omega) (Value.string X)
      rw [hset.out] at hrow1s
      have hfr := hrow1.free (k * 2) (by omega)
      obtain ⟨y, hy⟩ := Option.isSome_iff_exists.1 (hrow1.room (k * 2) (by omega))
      go_wp2_with fail
      refine (HK2.out _).mono ?_
      rintro e w2 ⟨rfl, hb2⟩
      have hrow2 := hrow1s.below hb2
      have hfr2 := hrow2.free (k * 2 + 1) (by omega)
      obtain ⟨y2, hy2⟩ := Option.isSome_iff_exists.1 (hrow2.room (k * 2 + 1) (by omega))
      go_wp2_with fail
      go_roundw
      case rel =>
        have e := hrow2.set (k * 2 + 1) (by omega) (Value.string X2)
        rw [hset2.out] at e
        exact ⟨k + 1, hlt, by rw [hpn.out]; rfl, rfl, by rw [show (k + 1) * 2 = k * 2 + 1 + 1 by omega]; exact e, grownBy_trans hgr (grownBy_trans (grownBy_of_below hb1 _) (grownBy_trans (grownBy_setCell _ _ _ _) (grownBy_trans (grownBy_of_below hb2 _) (grownBy_setCell _ _ _ _))))⟩
      case measure => simp [intOf]; omega
    · obtain rfl : k = n := by omega
      have z1 : decide ((k : Int) < (k : Int)) = false := by simp
      have hfin : Row wr base g (k * 2) (k * 2) Y := by
        have : partV Y xs (k * 2) = Y := by unfold partV; rw [List.take_of_length_le (by omega), List.drop_of_length_le (by omega), List.append_nil]
        rw [this] at hrow; exact hrow
      rw [HZ.out]
      go_wp2_with fail
      go_ret
      exact ⟨rfl, hfin, hgr⟩
set_option maxRecDepth 100000 in
theorem markP_zero (a : Option Addr) (c k0 : Nat) (w : World) : Calls Tryz.prog 19 #[.slice a 0 c, .int .i64 (k0 : Int)] w fun e w' => e = .returned (.int .i64 (k0 : Int)) ∧ w = w' := by
  go_enter Tryz.func19, Tryz.ntmps19
  go_wp2_with fail
  go_loopw [1, 5] (fun t1 t5 wr => t1 = .int .i64 (k0 : Int) ∧ t5 = .int .i64 0 ∧ w = wr) (fun _ _ _ => 0)
  case atStart => exact ⟨rfl, rfl, rfl⟩
  case round =>
    obtain ⟨rfl, rfl, rfl⟩ := hrel
    go_wp2_with fail
    go_ret
    exact ⟨rfl, by first | rfl | trivial⟩
theorem markP_any (M : Nat → ByteArray) (HM : Hid (MarkSaid M)) (base n c k0 : Nat) (a : Option Addr) (xs : List Value) (w : World) (h : PRow w base a n c xs) (h1 : 1 ≤ k0) (h2 : k0 + n * 2 ≤ 4000000) :
    Calls Tryz.prog 19 #[.slice a n c, .int .i64 (k0 : Int)] w fun e w' => e = .returned (.int .i64 ((k0 + n * 2 : Nat) : Int)) ∧ PRow w' base a n c (marksV M k0 (n * 2)) ∧ w.grownBy w' (if n = 0 then none else (Value.slice a n c).ownBlock) := by
  by_cases hn : n = 0
  · subst hn
    refine (markP_zero a c k0 w).mono ?_
    rintro e w' ⟨rfl, rfl⟩
    exact ⟨rfl, .inl rfl, grownBy_refl _ _⟩
  · rcases h with h | ⟨g, rfl, hr⟩
    · exact absurd h hn
    · refine (markP_row M HM base g n c k0 xs w hr h1 h2).mono ?_
      rintro e w' ⟨rfl, q1, q2⟩
      rw [if_neg hn]
      exact ⟨rfl, .inr ⟨g, rfl, q1⟩, q2⟩
set_option maxRecDepth 100000 in
set_option maxHeartbeats 400000 in
theorem heldP_any (M : Nat → ByteArray) (HM : Hid (MarkSaid M)) (base n c k0 : Nat) (a : Option Addr) (w : World) (h : PRow w base a n c (marksV M k0 (n * 2))) (h1 : 1 ≤ k0) (h2 : k0 + n * 2 ≤ 4000000) :
    Calls Tryz.prog 20 #[.slice a n c, .int .i64 (k0 : Int)] w fun e w' => e = .returned (.int .i64 ((k0 + n * 2 : Nat) : Int)) ∧ Below w.heap.size w w' := by
  obtain ⟨z, hz⟩ : ∃ z : Int, ((k0 + n * 2 : Nat) : Int) = z := ⟨_, rfl⟩
  rw [hz]
  have HZ : Hid (((k0 + n * 2 : Nat) : Int) = z) := hz
  clear hz
  go_enter Tryz.func20, Tryz.ntmps20
  go_wp2_with fail
  go_loopw [1, 5] (fun t1 t5 wr => ∃ k : Nat, k ≤ n ∧ t1 = .int .i64 ((k0 + k * 2 : Nat) : Int) ∧ t5 = .int .i64 (k : Int) ∧ Below w.heap.size w wr) (fun _ t5 _ => n - (intOf t5).toNat)
  case atStart => exact ⟨0, Nat.zero_le _, rfl, rfl, Below.refl _ _⟩
  case round =>
    obtain ⟨k, hk, rfl, rfl, hbw⟩ := hrel
    by_cases hlt : k < n
    · have z1 : decide ((k : Int) < (n : Int)) = true := by simp; omega
      have hx0 : (0 : Int) ≤ (k : Int) := Int.natCast_nonneg _
      have hx1 : (k : Int) < (n : Int) := by omega
      have HK : Hid (∀ w', Calls Tryz.prog 57 #[.int .i64 ((k0 + k * 2 : Nat) : Int)] w' fun e w'' => e = .returned (.string (M (k0 + k * 2))) ∧ Below w'.heap.size w' w'') := fun w' => HM.out (k0 + k * 2) (by omega) (by omega) w'
      have HK2 : Hid (∀ w', Calls Tryz.prog 57 #[.int .i64 (((k0 + k * 2 : Nat) : Int) + 1)] w' fun e w'' => e = .returned (.string (M (k0 + (k * 2 + 1)))) ∧ Below w'.heap.size w' w'') := fun w' => HM.out (k0 + (k * 2 + 1)) (by omega) (by omega) w'
      rcases h.below hbw with h0 | ⟨g, rfl, hrow⟩
      · omega
      · have hcx : wr.cell? ⟨g, k * 2, none⟩ = some (.string (M (k0 + k * 2))) := by
          rw [hrow.cell (k * 2) (by omega), List.getElem?_eq_getElem (by rw [marksV_len]; omega), marksV_at]
        have hcy : wr.cell? ⟨g, k * 2 + 1, none⟩ = some (.string (M (k0 + (k * 2 + 1)))) := by
          rw [hrow.cell (k * 2 + 1) (by omega), List.getElem?_eq_getElem (by rw [marksV_len]; omega), marksV_at]
        obtain ⟨X, hX⟩ : ∃ X, M (k0 + k * 2) = X := ⟨_, rfl⟩
        rw [hX] at HK hcx
        obtain ⟨X2, hX2⟩ : ∃ X2, M (k0 + (k * 2 + 1)) = X2 := ⟨_, rfl⟩
        rw [hX2] at HK2 hcy
        obtain ⟨p, hp⟩ : ∃ p : Nat, k0 + k * 2 = p := ⟨_, rfl⟩
        rw [hp] at HK HK2 ⊢
        have hpb : p ≤ 4000000 := by omega
        have hpn : Hid (k0 + (k + 1) * 2 = p + 1 + 1) := by show _ = _; omega
        have hgl := hrow.lt
        have hq : (X.toList != X.toList) = false := by simp
        have hq2 : (X2.toList != X2.toList) = false := by simp
        clear hX hp hrow hX2
        have HC : Hid (∀ W : World, Below wr.heap.size wr W → W.cell? ⟨g, k * 2, none⟩ = some (.string X) ∧ W.cell? ⟨g, k * 2 + 1, none⟩ = some (.string X2)) := fun W hW => ⟨(hW.cell hgl).trans hcx, (hW.cell hgl).trans hcy⟩
        go_upto_region 4 with fail
        go_region_held3 (fun W => W.cell? ⟨g, k * 2, none⟩ = some (.string X)) (first | exact hcx | exact (HC.out _ hb1).1) (first | (go_at_call 57; refine (HK.out _).mono ?_; rintro e w1 ⟨rfl, hb1'⟩; have hb1 : Below wr.heap.size wr w1 := (Below.refl wr.heap.size wr).drew.trans hb1'; clear hb1'))
        obtain ⟨_, hcy1⟩ := HC.out _ hb1
        go_wp2_with fail
        go_region_held3 (fun W => W.cell? ⟨g, k * 2 + 1, none⟩ = some (.string X2)) (first | exact hcy1 | exact (HC.out _ hb2).2) (first | (go_at_call 57; refine (HK2.out _).mono ?_; rintro e w2 ⟨rfl, hb2'⟩; have hb2 : Below wr.heap.size wr w2 := hb1.trans (((Below.refl w1.heap.size w1).drew.trans hb2').mono hb1.size); clear hb2'))
        go_wp2_with fail
        go_roundw
        case rel => exact ⟨k + 1, hlt, by rw [hpn.out]; rfl, rfl, hbw.trans (hb2.mono hbw.size)⟩
        case measure => simp [intOf]; omega
    · obtain rfl : k = n := by omega
      have z1 : decide ((k : Int) < (k : Int)) = false := by simp
      rw [HZ.out]
      go_wp2_with fail
      go_ret
      exact ⟨rfl, hbw⟩
end Go.Proofs.YtibjhkpgaaapaaaGreatDoor
