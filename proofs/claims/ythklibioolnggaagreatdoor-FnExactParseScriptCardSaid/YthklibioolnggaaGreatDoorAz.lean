import Derived.Test.YthklibioolnggaaGreatDoorAy
namespace Go.Proofs.YthklibioolnggaaGreatDoor
open Go.RowKit Go.Proofs.Sha

/-- What is left of a number, and its digits so far. -/
def leftK (k : Nat) : Nat → Nat
  | 0 => k
  | j + 1 => leftK k j / 10
def digs (k : Nat) : Nat → ByteArray
  | 0 => ⟨#[]⟩
  | j + 1 => ⟨#[UInt8.ofNat (48 + leftK k j % 10)]⟩ ++ digs k j
theorem digs_size (k j : Nat) : (digs k j).size = j := by
  induction j with
  | zero => rfl
  | succ j ih => rw [digs, ByteArray.size_append, ih]; show 1 + j = _; omega
theorem leftK_le (k j : Nat) (h : ∀ i, i < j → 0 < leftK k i) : leftK k j + j ≤ k := by
  induction j with
  | zero => exact Nat.le_refl _
  | succ j ih =>
    have h1 := ih (fun i hi => h i (by omega))
    have h2 := h j (by omega)
    rw [leftK]
    omega
theorem leftK_ends (k : Nat) : ∃ j, leftK k j = 0 ∧ ∀ i, i < j → 0 < leftK k i := by
  by_cases h : ∀ j, ∀ i, i < j → 0 < leftK k i
  · exfalso
    have := leftK_le k (k + 1) (h (k + 1))
    omega
  · obtain ⟨j, hj⟩ := Classical.not_forall.1 h
    clear h
    induction j with
    | zero => exact absurd (fun i hi => absurd hi (Nat.not_lt_zero i)) hj
    | succ j ih =>
      by_cases hs : ∀ i, i < j → 0 < leftK k i
      · refine ⟨j, ?_, hs⟩
        apply Nat.eq_zero_of_not_pos
        intro hp
        exact hj (fun i hi => by
          by_cases e : i = j
          · subst e; exact hp
          · exact hs i (by omega))
      · exact ih hs
set_option maxRecDepth 100000 in
set_option maxHeartbeats 400000 in
theorem markText_ex (k : Nat) (hk : 1 ≤ k) (hk2 : k ≤ 1000000000000) : ∃ X : ByteArray, ∀ w, Calls Tryz.prog 29 #[.int .i64 (k : Int)] w fun e w' => e = .returned (.string X) ∧ Below w.heap.size w w' := by
  obtain ⟨j0, hj0, hpos⟩ := leftK_ends k
  have hjb : j0 ≤ k := by have := leftK_le k j0 hpos; omega
  refine ⟨⟨#[109]⟩ ++ digs k j0, fun w => ?_⟩
  have z0 : decide ((k : Int) ≤ 0) = false := by rw [decide_eq_false_iff_not]; omega
  have z00 : decide (k = 0) = false := by rw [decide_eq_false_iff_not]; omega
  have z01 : ¬ k = 0 := by omega
  obtain ⟨Y, hY⟩ : ∃ Y, (⟨#[109]⟩ : ByteArray) ++ digs k j0 = Y := ⟨_, rfl⟩
  rw [hY]
  have HY : Hid ((⟨#[109]⟩ : ByteArray) ++ digs k j0 = Y) := hY
  clear hY
  go_enter Tryz.func29, Tryz.ntmps29
  go_wp2_with fail
  go_loopw [0, 3] (fun t0 t3 wr => ∃ j : Nat, j ≤ j0 ∧ t0 = .int .i64 (leftK k j : Int) ∧ t3 = .string (digs k j) ∧ Below w.heap.size w wr) (fun t0 _ _ => (intOf t0).toNat)
  case atStart => exact ⟨0, Nat.zero_le _, rfl, rfl, Below.refl _ _⟩
  case round =>
    obtain ⟨j, hj, rfl, rfl, hbw⟩ := hrel
    have hKb : leftK k j ≤ 1000000000000 := by have := leftK_le k j (fun i hi => hpos i (by omega)); omega
    have hsz := digs_size k j
    by_cases hlt : j < j0
    · have hp := hpos j hlt
      have hnx : Hid (leftK k (j + 1) = leftK k j / 10) := rfl
      have hdx : Hid (digs k (j + 1) = ⟨#[UInt8.ofNat (48 + leftK k j % 10)]⟩ ++ digs k j) := rfl
      generalize leftK k j = K at hp hKb hnx hdx ⊢
      generalize hD : digs k j = D at hsz hdx ⊢
      have z1 : decide ((K : Int) > 0) = true := by rw [decide_eq_true_eq]; omega
      have z2 : decide ((0 : Int) < (K : Int)) = true := by rw [decide_eq_true_eq]; omega
      have z3 : decide (0 < K) = true := by rw [decide_eq_true_eq]; omega
      obtain ⟨d, hd⟩ : ∃ d, 48 + K % 10 = d := ⟨_, rfl⟩
      have hrow : Row (wr.alloc (.cells #[.int .u8 (48 + (K : Int) % 10)] 5)) wr.heap.size wr.heap.size 1 1 ([UInt8.ofNat d].map B) := by
        have e : [UInt8.ofNat d].map B = [.int .u8 (48 + (K : Int) % 10)] := by
          show [B (UInt8.ofNat d)] = _
          unfold B
          have h8 : ((UInt8.ofNat d).toNat : Int) = 48 + (K : Int) % 10 := by
            rw [UInt8.toNat_ofNat']; omega
          rw [h8]
        rw [e]
        exact Row.of_block (Nat.le_refl _) (heap_alloc_new wr (.cells #[.int .u8 (48 + (K : Int) % 10)] 5)) 1 (by simp) (.inl rfl)
      have hbn : Below w.heap.size w (wr.alloc (.cells #[.int .u8 (48 + (K : Int) % 10)] 5)) := hbw.alloc hbw.size _
      rw [hd] at hdx
      have z4 : ¬ (9223372036854775807 < (⟨[UInt8.ofNat d].toArray⟩ : ByteArray).size + D.size) := by show ¬ _ < 1 + _; omega
      have z5 : ¬ (9223372036854775807 < 1 + D.size) := by omega
      have z6 : ¬ (9223372036854775807 < (⟨#[UInt8.ofNat d]⟩ : ByteArray).size + D.size) := by show ¬ _ < 1 + _; omega
      clear hd hpos
      go_upto_region 5 with fail
      go_wp2_with (first | (refine wpList_string_row _ rfl (.tmp 12) 72 9 5 rfl wr.heap.size wr.heap.size 1 1 [UInt8.ofNat d] rfl hrow Tryz.underlying72 Tryz.underlying5 Tryz.underlying9 ?_))
      go_roundw
      case rel => exact ⟨j + 1, hlt, by rw [hnx.out]; rfl, by rw [hdx.out], hbn⟩
      case measure => simp [intOf]; omega
    · obtain rfl : j = j0 := by omega
      rw [hj0]
      have z4 : ¬ (9223372036854775807 < (⟨#[109]⟩ : ByteArray).size + (digs k j).size) := by show ¬ _ < 1 + _; omega
      have z5 : ¬ (9223372036854775807 < 1 + (digs k j).size) := by omega
      go_wp2_with fail
      go_ret
      exact ⟨by rw [← HY.out]; rfl, hbw⟩
def MarkSaid (M : Nat → ByteArray) : Prop := ∀ k : Nat, 1 ≤ k → k ≤ 1000000000000 → ∀ w, Calls Tryz.prog 29 #[.int .i64 (k : Int)] w fun e w' => e = .returned (.string (M k)) ∧ Below w.heap.size w w'
theorem mark_ex : ∃ M, MarkSaid M := by
  have h : ∀ k : Nat, ∃ X : ByteArray, 1 ≤ k → k ≤ 1000000000000 → ∀ w, Calls Tryz.prog 29 #[.int .i64 (k : Int)] w fun e w' => e = .returned (.string X) ∧ Below w.heap.size w w' := fun k => by
    by_cases h1 : 1 ≤ k ∧ k ≤ 1000000000000
    · obtain ⟨X, hX⟩ := markText_ex k h1.1 h1.2
      exact ⟨X, fun _ _ => hX⟩
    · exact ⟨⟨#[]⟩, fun a b => absurd ⟨a, b⟩ h1⟩
  obtain ⟨M, hM⟩ := Classical.axiomOfChoice h
  exact ⟨M, hM⟩
def marksV (M : Nat → ByteArray) (k0 n : Nat) : List Value := (List.range n).map fun i => .string (M (k0 + i))
/-- A row, or nothing. -/
def SRow (w : World) (base : Nat) (a : Option Addr) (n c : Nat) (xs : List Value) : Prop := n = 0 ∨ ∃ g, a = some ⟨g, 0, none⟩ ∧ Row w base g n c xs
def partV (ys xs : List Value) (k : Nat) : List Value := ys.take k ++ xs.drop k
theorem partV_set (ys xs : List Value) (k : Nat) (h1 : k < ys.length) (h2 : k < xs.length) (v : Value) (hv : ys[k] = v) : (partV ys xs k).set k v = partV ys xs (k + 1) := by
  unfold partV
  rw [List.set_append_right _ _ (by rw [List.length_take]; omega), List.length_take, show k - min k ys.length = 0 by omega, List.drop_eq_getElem_cons h2, List.set_cons_zero, List.take_add_one, List.getElem?_eq_getElem h1, hv]
  simp
theorem IArg.get {a : Option Addr} {xs : List Int} {W : World} (h : IArg a xs W) (j : Nat) (hj : j < xs.length) : ∃ b off, a = some ⟨b, off, none⟩ ∧ ∀ W', Below W.heap.size W W' → W'.cell? ⟨b, off + j, none⟩ = some (.int .i64 (xs.getD j 0)) := by
  obtain ⟨b, off, rfl, hlt, hc⟩ := h.at_ (by omega)
  exact ⟨b, off, rfl, fun W' hW => (hW.cell (by exact hlt)).trans (hc j hj)⟩
def marksI (k n : Nat) : List Int := (List.range n).map fun i => ((k + i : Nat) : Int)
theorem marksI_len (k n : Nat) : (marksI k n).length = n := by simp [marksI]
theorem marksI_at (k n j : Nat) (hj : j < n) : (marksI k n).getD j 0 = ((k + j : Nat) : Int) := by simp [marksI, hj]

set_option maxRecDepth 100000 in
set_option maxHeartbeats 400000 in
theorem eqInt_same (a b : Option Addr) (c d : Nat) (xs : List Int) (w : World) (ha : IArg a xs w) (hb : IArg b xs w) (hn : xs.length ≤ 1048576) :
    Calls Tryz.prog 50 #[.slice a xs.length c, .slice b xs.length d] w fun e w' => e = .returned (.bool true) ∧ Below w.heap.size w w' := by
  obtain ⟨n, hn'⟩ : ∃ n, xs.length = n := ⟨_, rfl⟩
  have hno : Hid (xs.length = n) := hn'
  rw [hn'] at hn ⊢
  clear hn'
  go_enter Tryz.func50, Tryz.ntmps50
  go_wp2_with fail
  go_loopw [5] (fun t5 wr => ∃ k : Nat, k ≤ n ∧ t5 = .int .i64 (k : Int) ∧ Below w.heap.size w wr) (fun t5 _ => n - (intOf t5).toNat)
  case atStart => exact ⟨0, Nat.zero_le _, rfl, Below.refl _ _⟩
  case round =>
    obtain ⟨k, hk, rfl, hbw⟩ := hrel
    by_cases hlt : k < n
    · have hx0 : (0 : Int) ≤ (k : Int) := Int.natCast_nonneg _
      have hx1 : (k : Int) < (n : Int) := by omega
      obtain ⟨g1, o1, rfl, h1⟩ := ha.get k (by rw [hno.out]; exact hlt)
      obtain ⟨g2, o2, rfl, h2⟩ := hb.get k (by rw [hno.out]; exact hlt)
      have c1 := h1 wr hbw
      have c2 := h2 wr hbw
      generalize xs.getD k 0 = v at c1 c2 h1 h2
      clear h1 h2
      go_upto_region 6 with fail
      go_region
      go_wp2_with fail
      go_roundw
      case rel => exact ⟨k + 1, hlt, rfl, hbw.drew⟩
      case measure => simp [intOf]; omega
    · obtain rfl : k = n := by omega
      go_wp2_with fail
      go_ret
      exact ⟨rfl, hbw⟩
set_option maxRecDepth 100000 in
set_option maxHeartbeats 400000 in
theorem heldInt_any (a : Option Addr) (c n k0 : Nat) (w : World) (ha : IArg a (marksI k0 n) w) (h1 : 1 ≤ k0) (h2 : k0 + n ≤ 1000000000000) :
    Calls Tryz.prog 31 #[.slice a n c, .int .i64 (k0 : Int)] w fun e w' => e = .returned (.int .i64 ((k0 + n : Nat) : Int)) ∧ Below w.heap.size w w' := by
  obtain ⟨z, hz⟩ : ∃ z : Int, ((k0 + n : Nat) : Int) = z := ⟨_, rfl⟩
  rw [hz]
  have HZ : Hid (((k0 + n : Nat) : Int) = z) := hz
  clear hz
  go_enter Tryz.func31, Tryz.ntmps31
  go_wp2_with fail
  go_loopw [1, 5] (fun t1 t5 wr => ∃ k : Nat, k ≤ n ∧ t1 = .int .i64 ((k0 + k : Nat) : Int) ∧ t5 = .int .i64 (k : Int) ∧ Below w.heap.size w wr) (fun _ t5 _ => n - (intOf t5).toNat)
  case atStart => exact ⟨0, Nat.zero_le _, rfl, rfl, Below.refl _ _⟩
  case round =>
    obtain ⟨k, hk, rfl, rfl, hbw⟩ := hrel
    by_cases hlt : k < n
    · have hx0 : (0 : Int) ≤ (k : Int) := Int.natCast_nonneg _
      have hx1 : (k : Int) < (n : Int) := by omega
      obtain ⟨g1, o1, rfl, h3⟩ := ha.get k (by rw [marksI_len]; exact hlt)
      have c1 := h3 wr hbw
      rw [marksI_at k0 n k hlt] at c1
      clear h3
      obtain ⟨p, hp⟩ : ∃ p : Nat, k0 + k = p := ⟨_, rfl⟩
      have hpn : Hid (k0 + (k + 1) = p + 1) := by show _ = _; omega
      have hpb : p ≤ 1000000000000 := by omega
      rw [hp] at c1 ⊢
      clear hp
      go_wp2_with fail
      go_roundw
      case rel => exact ⟨k + 1, hlt, by rw [hpn.out]; rfl, rfl, hbw⟩
      case measure => simp [intOf]; omega
    · obtain rfl : k = n := by omega
      rw [HZ.out]
      go_wp2_with fail
      go_ret
      exact ⟨rfl, hbw⟩
set_option maxRecDepth 100000 in
set_option maxHeartbeats 400000 in
theorem markInt_zero (a : Option Addr) (c k0 : Nat) (w : World) : Calls Tryz.prog 30 #[.slice a 0 c, .int .i64 (k0 : Int)] w fun e w' => e = .returned (.int .i64 (k0 : Int)) ∧ w = w' := by
  go_enter Tryz.func30, Tryz.ntmps30
  go_wp2_with fail
  go_loopw [1, 5] (fun t1 t5 wr => t1 = .int .i64 (k0 : Int) ∧ t5 = .int .i64 0 ∧ w = wr) (fun _ _ _ => 0)
  case atStart => exact ⟨rfl, rfl, rfl⟩
  case round =>
    obtain ⟨rfl, rfl, rfl⟩ := hrel
    go_wp2_with fail
    go_ret
    exact ⟨rfl, by first | rfl | trivial⟩
set_option maxRecDepth 100000 in
set_option maxHeartbeats 400000 in
theorem markInt_row (base g n c k0 : Nat) (xs : List Int) (w : World) (h : w.ownsRow base 3 1 (.slice (some ⟨g, 0, none⟩) n c) n (xs.map I)) (h1 : 1 ≤ k0) (h2 : k0 + n ≤ 1000000000000) :
    Calls Tryz.prog 30 #[.slice (some ⟨g, 0, none⟩) n c, .int .i64 (k0 : Int)] w fun e w' => e = .returned (.int .i64 ((k0 + n : Nat) : Int)) ∧ w'.ownsRow base 3 1 (.slice (some ⟨g, 0, none⟩) n c) n ((marksI k0 n).map I) ∧ w.grownBy w' (some g) := by
  have hxl : (xs.map I).length = n := by have := h.1; omega
  obtain ⟨Y, hY⟩ : ∃ Y, (marksI k0 n).map I = Y := ⟨_, rfl⟩
  have hYl : Y.length = n := by rw [← hY, List.length_map, marksI_len]
  have HYa : Hid (∀ k (hk : k < Y.length), Y[k] = .int .i64 ((k0 + k : Nat) : Int)) := by
    subst hY
    intro k hk
    have hk2 : k < n := by simpa [marksI_len] using hk
    simp [marksI, I]
  rw [hY]
  clear hY
  generalize xs.map I = X at h hxl
  obtain ⟨z, hz⟩ : ∃ z : Int, ((k0 + n : Nat) : Int) = z := ⟨_, rfl⟩
  rw [hz]
  have HZ : Hid (((k0 + n : Nat) : Int) = z) := hz
  clear hz
  go_enter Tryz.func30, Tryz.ntmps30
  go_wp2_with fail
  go_loopw [1, 5] (fun t1 t5 wr => ∃ k : Nat, k ≤ n ∧ t1 = .int .i64 ((k0 + k : Nat) : Int) ∧ t5 = .int .i64 (k : Int) ∧ wr.ownsRow base 3 1 (.slice (some ⟨g, 0, none⟩) n c) n (partV Y X k) ∧ w.grownBy wr (some g)) (fun _ t5 _ => n - (intOf t5).toNat)
  case atStart => exact ⟨0, Nat.zero_le _, rfl, rfl, by unfold partV; simpa using h, grownBy_refl _ _⟩
  case round =>
    obtain ⟨k, hk, rfl, rfl, hrow, hgr⟩ := hrel
    by_cases hlt : k < n
    · have hx0 : (0 : Int) ≤ (k : Int) := Int.natCast_nonneg _
      have hx1 : (k : Int) < (n : Int) := by omega
      have hpl : (partV Y X k).length = n := by have := hrow.1; omega
      have c1 := hrow.cellAt k (by omega)
      rw [List.getElem?_eq_getElem (by omega)] at c1
      generalize (partV Y X k)[k]'(by omega) = y0 at c1
      have f1 := hrow.frozenAt k
      have hset := partV_set Y X k (by omega) (by omega) _ (HYa.out k (by omega))
      have hst := hrow.stored k (.int .i64 ((k0 + k : Nat) : Int))
      rw [hset] at hst
      obtain ⟨p, hp⟩ : ∃ p : Nat, k0 + k = p := ⟨_, rfl⟩
      have hpn : Hid (k0 + (k + 1) = p + 1) := by show _ = _; omega
      have hpb : p ≤ 1000000000000 := by omega
      rw [hp] at hst ⊢
      obtain ⟨hs1, hs2⟩ := hst
      clear hp hset hpl
      go_wp2_with fail
      go_roundw
      case rel => exact ⟨k + 1, hlt, by rw [hpn.out]; rfl, rfl, hs1, grownBy_trans hgr hs2⟩
      case measure => simp [intOf]; omega
    · obtain rfl : k = n := by omega
      have hfin : partV Y X k = Y := by unfold partV; rw [List.take_of_length_le (by omega), List.drop_of_length_le (by omega), List.append_nil]
      rw [hfin] at hrow
      rw [HZ.out]
      go_wp2_with fail
      go_ret
      exact ⟨rfl, hrow, hgr⟩
theorem markInt_any (base n c k0 : Nat) (a : Option Addr) (xs : List Int) (w : World) (h : w.ownsRow base 3 1 (.slice a n c) n (xs.map I)) (h1 : 1 ≤ k0) (h2 : k0 + n ≤ 1000000000000) :
    Calls Tryz.prog 30 #[.slice a n c, .int .i64 (k0 : Int)] w fun e w' => e = .returned (.int .i64 ((k0 + n : Nat) : Int)) ∧ w'.ownsRow base 3 1 (.slice a n c) n ((marksI k0 n).map I) ∧ w.grownBy w' (Value.slice a n c).ownBlock := by
  rcases h.2 with ⟨hv, hn⟩ | ⟨g, cap, cur, hv, _⟩
  · injection hv with e1 e2 e3
    subst e1 e2 e3
    refine (markInt_zero none 0 k0 w).mono ?_
    rintro e w' ⟨rfl, rfl⟩
    exact ⟨rfl, World.ownsRow_nil _ _ _ _, grownBy_refl _ _⟩
  · injection hv with e1 e2 e3
    subst e1
    exact markInt_row base g n c k0 xs w h h1 h2
end Go.Proofs.YthklibioolnggaaGreatDoor
