import Derived.Test.YtliapnhckdimoacGreatDoorZh
import Derived.Test.YtliapnhckdimoacGreatDoorZc
namespace Go.Proofs.YtliapnhckdimoacGreatDoor
open Go.RowKit Go.Proofs.Sha

/-- Rows of the call's own are slices of texts. -/
theorem own_sarg {w : World} {base n c : Nat} {a : Option Addr} {ss : List ByteArray} (h : w.ownsRow base 9 1 (.slice a ss.length c) n (ss.map Value.string)) (hl : ss.length ≤ 1048576) (hs : ∀ j, (ss.getD j ⟨#[]⟩).size ≤ 1048576) : SArg a ss w := by
  refine ⟨hl, hs, fun hn => ?_⟩
  rcases h.2 with ⟨e, h0⟩ | ⟨g, cap, cur, e, hb, hg, q1, q2, q3, q4⟩
  · simp only [Value.slice.injEq] at e; omega
  · simp only [Value.slice.injEq] at e
    obtain ⟨rfl, e2, rfl⟩ := e
    refine ⟨g, 0, rfl, (Array.getElem?_eq_some_iff.1 hg).1, fun j hj => ?_⟩
    rw [Nat.zero_add, cell_of_row w g j cur 9 (0, 0) hg]
    have hx : (ss.map Value.string)[j]? = some (.string (ss.getD j ⟨#[]⟩)) := by
      rw [List.getElem?_map, List.getElem?_eq_getElem hj, List.getD_eq_getElem?_getD, List.getElem?_eq_getElem hj]; rfl
    rw [← q4, List.getElem?_take, if_pos (by omega)] at hx
    simpa using hx

def hasT (hs : List ByteArray) (s : ByteArray) : Bool := hs.any fun h => decide (h = s)
def hasTo (hs : List ByteArray) (s : ByteArray) : Nat → Bool
  | 0 => false
  | k + 1 => hasTo hs s k || decide (hs.getD k ⟨#[]⟩ = s)
theorem hasTo_range (hs : List ByteArray) (s : ByteArray) (k : Nat) : hasTo hs s k = (List.range k).any (fun i => decide (hs.getD i ⟨#[]⟩ = s)) := by
  induction k with
  | zero => rfl
  | succ k ih => rw [hasTo, ih, List.range_succ, List.any_append]; simp
theorem hasTo_all (hs : List ByteArray) (s : ByteArray) : hasTo hs s hs.length = hasT hs s := by
  rw [hasTo_range]; exact any_range hs fun x => decide (x = s)
theorem toList_inj (x s : ByteArray) : (x.toList == s.toList) = decide (x = s) := by
  by_cases h : x = s
  · subst h; simp
  · rw [decide_eq_false h, beq_eq_false_iff_ne]
    intro e
    rw [ByteArray.toList_eq, ByteArray.toList_eq] at e
    exact h (by cases x; cases s; simpa using e)
set_option maxRecDepth 100000 in
theorem has_any (a : Option Addr) (hs : List ByteArray) (c : Nat) (s : ByteArray) (w : World) (h : SArg a hs w) :
    Calls Tryz.prog 13 #[.slice a hs.length c, .string s] w fun e w' => e = .returned (.bool (hasT hs s)) ∧ w = w' := by
  have hn := h.le
  obtain ⟨b, hb⟩ : ∃ b, hasT hs s = b := ⟨_, rfl⟩
  rw [hb]
  have HB : Hid (hasTo hs s hs.length = b) := by show _ = _; rw [hasTo_all, hb]
  clear hb
  obtain ⟨N, hN⟩ : ∃ N, hs.length = N := ⟨_, rfl⟩
  have hNl : Hid (hs.length = N) := hN
  rw [hN] at HB hn
  rw [hN]
  go_enter Tryz.func13, Tryz.ntmps13
  go_wp2_with fail
  go_loopw [5] (fun t wr => ∃ k : Nat, k ≤ N ∧ t = .int .i64 (k : Int) ∧ Hid (hasTo hs s k = false) ∧ w = wr) (fun t _ => N - (intOf t).toNat)
  case atStart => exact ⟨0, Nat.zero_le _, rfl, rfl, rfl⟩
  case round =>
    obtain ⟨k, hk, rfl, hf, rfl⟩ := hrel
    by_cases hlt : k < N
    · have z1 : decide ((k : Int) < (N : Int)) = true := by simp; omega
      obtain ⟨b1, off, rfl, hbl, hc⟩ := h.at_ (by rw [hNl.out]; omega)
      have hcx := hc k (by rw [hNl.out]; exact hlt)
      obtain ⟨x, hx⟩ : ∃ x, hs.getD k ⟨#[]⟩ = x := ⟨_, rfl⟩
      rw [hx] at hcx
      have hx0 : (0 : Int) ≤ (k : Int) := Int.natCast_nonneg _
      have hx1 : (k : Int) < (N : Int) := by omega
      have hstep : Hid (hasTo hs s (k + 1) = decide (x = s)) := by show _ = _; rw [hasTo, hf.out, hx, Bool.false_or]
      clear hc
      cases hq : decide (x = s) with
      | true =>
        have z2 : (x.toList == s.toList) = true := by rw [toList_inj, hq]
        have hbt : Hid (b = true) := by
          show b = true
          rw [← HB.out, hasTo_range, List.any_eq_true]
          exact ⟨k, List.mem_range.2 hlt, by rw [hx, hq]⟩
        clear hq hx hf hstep HB
        go_wp2_with fail
        go_ret
        exact ⟨by rw [hbt.out]; rfl, by first | rfl | trivial⟩
      | false =>
        have z2 : (x.toList == s.toList) = false := by rw [toList_inj, hq]
        have hf' : Hid (hasTo hs s (k + 1) = false) := by show _ = _; rw [hstep.out, hq]
        clear hq hx hf hstep HB
        go_wp2_with fail
        go_roundw
        case rel => exact ⟨k + 1, hlt, by go_num, hf', by first | rfl | trivial⟩
        case measure => simp [intOf]; omega
    · obtain rfl : k = N := by omega
      have z1 : decide ((k : Int) < (k : Int)) = false := by simp
      have hbt : Hid (b = false) := by show b = false; rw [← HB.out, hf.out]
      clear HB hf
      go_wp2_with fail
      go_ret
      exact ⟨by rw [hbt.out]; rfl, by first | rfl | trivial⟩
theorem l1w_b (n : Int) (b : Bool) (hb : decide (1 ≤ n ∧ n ≤ 32) = b) (w : World) : Calls Tryz.prog 9 #[.int .i64 n] w fun e w' => e = .returned (.bool b) ∧ w = w' := by
  subst hb
  by_cases c1 : 1 ≤ n
  · have hr : decide (1 ≤ n ∧ n ≤ 32) = decide (n ≤ 32) := by simp [c1]
    rw [hr]
    go_enter Tryz.func9, Tryz.ntmps9
    go_wp2_with fail
    go_ret
    exact ⟨rfl, rfl⟩
  · have hr : decide (1 ≤ n ∧ n ≤ 32) = false := by rw [decide_eq_false (by omega)]
    rw [hr]
    go_enter Tryz.func9, Tryz.ntmps9
    go_wp2_with fail
    go_ret
    exact ⟨rfl, rfl⟩

def pick4 {α : Type} (a b c d : α) : Nat → α
  | 0 => a
  | 1 => b
  | 2 => c
  | _ => d
/-- Four rows of texts that no other one of them shares. -/
structure Rows4 (base : Nat) (v : Nat → Value) (L : Nat → List ByteArray) (w : World) : Prop where
  own : ∀ i, i < 4 → w.ownsRow base 9 1 (v i) (L i).length ((L i).map Value.string)
  dis : ∀ i j, i < 4 → j < 4 → i ≠ j → ∀ g, (v i).ownBlock = some g → (v j).ownBlock ≠ some g
theorem Rows4.kept {base : Nat} {v : Nat → Value} {L : Nat → List ByteArray} {w w' : World} (h : Rows4 base v L w) (hk : ∀ g, base ≤ g → g < w.heap.size → w'.heap[g]? = w.heap[g]?) : Rows4 base v L w' :=
  ⟨fun i hi => own_kept (h.own i hi) (fun g hv hg => hk g (own_cells (h.own i hi) hv).1 hg), h.dis⟩
theorem Rows4.app {base : Nat} {v v' : Nat → Value} {L L' : Nat → List ByteArray} {w w' : World} (h : Rows4 base v L w) (i : Nat) (hi : i < 4) (hg : w.grownBy w' (v i).ownBlock) (hx : w'.ownsRow base 9 1 (v' i) (L' i).length ((L' i).map Value.string))
    (hat : ∀ g, (v' i).ownBlock = some g → (v i).ownBlock = some g ∨ w.heap.size ≤ g) (hv : ∀ j, j < 4 → j ≠ i → v' j = v j ∧ L' j = L j) : Rows4 base v' L' w' := by
  have hne : ∀ j, j < 4 → j ≠ i → ∀ g, (v j).ownBlock = some g → (v' i).ownBlock ≠ some g := fun j hj hji g hvg e => by
    rcases hat g e with q | q
    · exact h.dis i j hi hj (fun e => hji e.symm) g q hvg
    · have := (own_cells (h.own j hj) hvg).2.1; omega
  refine ⟨fun j hj => ?_, fun j k hj hk hjk g hvg => ?_⟩
  · by_cases hji : j = i
    · subst hji; exact hx
    · rw [(hv j hj hji).1, (hv j hj hji).2]
      exact own_kept (h.own j hj) (fun g hvg hlt => hg.block g hlt (fun e => h.dis i j hi hj (fun e => hji e.symm) g e.symm hvg))
  · by_cases hji : j = i
    · subst hji
      rw [(hv k hk (fun e => hjk e.symm)).1]
      intro e
      exact hne k hk (fun e => hjk e.symm) g e hvg
    · rw [(hv j hj hji).1] at hvg
      by_cases hki : k = i
      · subst hki; exact hne j hj hji g hvg
      · rw [(hv k hk hki).1]; exact h.dis j k hj hk hjk g hvg
end Go.Proofs.YtliapnhckdimoacGreatDoor
namespace Go.Proofs.YtliapnhckdimoacGreatDoor
open Go.RowKit Go.Proofs.Sha

/-- What is left of a number, and its digits so far. -/
def leftK (k : Nat) : Nat → Nat
  | 0 => k
  | j + 1 => leftK k j / 10
def digs (k : Nat) : Nat → ByteArray
  | 0 => ⟨#[]⟩
  | j + 1 => ⟨#[UInt8.ofNat (48 + leftK k j % 10)]⟩ ++ digs k j
theorem digs_size (k j : Nat) : (digs k j).size = j := by
  induction j with
  | zero => rfl
  | succ j ih => rw [digs, ByteArray.size_append, ih]; show 1 + j = _; omega
theorem leftK_le (k j : Nat) (h : ∀ i, i < j → 0 < leftK k i) : leftK k j + j ≤ k := by
  induction j with
  | zero => exact Nat.le_refl _
  | succ j ih =>
    have h1 := ih (fun i hi => h i (by omega))
    have h2 := h j (by omega)
    rw [leftK]
    omega
theorem leftK_ends (k : Nat) : ∃ j, leftK k j = 0 ∧ ∀ i, i < j → 0 < leftK k i := by
  by_cases h : ∀ j, ∀ i, i < j → 0 < leftK k i
  · exfalso
    have := leftK_le k (k + 1) (h (k + 1))
    omega
  · obtain ⟨j, hj⟩ := Classical.not_forall.1 h
    clear h
    induction j with
    | zero => exact absurd (fun i hi => absurd hi (Nat.not_lt_zero i)) hj
    | succ j ih =>
      by_cases hs : ∀ i, i < j → 0 < leftK k i
      · refine ⟨j, ?_, hs⟩
        apply Nat.eq_zero_of_not_pos
        intro hp
        exact hj (fun i hi => by
          by_cases e : i = j
          · subst e; exact hp
          · exact hs i (by omega))
      · exact ih hs
set_option maxRecDepth 100000 in
set_option maxHeartbeats 400000 in
theorem markText_ex (k : Nat) (hk : 1 ≤ k) (hk2 : k ≤ 100000) : ∃ X : ByteArray, ∀ w, Calls Tryz.prog 32 #[.int .i64 (k : Int)] w fun e w' => e = .returned (.string X) ∧ Below w.heap.size w w' := by
  obtain ⟨j0, hj0, hpos⟩ := leftK_ends k
  have hjb : j0 ≤ k := by have := leftK_le k j0 hpos; omega
  refine ⟨⟨#[109]⟩ ++ digs k j0, fun w => ?_⟩
  have z0 : decide ((k : Int) ≤ 0) = false := by rw [decide_eq_false_iff_not]; omega
  have z00 : decide (k = 0) = false := by rw [decide_eq_false_iff_not]; omega
  have z01 : ¬ k = 0 := by omega
  obtain ⟨Y, hY⟩ : ∃ Y, (⟨#[109]⟩ : ByteArray) ++ digs k j0 = Y := ⟨_, rfl⟩
  rw [hY]
  have HY : Hid ((⟨#[109]⟩ : ByteArray) ++ digs k j0 = Y) := hY
  clear hY
  go_enter Tryz.func32, Tryz.ntmps32
  go_wp2_with fail
  go_loopw [0, 3] (fun t0 t3 wr => ∃ j : Nat, j ≤ j0 ∧ t0 = .int .i64 (leftK k j : Int) ∧ t3 = .string (digs k j) ∧ Below w.heap.size w wr) (fun t0 _ _ => (intOf t0).toNat)
  case atStart => exact ⟨0, Nat.zero_le _, rfl, rfl, Below.refl _ _⟩
  case round =>
    obtain ⟨j, hj, rfl, rfl, hbw⟩ := hrel
    have hKb : leftK k j ≤ 100000 := by have := leftK_le k j (fun i hi => hpos i (by omega)); omega
    have hsz := digs_size k j
    by_cases hlt : j < j0
    · have hp := hpos j hlt
      have hnx : Hid (leftK k (j + 1) = leftK k j / 10) := rfl
      have hdx : Hid (digs k (j + 1) = ⟨#[UInt8.ofNat (48 + leftK k j % 10)]⟩ ++ digs k j) := rfl
      generalize leftK k j = K at hp hKb hnx hdx ⊢
      generalize hD : digs k j = D at hsz hdx ⊢
      have z1 : decide ((K : Int) > 0) = true := by rw [decide_eq_true_eq]; omega
      have z2 : decide ((0 : Int) < (K : Int)) = true := by rw [decide_eq_true_eq]; omega
      have z3 : decide (0 < K) = true := by rw [decide_eq_true_eq]; omega
      obtain ⟨d, hd⟩ : ∃ d, 48 + K % 10 = d := ⟨_, rfl⟩
      have hrow : Row (wr.alloc (.cells #[.int .u8 (48 + (K : Int) % 10)] 5)) wr.heap.size wr.heap.size 1 1 ([UInt8.ofNat d].map B) := by
        have e : [UInt8.ofNat d].map B = [.int .u8 (48 + (K : Int) % 10)] := by
          show [B (UInt8.ofNat d)] = _
          unfold B
          have h8 : ((UInt8.ofNat d).toNat : Int) = 48 + (K : Int) % 10 := by
            rw [UInt8.toNat_ofNat']; omega
          rw [h8]
        rw [e]
        exact Row.of_block (Nat.le_refl _) (heap_alloc_new wr (.cells #[.int .u8 (48 + (K : Int) % 10)] 5)) 1 (by simp) (.inl rfl)
      have hbn : Below w.heap.size w (wr.alloc (.cells #[.int .u8 (48 + (K : Int) % 10)] 5)) := hbw.alloc hbw.size _
      rw [hd] at hdx
      have z4 : ¬ (9223372036854775807 < (⟨[UInt8.ofNat d].toArray⟩ : ByteArray).size + D.size) := by show ¬ _ < 1 + _; omega
      have z5 : ¬ (9223372036854775807 < 1 + D.size) := by omega
      have z6 : ¬ (9223372036854775807 < (⟨#[UInt8.ofNat d]⟩ : ByteArray).size + D.size) := by show ¬ _ < 1 + _; omega
      clear hd hpos
      go_upto_region 5 with fail
      go_wp2_with (first | (refine wpList_string_row _ rfl (.tmp 12) 62 9 5 rfl wr.heap.size wr.heap.size 1 1 [UInt8.ofNat d] rfl hrow Tryz.underlying62 Tryz.underlying5 Tryz.underlying9 ?_))
      go_roundw
      case rel => exact ⟨j + 1, hlt, by rw [hnx.out]; rfl, by rw [hdx.out], hbn⟩
      case measure => simp [intOf]; omega
    · obtain rfl : j = j0 := by omega
      rw [hj0]
      have z4 : ¬ (9223372036854775807 < (⟨#[109]⟩ : ByteArray).size + (digs k j).size) := by show ¬ _ < 1 + _; omega
      have z5 : ¬ (9223372036854775807 < 1 + (digs k j).size) := by omega
      go_wp2_with fail
      go_ret
      exact ⟨by rw [← HY.out]; rfl, hbw⟩
end Go.Proofs.YtliapnhckdimoacGreatDoor
namespace Go.Proofs.YtliapnhckdimoacGreatDoor
open Go.RowKit Go.Proofs.Sha

/-- What markText's contract says, by itself. -/
def MarkSaid (M : Nat → ByteArray) : Prop := ∀ k : Nat, 1 ≤ k → k ≤ 100000 → ∀ w, Calls Tryz.prog 32 #[.int .i64 (k : Int)] w fun e w' => e = .returned (.string (M k)) ∧ Below w.heap.size w w'
theorem mark_ex : ∃ M, MarkSaid M := by
  have h : ∀ k : Nat, ∃ X : ByteArray, 1 ≤ k → k ≤ 100000 → ∀ w, Calls Tryz.prog 32 #[.int .i64 (k : Int)] w fun e w' => e = .returned (.string X) ∧ Below w.heap.size w w' := fun k => by
    by_cases h1 : 1 ≤ k ∧ k ≤ 100000
    · obtain ⟨X, hX⟩ := markText_ex k h1.1 h1.2
      exact ⟨X, fun _ _ => hX⟩
    · exact ⟨⟨#[]⟩, fun a b => absurd ⟨a, b⟩ h1⟩
  obtain ⟨M, hM⟩ := Classical.axiomOfChoice h
  exact ⟨M, hM⟩
def marksV (M : Nat → ByteArray) (k0 n : Nat) : List Value := (List.range n).map fun i => .string (M (k0 + i))
/-- A row, or nothing. -/
def SRow (w : World) (base : Nat) (a : Option Addr) (n c : Nat) (xs : List Value) : Prop := n = 0 ∨ ∃ g, a = some ⟨g, 0, none⟩ ∧ Row w base g n c xs
theorem own_srow {w : World} {base n c : Nat} {a : Option Addr} {xs : List Value} (h : w.ownsRow base 9 1 (.slice a n c) n xs) : SRow w base a n c xs := by
  by_cases hn : n = 0
  · exact .inl hn
  · right
    rcases h.2 with ⟨e, h0⟩ | ⟨g, cap, cur, e, hb, hg, q1, q2, q3, q4⟩
    · omega
    · simp only [Value.slice.injEq, true_and] at e
      obtain ⟨rfl, rfl⟩ := e
      refine ⟨g, rfl, hb, (Array.getElem?_eq_some_iff.1 hg).1, by have := h.1; omega, q1, fun j hj => ?_, fun j hj => ?_, fun j _ => ?_⟩
      · rw [cell_of_row w g j cur 9 (0, 0) hg, ← q4, List.getElem?_take, if_pos (by omega)]; simp
      · rw [cell_of_row w g j cur 9 (0, 0) hg, Array.getElem?_eq_getElem (by omega)]; rfl
      · rw [World.frozen?, hg]; rfl
theorem SRow.kept {w w' : World} {base n c : Nat} {a : Option Addr} {xs : List Value} {row : Option Nat} (h : SRow w base a n c xs) (hg : w.grownBy w' row) (hn : ∀ g, a = some ⟨g, 0, none⟩ → some g ≠ row) : SRow w' base a n c xs := by
  rcases h with h | ⟨g, ha, hr⟩
  · exact .inl h
  · exact .inr ⟨g, ha, hr.kept hg (hn g ha)⟩
theorem SRow.below {w w' : World} {base n c : Nat} {a : Option Addr} {xs : List Value} (h : SRow w base a n c xs) (hb : Below w.heap.size w w') : SRow w' base a n c xs := h.kept (grownBy_of_below hb none) (fun _ _ e => by cases e)
def partV (ys xs : List Value) (k : Nat) : List Value := ys.take k ++ xs.drop k
theorem partV_set (ys xs : List Value) (k : Nat) (h1 : k < ys.length) (h2 : k < xs.length) (v : Value) (hv : ys[k] = v) : (partV ys xs k).set k v = partV ys xs (k + 1) := by
  unfold partV
  rw [List.set_append_right _ _ (by rw [List.length_take]; omega), List.length_take, show k - min k ys.length = 0 by omega, List.drop_eq_getElem_cons h2, List.set_cons_zero, List.take_add_one, List.getElem?_eq_getElem h1, hv]
  simp
theorem marksV_at (M : Nat → ByteArray) (k0 n k : Nat) (h : k < (marksV M k0 n).length) : (marksV M k0 n)[k] = .string (M (k0 + k)) := by simp [marksV]
theorem marksV_len (M : Nat → ByteArray) (k0 n : Nat) : (marksV M k0 n).length = n := by simp [marksV]

set_option maxRecDepth 100000 in
theorem mark_zero (a : Option Addr) (c k0 : Nat) (w : World) : Calls Tryz.prog 21 #[.slice a 0 c, .int .i64 (k0 : Int)] w fun e w' => e = .returned (.int .i64 (k0 : Int)) ∧ w = w' := by
  go_enter Tryz.func21, Tryz.ntmps21
  go_wp2_with fail
  go_loopw [1, 5] (fun t1 t5 wr => t1 = .int .i64 (k0 : Int) ∧ t5 = .int .i64 0 ∧ w = wr) (fun _ _ _ => 0)
  case atStart => exact ⟨rfl, rfl, rfl⟩
  case round =>
    obtain ⟨rfl, rfl, rfl⟩ := hrel
    go_wp2_with fail
    go_ret
    exact ⟨rfl, by first | rfl | trivial⟩
set_option maxRecDepth 100000 in
set_option maxHeartbeats 400000 in
theorem mark_row (M : Nat → ByteArray) (HM : Hid (MarkSaid M)) (base g n c k0 : Nat) (xs : List Value) (w : World) (h : Row w base g n c xs) (h1 : 1 ≤ k0) (h2 : k0 + n ≤ 100000) (_hb : base ≤ w.heap.size) :
    Calls Tryz.prog 21 #[.slice (some ⟨g, 0, none⟩) n c, .int .i64 (k0 : Int)] w fun e w' => e = .returned (.int .i64 ((k0 + n : Nat) : Int)) ∧ Row w' base g n c (marksV M k0 n) ∧ w.grownBy w' (some g) := by
  have hxl := h.len
  obtain ⟨Y, hY⟩ : ∃ Y, marksV M k0 n = Y := ⟨_, rfl⟩
  have hYl : Y.length = n := by rw [← hY, marksV_len]
  have HYa : Hid (∀ k (hk : k < Y.length), Y[k] = .string (M (k0 + k))) := by subst hY; exact fun k hk => marksV_at M k0 n k hk
  rw [hY]
  clear hY
  obtain ⟨z, hz⟩ : ∃ z : Int, ((k0 + n : Nat) : Int) = z := ⟨_, rfl⟩
  rw [hz]
  have HZ : Hid (((k0 + n : Nat) : Int) = z) := hz
  clear hz
  go_enter Tryz.func21, Tryz.ntmps21
  go_wp2_with fail
  go_loopw [1, 5] (fun t1 t5 wr => ∃ k : Nat, k ≤ n ∧ t1 = .int .i64 ((k0 + k : Nat) : Int) ∧ t5 = .int .i64 (k : Int) ∧ Row wr base g n c (partV Y xs k) ∧ w.grownBy wr (some g)) (fun _ t5 _ => n - (intOf t5).toNat)
  case atStart => exact ⟨0, Nat.zero_le _, rfl, rfl, by unfold partV; simpa using h, grownBy_refl _ _⟩
  case round =>
    obtain ⟨k, hk, rfl, rfl, hrow, hgr⟩ := hrel
    by_cases hlt : k < n
    · have z1 : decide ((k : Int) < (n : Int)) = true := by simp; omega
      have hx0 : (0 : Int) ≤ (k : Int) := Int.natCast_nonneg _
      have hx1 : (k : Int) < (n : Int) := by omega
      have HK : Hid (∀ w', Calls Tryz.prog 32 #[.int .i64 ((k0 + k : Nat) : Int)] w' fun e w'' => e = .returned (.string (M (k0 + k))) ∧ Below w'.heap.size w' w'') := fun w' => HM.out (k0 + k) (by omega) (by omega) w'
      have hset : Hid ((partV Y xs k).set k (.string (M (k0 + k))) = partV Y xs (k + 1)) := partV_set Y xs k (by omega) (by omega) _ (HYa.out k (by omega))
      obtain ⟨X, hX⟩ : ∃ X, M (k0 + k) = X := ⟨_, rfl⟩
      rw [hX] at HK hset
      obtain ⟨p, hp⟩ : ∃ p : Nat, k0 + k = p := ⟨_, rfl⟩
      rw [hp] at HK ⊢
      have hpb : p ≤ 100000 := by omega
      have hpn : Hid (k0 + (k + 1) = p + 1) := by show _ = _; omega
      clear hX hp
      go_wp2_with (first | (go_at_call 32; refine (HK.out _).mono ?_; rintro e w1 ⟨rfl, hb1⟩; have hrow1 := hrow.below hb1; have hfr := hrow1.free k (by have := hrow1.le; omega); obtain ⟨y, hy⟩ := Option.isSome_iff_exists.1 (hrow1.room k (by have := hrow1.le; omega))))
      go_roundw
      case rel =>
        have e := hrow1.set k hlt (Value.string X)
        rw [hset.out] at e
        exact ⟨k + 1, hlt, by rw [hpn.out]; rfl, rfl, e, grownBy_trans hgr (grownBy_trans (grownBy_of_below hb1 _) (grownBy_setCell _ _ _ _))⟩
      case measure => simp [intOf]; omega
    · obtain rfl : k = n := by omega
      have z1 : decide ((k : Int) < (k : Int)) = false := by simp
      have hfin : Row wr base g k c Y := by
        have : partV Y xs k = Y := by unfold partV; rw [List.take_of_length_le (by omega), List.drop_of_length_le (by omega), List.append_nil]
        rw [this] at hrow; exact hrow
      rw [HZ.out]
      go_wp2_with fail
      go_ret
      exact ⟨rfl, hfin, hgr⟩
theorem mark_s (M : Nat → ByteArray) (HM : Hid (MarkSaid M)) (base n c k0 : Nat) (a : Option Addr) (xs : List Value) (w : World) (h : SRow w base a n c xs) (h1 : 1 ≤ k0) (h2 : k0 + n ≤ 100000) (hb : base ≤ w.heap.size) :
    Calls Tryz.prog 21 #[.slice a n c, .int .i64 (k0 : Int)] w fun e w' => e = .returned (.int .i64 ((k0 + n : Nat) : Int)) ∧ SRow w' base a n c (marksV M k0 n) ∧ w.grownBy w' (if n = 0 then none else (Value.slice a n c).ownBlock) := by
  by_cases hn : n = 0
  · subst hn
    refine (mark_zero a c k0 w).mono ?_
    rintro e w' ⟨rfl, rfl⟩
    exact ⟨rfl, .inl rfl, grownBy_refl _ _⟩
  · rcases h with h | ⟨g, rfl, hr⟩
    · exact absurd h hn
    · refine (mark_row M HM base g n c k0 xs w hr h1 h2 hb).mono ?_
      rintro e w' ⟨rfl, q1, q2⟩
      rw [if_neg hn]
      exact ⟨rfl, .inr ⟨g, rfl, q1⟩, q2⟩

set_option maxRecDepth 100000 in
set_option maxHeartbeats 400000 in
theorem held_s (M : Nat → ByteArray) (HM : Hid (MarkSaid M)) (base n c k0 : Nat) (a : Option Addr) (w : World) (h : SRow w base a n c (marksV M k0 n)) (h1 : 1 ≤ k0) (h2 : k0 + n ≤ 100000) :
    Calls Tryz.prog 22 #[.slice a n c, .int .i64 (k0 : Int)] w fun e w' => e = .returned (.int .i64 ((k0 + n : Nat) : Int)) ∧ Below w.heap.size w w' := by
  obtain ⟨z, hz⟩ : ∃ z : Int, ((k0 + n : Nat) : Int) = z := ⟨_, rfl⟩
  rw [hz]
  have HZ : Hid (((k0 + n : Nat) : Int) = z) := hz
  clear hz
  go_enter Tryz.func22, Tryz.ntmps22
  go_wp2_with fail
  go_loopw [1, 5] (fun t1 t5 wr => ∃ k : Nat, k ≤ n ∧ t1 = .int .i64 ((k0 + k : Nat) : Int) ∧ t5 = .int .i64 (k : Int) ∧ Below w.heap.size w wr) (fun _ t5 _ => n - (intOf t5).toNat)
  case atStart => exact ⟨0, Nat.zero_le _, rfl, rfl, Below.refl _ _⟩
  case round =>
    obtain ⟨k, hk, rfl, rfl, hbw⟩ := hrel
    by_cases hlt : k < n
    · have z1 : decide ((k : Int) < (n : Int)) = true := by simp; omega
      have hx0 : (0 : Int) ≤ (k : Int) := Int.natCast_nonneg _
      have hx1 : (k : Int) < (n : Int) := by omega
      have HK : Hid (∀ w', Calls Tryz.prog 32 #[.int .i64 ((k0 + k : Nat) : Int)] w' fun e w'' => e = .returned (.string (M (k0 + k))) ∧ Below w'.heap.size w' w'') := fun w' => HM.out (k0 + k) (by omega) (by omega) w'
      rcases h.below hbw with h0 | ⟨g, rfl, hrow⟩
      · omega
      · have hcx : wr.cell? ⟨g, k, none⟩ = some (.string (M (k0 + k))) := by
          rw [hrow.cell k hlt, List.getElem?_eq_getElem (by rw [marksV_len]; exact hlt), marksV_at]
        obtain ⟨X, hX⟩ : ∃ X, M (k0 + k) = X := ⟨_, rfl⟩
        rw [hX] at HK hcx
        obtain ⟨p, hp⟩ : ∃ p : Nat, k0 + k = p := ⟨_, rfl⟩
        rw [hp] at HK ⊢
        have hpb : p ≤ 100000 := by omega
        have hpn : Hid (k0 + (k + 1) = p + 1) := by show _ = _; omega
        have hgl := hrow.lt
        have hq : (X.toList != X.toList) = false := by simp
        clear hX hp hrow
        have HC : Hid (∀ W : World, Below wr.heap.size wr W → W.cell? ⟨g, k, none⟩ = some (.string X)) := fun W hW => (hW.cell hgl).trans hcx
        go_upto_region 4 with fail
        go_region_held3 (fun W => W.cell? ⟨g, k, none⟩ = some (.string X)) (first | exact hcx | exact HC.out _ hb1) (first | (go_at_call 32; refine (HK.out _).mono ?_; rintro e w1 ⟨rfl, hb1'⟩; have hb1 : Below wr.heap.size wr w1 := (Below.refl wr.heap.size wr).drew.trans hb1'; clear hb1'))
        go_wp2_with fail
        go_roundw
        case rel => exact ⟨k + 1, hlt, by rw [hpn.out]; rfl, rfl, hbw.trans (hb1.mono hbw.size)⟩
        case measure => simp [intOf]; omega
    · obtain rfl : k = n := by omega
      have z1 : decide ((k : Int) < (k : Int)) = false := by simp
      rw [HZ.out]
      go_wp2_with fail
      go_ret
      exact ⟨rfl, hbw⟩
end Go.Proofs.YtliapnhckdimoacGreatDoor
namespace Go.Proofs.YtliapnhckdimoacGreatDoor
open Go.RowKit Go.Proofs.Sha

/-- What the model's Scan holds. -/
structure SpecAt (go gz base : Nat) (N Rs A H : List ByteArray) (fin : Nat) (aN : Option Addr) (cN : Nat) (aR : Option Addr) (cR : Nat) (aA : Option Addr) (cA : Nat) (aH : Option Addr) (cH : Nat) (w0 w : World) : Prop where
  blk : w.heap[go]? = some (.cells #[.slice aN N.length cN, .slice aR Rs.length cR, .int .i64 (fin : Int)] 24)
  zz : w.heap[gz]? = some (.cells #[.slice none 0 0, .slice none 0 0, .int .i64 0] 24)
  rows : Rows4 base (pick4 (.slice aN N.length cN) (.slice aR Rs.length cR) (.slice aA A.length cA) (.slice aH H.length cH)) (pick4 N Rs A H) w
  hl : go < base
  hz : gz < base
  hne : go ≠ gz
  hb : base ≤ w.heap.size
  h0 : w0.heap.size ≤ go ∧ w0.heap.size ≤ gz
  bw : Below w0.heap.size w0 w
section
variable {go gz base : Nat} {N Rs A H : List ByteArray} {fin : Nat} {aN : Option Addr} {cN : Nat} {aR : Option Addr} {cR : Nat} {aA : Option Addr} {cA : Nat} {aH : Option Addr} {cH : Nat} {w0 w w' : World}
theorem SpecAt.below (h : SpecAt go gz base N Rs A H fin aN cN aR cR aA cA aH cH w0 w) (hb : Below w.heap.size w w') : SpecAt go gz base N Rs A H fin aN cN aR cR aA cA aH cH w0 w' := by
  have h1 := h.hl
  have h2 := h.hz
  have h3 := h.hb
  exact ⟨(hb.block go (by omega)).trans h.blk, (hb.block gz (by omega)).trans h.zz, h.rows.kept (fun g _ hg => hb.block g hg), h1, h2, h.hne, Nat.le_trans h3 hb.size, h.h0, h.bw.trans (hb.mono h.bw.size)⟩
theorem SpecAt.oN (h : SpecAt go gz base N Rs A H fin aN cN aR cR aA cA aH cH w0 w) : w.ownsRow base 9 1 (.slice aN N.length cN) N.length (N.map Value.string) := h.rows.own 0 (by decide)
theorem SpecAt.oR (h : SpecAt go gz base N Rs A H fin aN cN aR cR aA cA aH cH w0 w) : w.ownsRow base 9 1 (.slice aR Rs.length cR) Rs.length (Rs.map Value.string) := h.rows.own 1 (by decide)
theorem SpecAt.oA (h : SpecAt go gz base N Rs A H fin aN cN aR cR aA cA aH cH w0 w) : w.ownsRow base 9 1 (.slice aA A.length cA) A.length (A.map Value.string) := h.rows.own 2 (by decide)
theorem SpecAt.oH (h : SpecAt go gz base N Rs A H fin aN cN aR cR aA cA aH cH w0 w) : w.ownsRow base 9 1 (.slice aH H.length cH) H.length (H.map Value.string) := h.rows.own 3 (by decide)
theorem two_lt (h : SpecAt go gz base N Rs A H fin aN cN aR cR aA cA aH cH w0 w) : go < w.heap.size ∧ gz < w.heap.size := by
  have h1 := h.hl
  have h2 := h.hz
  have h3 := h.hb
  omega
/-- A row of a variable's grows. -/
theorem SpecAt.app {i : Nat} {v v' : Nat → Value} {L L' : Nat → List ByteArray} (h : SpecAt go gz base N Rs A H fin aN cN aR cR aA cA aH cH w0 w)
    (hr : Rows4 base v L w) (hi : i < 4) (hgrow : w.grownBy w' (v i).ownBlock) (hown : w'.ownsRow base 9 1 (v' i) (L' i).length ((L' i).map Value.string)) (hat : ∀ g, (v' i).ownBlock = some g → (v i).ownBlock = some g ∨ w.heap.size ≤ g) (hv : ∀ j, j < 4 → j ≠ i → v' j = v j ∧ L' j = L j) :
    Rows4 base v' L' w' ∧ w'.heap[go]? = w.heap[go]? ∧ w'.heap[gz]? = w.heap[gz]? ∧ base ≤ w'.heap.size ∧ Below w0.heap.size w0 w' := by
  have h1 := h.hl
  have h2 := h.hz
  have h3 := h.hb
  have hno : ∀ g, g < base → w'.heap[g]? = w.heap[g]? := fun g hg => hgrow.block g (by omega) (fun e => by have := (own_cells (hr.own i hi) e.symm).1; omega)
  refine ⟨hr.app i hi hgrow hown hat hv, hno go h1, hno gz h2, Nat.le_trans h3 hgrow.size, h.bw.trans ⟨hgrow.os, hgrow.tape, hgrow.output, hgrow.size, fun k hk => hno k ?_⟩⟩
  have := h.h0
  omega
end
theorem pick_len {α : Type} (a b c d : α) : pick4 a b c d 0 = a ∧ pick4 a b c d 1 = b ∧ pick4 a b c d 2 = c ∧ pick4 a b c d 3 = d := ⟨rfl, rfl, rfl, rfl⟩
section
variable {go gz base : Nat} {N Rs A H : List ByteArray} {fin : Nat} {aN : Option Addr} {cN : Nat} {aR : Option Addr} {cR : Nat} {aA : Option Addr} {cA : Nat} {aH : Option Addr} {cH : Nat} {w0 w w' : World}
theorem snoc_own {g c m : Nat} {xs : List ByteArray} {e : ByteArray} (hm : xs.length = m) (h : w'.ownsRow base 9 1 (.slice (some ⟨g, 0, none⟩) (m + 1) c) (m + 1) (xs.map Value.string ++ [.string e])) : w'.ownsRow base 9 1 (.slice (some ⟨g, 0, none⟩) (xs ++ [e]).length c) (xs ++ [e]).length ((xs ++ [e]).map Value.string) := by
  rw [List.length_append, hm, List.map_append]; exact h
theorem SpecAt.appA {e : ByteArray} {g c : Nat} (h : SpecAt go gz base N Rs A H fin aN cN aR cR aA cA aH cH w0 w) (hgrow : w.grownBy w' (Value.slice aA A.length cA).ownBlock) (hown : w'.ownsRow base 9 1 (.slice (some ⟨g, 0, none⟩) (A.length + 1) c) (A.length + 1) (A.map Value.string ++ [.string e]))
    (hat : (Value.slice aA A.length cA).ownBlock = some g ∨ g = w.heap.size) : SpecAt go gz base N Rs (A ++ [e]) H fin aN cN aR cR (some ⟨g, 0, none⟩) c aH cH w0 w' := by
  obtain ⟨q1, q2, q3, q4, q5⟩ := h.app (i := 2) (v' := pick4 (.slice aN N.length cN) (.slice aR Rs.length cR) (.slice (some ⟨g, 0, none⟩) (A ++ [e]).length c) (.slice aH H.length cH)) (L' := pick4 N Rs (A ++ [e]) H) h.rows (by decide) hgrow (snoc_own rfl hown)
    (fun g' e' => by obtain rfl : g = g' := Option.some.inj e'; rcases hat with q | q; exact .inl q; exact .inr (by omega)) (fun j hj hne => by match j, hj, hne with | 0, _, _ => exact ⟨rfl, rfl⟩ | 1, _, _ => exact ⟨rfl, rfl⟩ | 3, _, _ => exact ⟨rfl, rfl⟩)
  exact ⟨q2.trans h.blk, q3.trans h.zz, q1, h.hl, h.hz, h.hne, q4, h.h0, q5⟩
theorem SpecAt.appH {e : ByteArray} {g c : Nat} (h : SpecAt go gz base N Rs A H fin aN cN aR cR aA cA aH cH w0 w) (hgrow : w.grownBy w' (Value.slice aH H.length cH).ownBlock) (hown : w'.ownsRow base 9 1 (.slice (some ⟨g, 0, none⟩) (H.length + 1) c) (H.length + 1) (H.map Value.string ++ [.string e]))
    (hat : (Value.slice aH H.length cH).ownBlock = some g ∨ g = w.heap.size) : SpecAt go gz base N Rs A (H ++ [e]) fin aN cN aR cR aA cA (some ⟨g, 0, none⟩) c w0 w' := by
  obtain ⟨q1, q2, q3, q4, q5⟩ := h.app (i := 3) (v' := pick4 (.slice aN N.length cN) (.slice aR Rs.length cR) (.slice aA A.length cA) (.slice (some ⟨g, 0, none⟩) (H ++ [e]).length c)) (L' := pick4 N Rs A (H ++ [e])) h.rows (by decide) hgrow (snoc_own rfl hown)
    (fun g' e' => by obtain rfl : g = g' := Option.some.inj e'; rcases hat with q | q; exact .inl q; exact .inr (by omega)) (fun j hj hne => by match j, hj, hne with | 0, _, _ => exact ⟨rfl, rfl⟩ | 1, _, _ => exact ⟨rfl, rfl⟩ | 2, _, _ => exact ⟨rfl, rfl⟩ | 3, _, h3 => exact absurd rfl h3)
  exact ⟨q2.trans h.blk, q3.trans h.zz, q1, h.hl, h.hz, h.hne, q4, h.h0, q5⟩
theorem set_kept {v : Nat → Value} {L : Nat → List ByteArray} {o : Nat} {x : Value} (h : Rows4 base v L w) (hl : go < base) : Rows4 base v L (w.setCell ⟨go, o, none⟩ x) :=
  h.kept (fun g hg hlt => (grownBy_setCell w go o x).block g hlt (fun e => by have := Option.some.inj e; omega))
theorem SpecAt.appN {e : ByteArray} {g c : Nat} (h : SpecAt go gz base N Rs A H fin aN cN aR cR aA cA aH cH w0 w) (hgrow : w.grownBy w' (Value.slice aN N.length cN).ownBlock) (hown : w'.ownsRow base 9 1 (.slice (some ⟨g, 0, none⟩) (N.length + 1) c) (N.length + 1) (N.map Value.string ++ [.string e]))
    (hat : (Value.slice aN N.length cN).ownBlock = some g ∨ g = w.heap.size) : SpecAt go gz base (N ++ [e]) Rs A H fin (some ⟨g, 0, none⟩) c aR cR aA cA aH cH w0 (w'.setCell ⟨go, 0, none⟩ (.slice (some ⟨g, 0, none⟩) (N.length + 1) c)) := by
  obtain ⟨q1, q2, q3, q4, q5⟩ := h.app (i := 0) (v' := pick4 (.slice (some ⟨g, 0, none⟩) (N ++ [e]).length c) (.slice aR Rs.length cR) (.slice aA A.length cA) (.slice aH H.length cH)) (L' := pick4 (N ++ [e]) Rs A H) h.rows (by decide) hgrow (snoc_own rfl hown)
    (fun g' e' => by obtain rfl : g = g' := Option.some.inj e'; rcases hat with q | q; exact .inl q; exact .inr (by omega)) (fun j hj hne => by match j, hj, hne with | 1, _, _ => exact ⟨rfl, rfl⟩ | 2, _, _ => exact ⟨rfl, rfl⟩ | 3, _, _ => exact ⟨rfl, rfl⟩)
  have hg := grownBy_setCell w' go 0 (.slice (some ⟨g, 0, none⟩) (N.length + 1) c)
  have h1 := h.h0
  have hl : (N ++ [e]).length = N.length + 1 := by simp
  have hne := h.hne
  have hgz := (Array.getElem?_eq_some_iff.1 (q3.trans h.zz)).1
  refine ⟨?_, (hg.block gz hgz (fun e => hne (Option.some.inj e).symm)).trans (q3.trans h.zz), set_kept q1 h.hl, h.hl, h.hz, h.hne, Nat.le_trans q4 hg.size, h.h0, q5.trans (below_of_grown hg h1.1 q5.size)⟩
  rw [hl]; exact heap_setCell_same w' go 0 _ 24 _ (q2.trans h.blk)
theorem SpecAt.appR {e : ByteArray} {g c : Nat} (h : SpecAt go gz base N Rs A H fin aN cN aR cR aA cA aH cH w0 w) (hgrow : w.grownBy w' (Value.slice aR Rs.length cR).ownBlock) (hown : w'.ownsRow base 9 1 (.slice (some ⟨g, 0, none⟩) (Rs.length + 1) c) (Rs.length + 1) (Rs.map Value.string ++ [.string e]))
    (hat : (Value.slice aR Rs.length cR).ownBlock = some g ∨ g = w.heap.size) : SpecAt go gz base N (Rs ++ [e]) A H fin aN cN (some ⟨g, 0, none⟩) c aA cA aH cH w0 (w'.setCell ⟨go, 1, none⟩ (.slice (some ⟨g, 0, none⟩) (Rs.length + 1) c)) := by
  obtain ⟨q1, q2, q3, q4, q5⟩ := h.app (i := 1) (v' := pick4 (.slice aN N.length cN) (.slice (some ⟨g, 0, none⟩) (Rs ++ [e]).length c) (.slice aA A.length cA) (.slice aH H.length cH)) (L' := pick4 N (Rs ++ [e]) A H) h.rows (by decide) hgrow (snoc_own rfl hown)
    (fun g' e' => by obtain rfl : g = g' := Option.some.inj e'; rcases hat with q | q; exact .inl q; exact .inr (by omega)) (fun j hj hne => by match j, hj, hne with | 0, _, _ => exact ⟨rfl, rfl⟩ | 2, _, _ => exact ⟨rfl, rfl⟩ | 3, _, _ => exact ⟨rfl, rfl⟩)
  have hg := grownBy_setCell w' go 1 (.slice (some ⟨g, 0, none⟩) (Rs.length + 1) c)
  have h1 := h.h0
  have hl : (Rs ++ [e]).length = Rs.length + 1 := by simp
  have hne := h.hne
  have hgz := (Array.getElem?_eq_some_iff.1 (q3.trans h.zz)).1
  refine ⟨?_, (hg.block gz hgz (fun e => hne (Option.some.inj e).symm)).trans (q3.trans h.zz), set_kept q1 h.hl, h.hl, h.hz, h.hne, Nat.le_trans q4 hg.size, h.h0, q5.trans (below_of_grown hg h1.1 q5.size)⟩
  rw [hl]; exact heap_setCell_same w' go 1 _ 24 _ (q2.trans h.blk)
theorem SpecAt.setFin (h : SpecAt go gz base N Rs A H fin aN cN aR cR aA cA aH cH w0 w) (x : Nat) (p : Int) (hp : p = (x : Int)) : SpecAt go gz base N Rs A H x aN cN aR cR aA cA aH cH w0 (w.setCell ⟨go, 2, none⟩ (.int .i64 p)) := by
  subst hp
  have hg := grownBy_setCell w go 2 (.int .i64 (x : Int))
  have hne := h.hne
  exact ⟨heap_setCell_same w go 2 _ 24 _ h.blk, (hg.block gz (two_lt h).2 (fun e => hne (Option.some.inj e).symm)).trans h.zz, set_kept h.rows h.hl, h.hl, h.hz, h.hne, Nat.le_trans h.hb hg.size, h.h0, h.bw.trans (below_of_grown hg h.h0.1 h.bw.size)⟩
theorem SpecAt.newA (h : SpecAt go gz base N Rs A H fin aN cN aR cR aA cA aH cH w0 w) : SpecAt go gz base N Rs [] H fin aN cN aR cR (some ⟨w.heap.size, 0, none⟩) 0 aH cH w0 (w.alloc (.cells #[] 9)) := by
  have hb : Below w.heap.size w (w.alloc (.cells #[] 9)) := (Below.refl _ _).alloc (Nat.le_refl _) _
  obtain ⟨q1, q2, q3, q4, q5⟩ := h.app (i := 2) (v' := pick4 (.slice aN N.length cN) (.slice aR Rs.length cR) (.slice (some ⟨w.heap.size, 0, none⟩) 0 0) (.slice aH H.length cH)) (L' := pick4 N Rs [] H) h.rows (by decide) (grownBy_of_below hb _) (World.ownsRow_lit (size := 1) w #[] 0 h.hb (Nat.zero_le _) rfl)
    (fun g' e' => by obtain rfl : w.heap.size = g' := Option.some.inj e'; exact .inr (Nat.le_refl _)) (fun j hj hne => by match j, hj, hne with | 0, _, _ => exact ⟨rfl, rfl⟩ | 1, _, _ => exact ⟨rfl, rfl⟩ | 3, _, _ => exact ⟨rfl, rfl⟩)
  exact ⟨q2.trans h.blk, q3.trans h.zz, q1, h.hl, h.hz, h.hne, q4, h.h0, q5⟩
/-- What is given back. -/
theorem SpecAt.ret {R : Nat → RecT} {wd : Nat} {st : SS} (h : SpecAt go gz base st.nodes st.roots A H st.fin aN cN aR cR aA cA aH cH w0 w) (h1 : Reach R wd st) (h2 : stepS R wd st = none) {w5 : World}
    (hw5 : ((w.setCell ⟨gz, 0, none⟩ (.slice aN st.nodes.length cN)).setCell ⟨gz, 1, none⟩ (.slice aR st.roots.length cR)).setCell ⟨gz, 2, none⟩ (.int .i64 (st.fin : Int)) = w5) :
    w5.heap[gz]? = some (.cells #[.slice aN st.nodes.length cN, .slice aR st.roots.length cR, .int .i64 (st.fin : Int)] 24) ∧ ScanPost R wd w0 (.returned (.agg #[.slice aN st.nodes.length cN, .slice aR st.roots.length cR, .int .i64 (st.fin : Int)])) w5 := by
  have hz := h.hz
  have h0 := h.h0
  have hl := h.hl
  have hrow : ∀ {v : Value} {n : Nat} {xs : List Value}, w.ownsRow base 9 1 v n xs → w5.ownsRow w0.heap.size 9 1 v n xs := fun {v n xs} ho => by
    have h6 : w5.ownsRow base 9 1 v n xs := by rw [← hw5]; exact own_set (own_set (own_set ho hz) hz) hz
    refine ⟨h6.1, ?_⟩
    rcases h6.2 with h | ⟨g, cap, cur, q1, q2, q3⟩
    · exact .inl h
    · exact .inr ⟨g, cap, cur, q1, by omega, q3⟩
  refine ⟨by rw [← hw5]; exact heap_setCell_same _ gz 2 _ 24 _ (heap_setCell_same _ gz 1 _ 24 _ (heap_setCell_same _ gz 0 _ 24 _ h.zz)), st, aN, cN, aR, cR, rfl, h1, h2, hrow h.oN, hrow h.oR, h.rows.dis 0 1 (by decide) (by decide) (by decide), ?_⟩
  rw [← hw5]
  exact ((h.bw.setCell (p := ⟨gz, 0, none⟩) h0.2 _).setCell (p := ⟨gz, 1, none⟩) h0.2 _).setCell (p := ⟨gz, 2, none⟩) h0.2 _
end
end Go.Proofs.YtliapnhckdimoacGreatDoor
