import Derived.Test.YtmfhfehemoeeeaaGreatDoorZsav
import Derived.Test.YtmfhfehemoeeeaaGreatDoorZsag
import Derived.Test.YtmfhfehemoeeeaaGreatDoorZsaz
import Derived.Test.YtmfhfehemoeeeaaGreatDoorZsad
import Derived.Test.YtmfhfehemoeeeaaGreatDoorZsab
import Derived.Deep.Cut
import Derived.Deep.RegionHeld3
import Derived.Lib.Builder
import Derived.Deep.QuietTactic
import Derived.BigQuiet
set_option maxRecDepth 100000
set_option maxHeartbeats 1000000
namespace Go.Proofs.YtmfhfehemoeeeaaGreatDoor
open Go.RowKit Go.Proofs.Sha

theorem commitRec_le (v : Int) (root : ByteArray) : (commitRec v root).size ≤ 64 := by
  unfold commitRec
  split
  · rename_i h
    rw [T_size]
    have hl : (four v.toNat ++ [UInt8.ofNat root.size] ++ root.data.toList).length = 5 + root.size := by rw [List.length_append, List.length_append]; rfl
    unfold marked
    rw [show ((four v.toNat ++ [UInt8.ofNat root.size] ++ root.data.toList).length + 62) / 63 = 1 by omega, markedTo, markedTo, List.nil_append, if_pos rfl, List.length_append, part63_length]
    exact Nat.le_refl _
  · exact Nat.zero_le _
theorem long_d (c : UInt8) (m : Int) (n : Nat) (hm : m = (n : Int)) (h1 : n ≤ 1048576) (w : World) :
    Calls Tryz.prog 40 #[.int .i64 m, .string ⟨#[c]⟩] w fun e w' => e = .returned (.string (reps n c)) ∧ Below w.heap.size w w' := by
  subst hm
  exact (long_any c n h1 w).mono (by rintro e w' ⟨t, rfl, hz, HT, hb⟩; exact ⟨by rw [HT.out], hb⟩)
theorem byte_d (m : Int) (n : Nat) (hm : m = (n : Int)) (h1 : n ≤ 1048576) (w : World) :
    Calls Tryz.prog 41 #[.int .i64 m] w fun e w' => e = .returned (.string (byteS n)) ∧ Below w.heap.size w w' := by
  subst hm
  exact byte_any n h1 w
theorem commit_d (v : Int) (root : ByteArray) (hs : root.size ≤ 1048576) (w : World) :
    Calls Tryz.prog 83 #[.int .i64 v, .string root] w fun e w' => e = .returned (.string (commitRec v root)) ∧ Below w.heap.size w w' :=
  (commitRec_any v root w hs).mono (by rintro e w' ⟨t, rfl, HT, hb⟩; exact ⟨by rw [HT.out], hb⟩)

theorem val_det (a : Option Addr) (xs : List Nat) (cap : Nat) (p : Nat) (hX : Code8 xs) (hp : p ≤ 90000) :
    ∃ t : ByteArray, t.size ≤ 300 ∧ ∀ w, BL a xs w → Calls Tryz.prog 64 #[.slice a xs.length cap, .int .i64 (p : Int)] w fun e w' => e = .returned (.tuple #[.string t, .int .i64 ((p + 2 : Nat) : Int)]) ∧ Below w.heap.size w w' := by
  obtain ⟨x, hx, HT⟩ := take_det a xs cap p 16 hX (by omega) (by omega) (by omega)
  obtain ⟨y, hy, HT2⟩ := take_det a xs cap (p + 1) 120 hX (by omega) (by omega) (by omega)
  replace HT : Hid _ := HT
  replace HT2 : Hid _ := HT2
  obtain ⟨p1, hp1⟩ : ∃ p1, p + 1 = p1 := ⟨_, rfl⟩
  obtain ⟨p2, hp2⟩ : ∃ p2, p + 2 = p2 := ⟨_, rfl⟩
  rw [show p + 1 + 1 = p2 by omega] at HT2
  rw [hp1] at HT HT2
  rw [hp2]
  clear hp1 hp2
  by_cases h1 : x < 2
  · have z1 : decide ((x : Int) < 2) = true := by simp; omega
    refine ⟨⟨#[]⟩, by decide, fun w h => ?_⟩
    go_enter Tryz.func64, Tryz.ntmps64
    go_wp2_with fail
    refine (HT.out w h).mono ?_
    rintro e w1 ⟨rfl, hb1⟩
    go_wp2_with fail
    refine (HT2.out _ (h.below hb1)).mono ?_
    rintro e w2 ⟨rfl, hb2⟩
    have hb : Below w.heap.size w w2 := hb1.trans (hb2.mono hb1.size)
    go_wp2_with fail
    go_ret2
    exact ⟨rfl, hb⟩
  have z1 : decide ((x : Int) < 2) = false := by simp; omega
  by_cases h2 : x = 14
  · subst h2
    refine ⟨reps (y * 2) 118, by rw [reps_size]; omega, fun w h => ?_⟩
    go_enter Tryz.func64, Tryz.ntmps64
    go_wp2_with fail
    refine (HT.out w h).mono ?_
    rintro e w1 ⟨rfl, hb1⟩
    go_wp2_with fail
    refine (HT2.out _ (h.below hb1)).mono ?_
    rintro e w2 ⟨rfl, hb2⟩
    have hb : Below w.heap.size w w2 := hb1.trans (hb2.mono hb1.size)
    go_wp2_with fail
    refine (long_d _ _ (y * 2) (by omega) (by omega) _).mono ?_
    rintro e w3 ⟨rfl, hb3⟩
    go_wp2_with fail
    go_ret2
    exact ⟨rfl, hb.trans (hb3.mono hb.size)⟩
  have z2 : ((x : Int) == 14) = false := by rw [beq_eq_false_iff_ne]; omega
  by_cases h3 : x = 15
  · subst h3
    obtain ⟨t3, ht3⟩ : ∃ t, reps (y % 63) 0 = t := ⟨_, rfl⟩
    obtain ⟨t4, ht4⟩ : ∃ t, commitRec ((y % 4 + 1 : Nat) : Int) ⟨#[]⟩ = t := ⟨_, rfl⟩
    obtain ⟨t6, ht6⟩ : ∃ t, commitRec ((y % 3 + 1 : Nat) : Int) (reps 1 114) = t := ⟨_, rfl⟩
    have k3 : t3.size ≤ 63 := by rw [← ht3, reps_size]; omega
    have k4 : t4.size ≤ 64 := by rw [← ht4]; exact commitRec_le _ _
    have k6 : t6.size ≤ 64 := by rw [← ht6]; exact commitRec_le _ _
    have f1 : ¬ (9223372036854775807 < t3.size + t4.size) := by omega
    have f2 : ¬ (9223372036854775807 < t3.size + t4.size + t6.size) := by omega
    have H3 : Hid (∀ w m, m = ((y % 63 : Nat) : Int) → Calls Tryz.prog 40 #[.int .i64 m, .string ⟨#[0]⟩] w fun e w' => e = .returned (.string t3) ∧ Below w.heap.size w w') := fun w m hm => by rw [← ht3]; exact long_d 0 m (y % 63) hm (by omega) w
    have H4 : Hid (∀ w m, m = ((y % 4 + 1 : Nat) : Int) → Calls Tryz.prog 83 #[.int .i64 m, .string ⟨#[]⟩] w fun e w' => e = .returned (.string t4) ∧ Below w.heap.size w w') := fun w m hm => by rw [← ht4, hm]; exact commit_d _ _ (by decide) w
    have H6 : Hid (∀ w m, m = ((y % 3 + 1 : Nat) : Int) → Calls Tryz.prog 83 #[.int .i64 m, .string (reps 1 114)] w fun e w' => e = .returned (.string t6) ∧ Below w.heap.size w w') := fun w m hm => by rw [← ht6, hm]; exact commit_d _ _ (by rw [reps_size]; omega) w
    clear ht3 ht4 ht6
    refine ⟨t3 ++ t4 ++ t6, by rw [ByteArray.size_append, ByteArray.size_append]; omega, fun w h => ?_⟩
    go_enter Tryz.func64, Tryz.ntmps64
    go_wp2_with fail
    refine (HT.out w h).mono ?_
    rintro e w1 ⟨rfl, hb1⟩
    go_wp2_with fail
    refine (HT2.out _ (h.below hb1)).mono ?_
    rintro e w2 ⟨rfl, hb2⟩
    have hb : Below w.heap.size w w2 := hb1.trans (hb2.mono hb1.size)
    go_wp2_with fail
    refine (H3.out _ _ (by omega)).mono ?_
    rintro e w3 ⟨rfl, hb3⟩
    have hB3 := hb.trans (hb3.mono hb.size)
    go_wp2_with fail
    refine (H4.out _ _ (by omega)).mono ?_
    rintro e w4 ⟨rfl, hb4⟩
    have hB4 := hB3.trans (hb4.mono hB3.size)
    go_wp2_with fail
    refine (long_d _ _ 1 (by omega) (by omega) _).mono ?_
    rintro e w5 ⟨rfl, hb5⟩
    have hB5 := hB4.trans (hb5.mono hB4.size)
    go_wp2_with fail
    refine (H6.out _ _ (by omega)).mono ?_
    rintro e w6 ⟨rfl, hb6⟩
    have hB6 := hB5.trans (hb6.mono hB5.size)
    clear hb hb3 hb4 hb5 hb6 hB3 hB4 hB5
    go_wp2_with fail
    go_ret2
    exact ⟨rfl, hB6⟩
  have z3 : ((x : Int) == 15) = false := by rw [beq_eq_false_iff_ne]; omega
  refine ⟨⟨#[118]⟩ ++ byteS (48 + y % 10) ++ byteS (48 + y / 10), by rw [ByteArray.size_append, ByteArray.size_append]; show 1 + 1 + 1 ≤ 300; omega, fun w h => ?_⟩
  obtain ⟨t3, ht3⟩ : ∃ t, byteS (48 + y % 10) = t := ⟨_, rfl⟩
  obtain ⟨t4, ht4⟩ : ∃ t, byteS (48 + y / 10) = t := ⟨_, rfl⟩
  have k3 : t3.size = 1 := by rw [← ht3]; rfl
  have k4 : t4.size = 1 := by rw [← ht4]; rfl
  have H3 : Hid (∀ w m, m = ((48 + y % 10 : Nat) : Int) → Calls Tryz.prog 41 #[.int .i64 m] w fun e w' => e = .returned (.string t3) ∧ Below w.heap.size w w') := fun w m hm => by rw [← ht3]; exact byte_d m _ hm (by omega) w
  have H4 : Hid (∀ w m, m = ((48 + y / 10 : Nat) : Int) → Calls Tryz.prog 41 #[.int .i64 m] w fun e w' => e = .returned (.string t4) ∧ Below w.heap.size w w') := fun w m hm => by rw [← ht4]; exact byte_d m _ hm (by omega) w
  rw [ht3, ht4]
  clear ht3 ht4
  have f1 : ¬ (9223372036854775807 < 1 + t3.size) := by omega
  have f2 : ¬ (9223372036854775807 < 1 + t3.size + t4.size) := by omega
  go_enter Tryz.func64, Tryz.ntmps64
  go_wp2_with fail
  refine (HT.out w h).mono ?_
  rintro e w1 ⟨rfl, hb1⟩
  go_wp2_with fail
  refine (HT2.out _ (h.below hb1)).mono ?_
  rintro e w2 ⟨rfl, hb2⟩
  have hb : Below w.heap.size w w2 := hb1.trans (hb2.mono hb1.size)
  go_wp2_with fail
  refine (H3.out _ _ (by omega)).mono ?_
  rintro e w3 ⟨rfl, hb3⟩
  have hB3 := hb.trans (hb3.mono hb.size)
  go_wp2_with fail
  refine (H4.out _ _ (by omega)).mono ?_
  rintro e w4 ⟨rfl, hb4⟩
  have hB4 := hB3.trans (hb4.mono hB3.size)
  go_wp2_with fail
  go_ret2
  exact ⟨rfl, hB4⟩
theorem less_tri : ∀ a b : List UInt8, Op.bytesLess a b = !(Op.bytesLess b a || b == a)
  | [], [] => rfl
  | [], b :: y => by simp [Op.bytesLess]
  | a :: x, [] => by simp [Op.bytesLess]
  | a :: x, b :: y => by
    rw [Op.bytesLess, Op.bytesLess, less_tri x y]
    by_cases h : a = b
    · subst h
      simp
    · by_cases hl : a < b
      · have h2 : ¬ b < a := by rw [UInt8.lt_iff_toNat_lt] at hl ⊢; omega
        have h3 : ¬ b = a := fun e => h e.symm
        simp [hl, h2, h3]
      · have h2 : b < a := by
          rw [UInt8.lt_iff_toNat_lt] at hl ⊢
          have : a.toNat ≠ b.toNat := fun e => h (UInt8.toNat_inj.1 e)
          omega
        have h3 : ¬ b = a := fun e => h e.symm
        simp [h, hl, h2]
abbrev PairT := ByteArray × ByteArray
def noPair : PairT := (⟨#[]⟩, ⟨#[]⟩)
/-- A slice of pairs. -/
structure PArg (a : Option Addr) (ps : List PairT) (w : World) : Prop where
  le : ps.length ≤ 1048576
  sz : ∀ j, (ps.getD j noPair).1.size ≤ 1048576 ∧ (ps.getD j noPair).2.size ≤ 1048576
  at_ : 0 < ps.length → ∃ b off : Nat, a = some ⟨b, off, none⟩ ∧ b < w.heap.size ∧ ∀ j, j < ps.length → w.cell? ⟨b, off + j * 2, none⟩ = some (.string (ps.getD j noPair).1) ∧ w.cell? ⟨b, off + j * 2 + 1, none⟩ = some (.string (ps.getD j noPair).2)
theorem PArg.below {a : Option Addr} {ps : List PairT} {w w' : World} (h : PArg a ps w) (hb : Below w.heap.size w w') : PArg a ps w' := by
  refine ⟨h.le, h.sz, fun hn => ?_⟩
  obtain ⟨b, off, ha, hlt, hc⟩ := h.at_ hn
  exact ⟨b, off, ha, Nat.lt_of_lt_of_le hlt hb.size, fun j hj => ⟨(hb.cell (p := ⟨b, off + j * 2, none⟩) hlt).trans (hc j hj).1, (hb.cell (p := ⟨b, off + j * 2 + 1, none⟩) hlt).trans (hc j hj).2⟩⟩
def okKey (k : ByteArray) : Bool := decide (1 ≤ k.size ∧ k.size ≤ 256)
def okVal (v : ByteArray) : Bool := decide (v.size ≤ 2000)
/-- The key before. -/
def lastK (ps : List PairT) : Nat → ByteArray
  | 0 => ⟨#[]⟩
  | k + 1 => (ps.getD k noPair).1
def goodAt (ps : List PairT) (k : Nat) : Bool := okKey (ps.getD k noPair).1 && (okVal (ps.getD k noPair).2 && Op.bytesLess (lastK ps k).toList (ps.getD k noPair).1.toList)
def mapTo (ps : List PairT) : Nat → Bool
  | 0 => true
  | k + 1 => mapTo ps k && goodAt ps k
theorem mapTo_false (ps : List PairT) (k n : Nat) (h : k < n) (hg : goodAt ps k = false) : mapTo ps n = false := by
  induction n with
  | zero => omega
  | succ n ih =>
    rw [mapTo]
    by_cases e : k = n
    · subst e; rw [hg, Bool.and_false]
    · rw [ih (by omega), Bool.false_and]
def isMapT (ps : List PairT) : Bool := decide (ps.length ≤ 500) && mapTo ps ps.length
theorem vkey_any (k : ByteArray) (w : World) (hk : k.size ≤ 1048576) : Calls Tryz.prog 47 #[.string k] w fun e w' => e = .returned (.bool (okKey k)) ∧ w = w' := by
  by_cases c1 : 1 ≤ k.size
  · have hr : okKey k = decide ((k.size : Int) ≤ 256) := by
      unfold okKey
      by_cases c2 : k.size ≤ 256
      · rw [decide_eq_true (by omega), decide_eq_true (by omega)]
      · rw [decide_eq_false (by omega), decide_eq_false (by omega)]
    rw [hr]
    have z1 : decide ((1 : Int) ≤ (k.size : Int)) = true := by rw [decide_eq_true_eq]; omega
    have z2 : decide (1 ≤ k.size) = true := decide_eq_true c1
    have z3 : 0 < k.size := by omega
    clear hr
    go_enter Tryz.func47, Tryz.ntmps47
    go_wp2_with fail
    go_ret
    exact ⟨rfl, rfl⟩
  · have hr : okKey k = false := by unfold okKey; rw [decide_eq_false (by omega)]
    rw [hr]
    have z1 : decide ((1 : Int) ≤ (k.size : Int)) = false := by rw [decide_eq_false_iff_not]; omega
    have z0 : k.size = 0 := by omega
    clear hr
    go_enter Tryz.func47, Tryz.ntmps47
    go_wp2_with fail
    go_ret
    exact ⟨rfl, rfl⟩
theorem vval_any (v : ByteArray) (w : World) (hv : v.size ≤ 1048576) : Calls Tryz.prog 48 #[.string v] w fun e w' => e = .returned (.bool (okVal v)) ∧ w = w' := by
  have hr : okVal v = decide ((v.size : Int) ≤ 2000) := by
    unfold okVal
    by_cases c2 : v.size ≤ 2000
    · rw [decide_eq_true (by omega), decide_eq_true (by omega)]
    · rw [decide_eq_false (by omega), decide_eq_false (by omega)]
  rw [hr]
  go_enter Tryz.func48, Tryz.ntmps48
  go_wp2_with fail
  go_ret
  exact ⟨rfl, rfl⟩

theorem isMap_any (a : Option Addr) (ps : List PairT) (c : Nat) (w : World) (h : PArg a ps w) :
    Calls Tryz.prog 24 #[.slice a ps.length c] w fun e w' => e = .returned (.bool (isMapT ps)) ∧ Below w.heap.size w w' := by
  have hn := h.le
  obtain ⟨n, hnn⟩ : ∃ n, ps.length = n := ⟨_, rfl⟩
  obtain ⟨B, hB⟩ : ∃ B, isMapT ps = B := ⟨_, rfl⟩
  rw [hB, hnn]
  rw [hnn] at hn
  by_cases hx : 500 < n
  · have hf : Hid (B = false) := by show B = false; rw [← hB]; unfold isMapT; rw [decide_eq_false (by omega), Bool.false_and]
    have z1 : decide ((500 : Int) < (n : Int)) = true := by rw [decide_eq_true_eq]; omega
    have z2 : decide ((n : Int) > 500) = true := by rw [decide_eq_true_eq]; omega
    clear hB
    go_enter Tryz.func24, Tryz.ntmps24
    go_wp2_with fail
    go_ret
    exact ⟨by rw [hf.out]; rfl, Below.refl _ _⟩
  · have hBm : Hid (B = mapTo ps n) := by show B = _; rw [← hB]; unfold isMapT; rw [decide_eq_true (by omega), Bool.true_and, hnn]
    have z1 : decide ((500 : Int) < (n : Int)) = false := by rw [decide_eq_false_iff_not]; omega
    have z2 : decide ((n : Int) > 500) = false := by rw [decide_eq_false_iff_not]; omega
    have hnl : Hid (ps.length = n) := hnn
    clear hB hnn
    go_enter Tryz.func24, Tryz.ntmps24
    go_wp2_with fail
    go_loopw [3, 11] (fun t3 t11 wr => ∃ k : Nat, k ≤ n ∧ t3 = .string (lastK ps k) ∧ t11 = .int .i64 (k : Int) ∧ Hid (mapTo ps k = true) ∧ Below w.heap.size w wr) (fun _ t11 _ => n - (intOf t11).toNat)
    case atStart => exact ⟨0, Nat.zero_le _, rfl, rfl, rfl, Below.refl _ _⟩
    case round =>
      obtain ⟨k, hk, rfl, rfl, hm, hbw⟩ := hrel
      by_cases hlt : k < n
      · have z3 : decide ((k : Int) < (n : Int)) = true := by simp; omega
        have hx0 : (0 : Int) ≤ (k : Int) := Int.natCast_nonneg _
        have hx1 : (k : Int) < (n : Int) := by omega
        obtain ⟨b, off, rfl, hbl, hc⟩ := (h.below hbw).at_ (by rw [hnl.out]; omega)
        obtain ⟨hc1, hc2⟩ := hc k (by rw [hnl.out]; exact hlt)
        have hgd : Hid (goodAt ps k = (okKey (ps.getD k noPair).1 && (okVal (ps.getD k noPair).2 && Op.bytesLess (lastK ps k).toList (ps.getD k noPair).1.toList))) := rfl
        have hlk : Hid (lastK ps (k + 1) = (ps.getD k noPair).1) := rfl
        obtain ⟨hs1, hs2⟩ := h.sz k
        generalize (ps.getD k noPair).1 = pk at hc1 hgd hlk hs1
        generalize (ps.getD k noPair).2 = pv at hc2 hgd hs2
        generalize lastK ps k = lk at hgd ⊢
        have H1 : Hid (∀ w', Calls Tryz.prog 47 #[.string pk] w' fun e w'' => e = .returned (.bool (okKey pk)) ∧ w' = w'') := fun w' => vkey_any pk w' hs1
        have H2 : Hid (∀ w', Calls Tryz.prog 48 #[.string pv] w' fun e w'' => e = .returned (.bool (okVal pv)) ∧ w' = w'') := fun w' => vval_any pv w' hs2
        clear hc
        cases hk1 : okKey pk with
        | false =>
          rw [hk1] at H1
          have hbf : Hid (B = false) := by
            show B = false
            rw [hBm.out]
            exact mapTo_false ps k n hlt (by rw [hgd.out, hk1, Bool.false_and])
          clear hk1 hgd hm hBm
          have hbA : Below w.heap.size w (wr.alloc (.cells #[.string pk, .string pv] 56)) := hbw.alloc hbw.size _
          go_wp2_with (first | (go_at_call 47; refine (H1.out _).mono ?_; rintro e w1 ⟨rfl, rfl⟩))
          go_ret
          exact ⟨by rw [hbf.out]; rfl, hbA⟩
        | true =>
          rw [hk1] at H1
          cases hv1 : okVal pv with
          | false =>
            rw [hv1] at H2
            have hbf : Hid (B = false) := by
              show B = false
              rw [hBm.out]
              exact mapTo_false ps k n hlt (by rw [hgd.out, hk1, hv1]; rfl)
            clear hk1 hv1 hgd hm hBm
            have hbA : Below w.heap.size w (wr.alloc (.cells #[.string pk, .string pv] 56)) := hbw.alloc hbw.size _
            go_wp2_with (first | (go_at_call 47; refine (H1.out _).mono ?_; rintro e w1 ⟨rfl, rfl⟩) | (go_at_call 48; refine (H2.out _).mono ?_; rintro e w1 ⟨rfl, rfl⟩))
            go_ret
            exact ⟨by rw [hbf.out]; rfl, hbA⟩
          | true =>
            rw [hv1] at H2
            have hg2 : Hid (goodAt ps k = Op.bytesLess lk.toList pk.toList) := by show _ = _; rw [hgd.out, hk1, hv1]; rfl
            have hbA : Below w.heap.size w (wr.alloc (.cells #[.string pk, .string pv] 56)) := hbw.alloc hbw.size _
            clear hk1 hv1 hgd
            cases hls : Op.bytesLess lk.toList pk.toList with
            | false =>
              have hbf : Hid (B = false) := by
                show B = false
                rw [hBm.out]
                exact mapTo_false ps k n hlt (by rw [hg2.out, hls])
              have hor := less_tri lk.toList pk.toList
              rw [hls] at hor
              have hor2 : (Op.bytesLess pk.toList lk.toList || (pk.toList == lk.toList)) = true := by
                cases hq : (Op.bytesLess pk.toList lk.toList || (pk.toList == lk.toList)) with
                | true => rfl
                | false => rw [hq] at hor; cases hor
              clear hg2 hm hBm hor hls
              cases hq1 : Op.bytesLess pk.toList lk.toList with
              | true =>
                clear hor2
                go_wp2_with (first | (go_at_call 47; refine (H1.out _).mono ?_; rintro e w1 ⟨rfl, rfl⟩) | (go_at_call 48; refine (H2.out _).mono ?_; rintro e w1 ⟨rfl, rfl⟩))
                go_ret
                exact ⟨by rw [hbf.out]; rfl, hbA⟩
              | false =>
                rw [hq1, Bool.false_or] at hor2
                go_wp2_with (first | (go_at_call 47; refine (H1.out _).mono ?_; rintro e w1 ⟨rfl, rfl⟩) | (go_at_call 48; refine (H2.out _).mono ?_; rintro e w1 ⟨rfl, rfl⟩))
                go_ret
                exact ⟨by rw [hbf.out]; rfl, hbA⟩
            | true =>
              have hm' : Hid (mapTo ps (k + 1) = true) := by show _ = _; rw [mapTo, hm.out, hg2.out, hls]; rfl
              have hor := less_tri lk.toList pk.toList
              rw [hls] at hor
              have hq1 : Op.bytesLess pk.toList lk.toList = false := by
                cases hq : Op.bytesLess pk.toList lk.toList with
                | false => rfl
                | true => rw [hq, Bool.true_or] at hor; cases hor
              have hq2 : (pk.toList == lk.toList) = false := by
                cases hq : (pk.toList == lk.toList) with
                | false => rfl
                | true => rw [hq, Bool.or_true] at hor; cases hor
              clear hg2 hm hor hls
              go_wp2_with (first | (go_at_call 47; refine (H1.out _).mono ?_; rintro e w1 ⟨rfl, rfl⟩) | (go_at_call 48; refine (H2.out _).mono ?_; rintro e w1 ⟨rfl, rfl⟩))
              go_roundw
              case rel => exact ⟨k + 1, hlt, by rw [hlk.out], by go_num, hm', hbA⟩
              case measure => simp [intOf]; omega
      · obtain rfl : k = n := by omega
        have z3 : decide ((k : Int) < (k : Int)) = false := by simp
        have hbt : Hid (B = true) := by show B = true; rw [hBm.out, hm.out]
        clear hBm hm
        go_wp2_with fail
        go_ret
        exact ⟨by rw [hbt.out]; rfl, hbw⟩
abbrev FN := (ByteArray × ByteArray × ByteArray × ByteArray) × Int
def lessB (a b : ByteArray) : Bool := Op.bytesLess a.toList b.toList
section
variable {fnd : ByteArray → FN} {hg : ByteArray → ByteArray → Bool} {lo hi : ByteArray}
end
theorem fed_new (w : World) : Fed (w.alloc (.cells newCells.toArray 162)) w.heap.size [] (List.replicate 64 0) 0 := ⟨hsh_new w, rfl⟩

theorem hash_any (s : ByteArray) (w : World) (hs : s.size ≤ 1048576)
    (hK : ∀ j, j < 64 → w.cell? ⟨0, j, none⟩ = some (.int .u32 ((kTab.getD j 0).toNat : Int))) :
    Calls Tryz.prog 93 #[.string s] w fun e w' => e = .returned (.agg ((sha s.data.toList).map B).toArray) ∧ Below w.heap.size w w' := by
  have hl0 : 0 < w.heap.size := World.block_lt_of_cell? w _ (hK 0 (by omega))
  have HK : Hid (∀ w' : World, Below w.heap.size w w' → ∀ j, j < 64 → w'.cell? ⟨0, j, none⟩ = some (.int .u32 ((kTab.getD j 0).toNat : Int))) := fun w' hb j hj => (hb.cell (by exact hl0)).trans (hK j hj)
  clear hK
  have hsl : s.data.toList.length = s.size := rfl
  go_enter Tryz.func93, Tryz.ntmps93
  go_wp2_with (refine wpList_alloc_row _ rfl (some 2) rfl 123 123 rfl (zeros8.map B) alloc32 ?_; intro g2 w2 hr2 hb2)
  have hr2' : Row w2 w.heap.size g2 32 32 (zeros8.map B) := hr2
  have hge := hr2.ge
  have hlt := hr2.lt
  have hs2 := hb2.size
  clear hr2
  refine (new_any w2).mono ?_
  rintro e w3 ⟨rfl, hw3⟩
  have F3 : Fed w3 w2.heap.size [] (List.replicate 64 0) 0 := by rw [hw3]; exact fed_new w2
  have hb3 : Below w2.heap.size w2 w3 := by rw [hw3]; exact (Below.refl _ _).alloc (Nat.le_refl _) _
  clear hw3
  obtain ⟨b, hb⟩ : ∃ b, w2.heap.size = b := ⟨_, rfl⟩
  rw [hb] at F3
  rw [hb]
  have hs3 := hb3.size
  have hbw3 : Below w.heap.size w w3 := hb2.trans (hb3.mono hs2)
  have hR3 : Row w3 w.heap.size g2 32 32 (zeros8.map B) := hr2'.below hb3
  have hb0 : b ≠ 0 := by omega
  have hgb : g2 < b := by omega
  have hwb : w.heap.size ≤ b := by omega
  clear hr2' hb3 hb2
  go_wp2_with fail
  refine (feed_any b [] (List.replicate 64 0) s w3 F3 (by simp; omega) hb0 (HK.out w3 hbw3)).mono ?_
  rintro e w4 ⟨rfl, ⟨k4, F4⟩, hg4⟩
  have hs4 := hg4.size
  have hbw4 : Below w.heap.size w w4 := hbw3.trans (below_of_grown hg4 hwb (by omega))
  have hR4 : Row w4 w.heap.size g2 32 32 (zeros8.map B) := hR3.kept hg4 (by simp; omega)
  rw [List.nil_append, List.length_nil, Nat.zero_add] at F4
  clear F3 hg4 hR3 hbw3
  have hfs := fin_sha s.data.toList k4 F4.H.kl F4.tk
  have H4 := F4.H
  rw [hsl] at H4 hfs
  clear F4
  go_wp2_with fail
  refine (finish_any b _ k4 _ s.size w4 H4 (by omega) (by omega) hb0 (HK.out w4 hbw4)).mono ?_
  rintro e w5 ⟨rfl, hg5⟩
  rw [hfs]
  clear hfs H4
  have hbw5 : Below w.heap.size w w5 := hbw4.trans (below_of_grown hg5 hwb (by omega))
  have hR5 : Row w5 w.heap.size g2 32 32 (zeros8.map B) := hR4.kept hg5 (by simp; omega)
  have hln : ((sha s.data.toList).map B).length = 32 := by rw [List.length_map]; unfold sha; rw [outTo_length]
  have h1c : ∀ v ∈ (sha s.data.toList).map B, v.oneCell' = true := by
    intro v hv
    obtain ⟨x, _, rfl⟩ := List.mem_map.1 hv
    rfl
  obtain ⟨L, hL⟩ : ∃ L, (sha s.data.toList).map B = L := ⟨_, rfl⟩
  rw [hL] at hln h1c
  rw [hL]
  have HL : Hid ((sha s.data.toList).map B = L) := hL
  clear hL
  go_wp2_with (refine wpList_store_whole _ rfl rfl 123 (.tmp 2) (.tmp 9) rfl w.heap.size g2 32 (zeros8.map B) L rfl rfl hR5 hln size32 h1c ?_; intro w8 hR8 hg8)
  refine ret_row _ (p := 2) (ty := 123) rfl w.heap.size g2 32 32 L 5 rfl hR8 Tryz.underlying123 size32 rfl ?_
  refine ⟨?_, ?_⟩
  · rw [HL.out]
  · exact hbw5.trans (below_of_grown hg8 hge (by have := hbw5.size; omega))

end Go.Proofs.YtmfhfehemoeeeaaGreatDoor
