import Derived.Test.YtibjhkpgaaapaaaGreatDoorZvak
import Derived.Test.YtibjhkpgaaapaaaGreatDoorZvab
import Derived.Deep.Cut
import Derived.Deep.RegionHeld3
import Derived.Lib.Builder
import Derived.Deep.QuietTactic
import Derived.BigQuiet
namespace Go.Proofs.YtibjhkpgaaapaaaGreatDoor
open Go.RowKit Go.Proofs.Sha

theorem less_tri : ∀ a b : List UInt8, Op.bytesLess a b = !(Op.bytesLess b a || b == a)
  | [], [] => rfl
  | [], b :: y => by simp [Op.bytesLess]
  | a :: x, [] => by simp [Op.bytesLess]
  | a :: x, b :: y => by
    rw [Op.bytesLess, Op.bytesLess, less_tri x y]
    by_cases h : a = b
    · subst h
      simp
    · by_cases hl : a < b
      · have h2 : ¬ b < a := by rw [UInt8.lt_iff_toNat_lt] at hl ⊢; omega
        have h3 : ¬ b = a := fun e => h e.symm
        simp [hl, h2, h3]
      · have h2 : b < a := by
          rw [UInt8.lt_iff_toNat_lt] at hl ⊢
          have : a.toNat ≠ b.toNat := fun e => h (UInt8.toNat_inj.1 e)
          omega
        have h3 : ¬ b = a := fun e => h e.symm
        simp [h, hl, h2]
abbrev PairT := ByteArray × ByteArray
def noPair : PairT := (⟨#[]⟩, ⟨#[]⟩)
/-- A slice of pairs. -/
structure PArg (a : Option Addr) (ps : List PairT) (w : World) : Prop where
  le : ps.length ≤ 1048576
  sz : ∀ j, (ps.getD j noPair).1.size ≤ 1048576 ∧ (ps.getD j noPair).2.size ≤ 1048576
  at_ : 0 < ps.length → ∃ b off : Nat, a = some ⟨b, off, none⟩ ∧ b < w.heap.size ∧ ∀ j, j < ps.length → w.cell? ⟨b, off + j * 2, none⟩ = some (.string (ps.getD j noPair).1) ∧ w.cell? ⟨b, off + j * 2 + 1, none⟩ = some (.string (ps.getD j noPair).2)
theorem PArg.below {a : Option Addr} {ps : List PairT} {w w' : World} (h : PArg a ps w) (hb : Below w.heap.size w w') : PArg a ps w' := by
  refine ⟨h.le, h.sz, fun hn => ?_⟩
  obtain ⟨b, off, ha, hlt, hc⟩ := h.at_ hn
  exact ⟨b, off, ha, Nat.lt_of_lt_of_le hlt hb.size, fun j hj => ⟨(hb.cell (p := ⟨b, off + j * 2, none⟩) hlt).trans (hc j hj).1, (hb.cell (p := ⟨b, off + j * 2 + 1, none⟩) hlt).trans (hc j hj).2⟩⟩
def okKey (k : ByteArray) : Bool := decide (1 ≤ k.size ∧ k.size ≤ 256)
def okVal (v : ByteArray) : Bool := decide (v.size ≤ 2000)
/-- The key before. -/
def lastK (ps : List PairT) : Nat → ByteArray
  | 0 => ⟨#[]⟩
  | k + 1 => (ps.getD k noPair).1
def goodAt (ps : List PairT) (k : Nat) : Bool := okKey (ps.getD k noPair).1 && (okVal (ps.getD k noPair).2 && Op.bytesLess (lastK ps k).toList (ps.getD k noPair).1.toList)
def mapTo (ps : List PairT) : Nat → Bool
  | 0 => true
  | k + 1 => mapTo ps k && goodAt ps k
theorem mapTo_false (ps : List PairT) (k n : Nat) (h : k < n) (hg : goodAt ps k = false) : mapTo ps n = false := by
  induction n with
  | zero => omega
  | succ n ih =>
    rw [mapTo]
    by_cases e : k = n
    · subst e; rw [hg, Bool.and_false]
    · rw [ih (by omega), Bool.false_and]
def isMapT (ps : List PairT) : Bool := decide (ps.length ≤ 500) && mapTo ps ps.length
theorem vkey_any (k : ByteArray) (w : World) (hk : k.size ≤ 1048576) : Calls Tryz.prog 127 #[.string k] w fun e w' => e = .returned (.bool (okKey k)) ∧ w = w' := by
  by_cases c1 : 1 ≤ k.size
  · have hr : okKey k = decide ((k.size : Int) ≤ 256) := by
      unfold okKey
      by_cases c2 : k.size ≤ 256
      · rw [decide_eq_true (by omega), decide_eq_true (by omega)]
      · rw [decide_eq_false (by omega), decide_eq_false (by omega)]
    rw [hr]
    have z1 : decide ((1 : Int) ≤ (k.size : Int)) = true := by rw [decide_eq_true_eq]; omega
    have z2 : decide (1 ≤ k.size) = true := decide_eq_true c1
    have z3 : 0 < k.size := by omega
    clear hr
    go_enter Tryz.func127, Tryz.ntmps127
    go_wp2_with fail
    go_ret
    exact ⟨rfl, rfl⟩
  · have hr : okKey k = false := by unfold okKey; rw [decide_eq_false (by omega)]
    rw [hr]
    have z1 : decide ((1 : Int) ≤ (k.size : Int)) = false := by rw [decide_eq_false_iff_not]; omega
    have z0 : k.size = 0 := by omega
    clear hr
    go_enter Tryz.func127, Tryz.ntmps127
    go_wp2_with fail
    go_ret
    exact ⟨rfl, rfl⟩
theorem vval_any (v : ByteArray) (w : World) (hv : v.size ≤ 1048576) : Calls Tryz.prog 128 #[.string v] w fun e w' => e = .returned (.bool (okVal v)) ∧ w = w' := by
  have hr : okVal v = decide ((v.size : Int) ≤ 2000) := by
    unfold okVal
    by_cases c2 : v.size ≤ 2000
    · rw [decide_eq_true (by omega), decide_eq_true (by omega)]
    · rw [decide_eq_false (by omega), decide_eq_false (by omega)]
  rw [hr]
  go_enter Tryz.func128, Tryz.ntmps128
  go_wp2_with fail
  go_ret
  exact ⟨rfl, rfl⟩

set_option maxRecDepth 100000 in
set_option maxHeartbeats 1000000 in
theorem isMap_any (a : Option Addr) (ps : List PairT) (c : Nat) (w : World) (h : PArg a ps w) :
    Calls Tryz.prog 70 #[.slice a ps.length c] w fun e w' => e = .returned (.bool (isMapT ps)) ∧ Below w.heap.size w w' := by
  have hn := h.le
  obtain ⟨n, hnn⟩ : ∃ n, ps.length = n := ⟨_, rfl⟩
  obtain ⟨B, hB⟩ : ∃ B, isMapT ps = B := ⟨_, rfl⟩
  rw [hB, hnn]
  rw [hnn] at hn
  by_cases hx : 500 < n
  · have hf : Hid (B = false) := by show B = false; rw [← hB]; unfold isMapT; rw [decide_eq_false (by omega), Bool.false_and]
    have z1 : decide ((500 : Int) < (n : Int)) = true := by rw [decide_eq_true_eq]; omega
    have z2 : decide ((n : Int) > 500) = true := by rw [decide_eq_true_eq]; omega
    clear hB
    go_enter Tryz.func70, Tryz.ntmps70
    go_wp2_with fail
    go_ret
    exact ⟨by rw [hf.out]; rfl, Below.refl _ _⟩
  · have hBm : Hid (B = mapTo ps n) := by show B = _; rw [← hB]; unfold isMapT; rw [decide_eq_true (by omega), Bool.true_and, hnn]
    have z1 : decide ((500 : Int) < (n : Int)) = false := by rw [decide_eq_false_iff_not]; omega
    have z2 : decide ((n : Int) > 500) = false := by rw [decide_eq_false_iff_not]; omega
    have hnl : Hid (ps.length = n) := hnn
    clear hB hnn
    go_enter Tryz.func70, Tryz.ntmps70
    go_wp2_with fail
    go_loopw [3, 11] (fun t3 t11 wr => ∃ k : Nat, k ≤ n ∧ t3 = .string (lastK ps k) ∧ t11 = .int .i64 (k : Int) ∧ Hid (mapTo ps k = true) ∧ Below w.heap.size w wr) (fun _ t11 _ => n - (intOf t11).toNat)
    case atStart => exact ⟨0, Nat.zero_le _, rfl, rfl, rfl, Below.refl _ _⟩
    case round =>
      obtain ⟨k, hk, rfl, rfl, hm, hbw⟩ := hrel
      by_cases hlt : k < n
      · have z3 : decide ((k : Int) < (n : Int)) = true := by simp; omega
        have hx0 : (0 : Int) ≤ (k : Int) := Int.natCast_nonneg _
        have hx1 : (k : Int) < (n : Int) := by omega
        obtain ⟨b, off, rfl, hbl, hc⟩ := (h.below hbw).at_ (by rw [hnl.out]; omega)
        obtain ⟨hc1, hc2⟩ := hc k (by rw [hnl.out]; exact hlt)
        have hgd : Hid (goodAt ps k = (okKey (ps.getD k noPair).1 && (okVal (ps.getD k noPair).2 && Op.bytesLess (lastK ps k).toList (ps.getD k noPair).1.toList))) := rfl
        have hlk : Hid (lastK ps (k + 1) = (ps.getD k noPair).1) := rfl
        obtain ⟨hs1, hs2⟩ := h.sz k
        generalize (ps.getD k noPair).1 = pk at hc1 hgd hlk hs1
        generalize (ps.getD k noPair).2 = pv at hc2 hgd hs2
        generalize lastK ps k = lk at hgd ⊢
        have H1 : Hid (∀ w', Calls Tryz.prog 127 #[.string pk] w' fun e w'' => e = .returned (.bool (okKey pk)) ∧ w' = w'') := fun w' => vkey_any pk w' hs1
        have H2 : Hid (∀ w', Calls Tryz.prog 128 #[.string pv] w' fun e w'' => e = .returned (.bool (okVal pv)) ∧ w' = w'') := fun w' => vval_any pv w' hs2
        clear hc
        cases hk1 : okKey pk with
        | false =>
          rw [hk1] at H1
          have hbf : Hid (B = false) := by
            show B = false
            rw [hBm.out]
            exact mapTo_false ps k n hlt (by rw [hgd.out, hk1, Bool.false_and])
          clear hk1 hgd hm hBm
          have hbA : Below w.heap.size w (wr.alloc (.cells #[.string pk, .string pv] 81)) := hbw.alloc hbw.size _
          go_wp2_with (first | (go_at_call 127; refine (H1.out _).mono ?_; rintro e w1 ⟨rfl, rfl⟩))
          go_ret
          exact ⟨by rw [hbf.out]; rfl, hbA⟩
        | true =>
          rw [hk1] at H1
          cases hv1 : okVal pv with
          | false =>
            rw [hv1] at H2
            have hbf : Hid (B = false) := by
              show B = false
              rw [hBm.out]
              exact mapTo_false ps k n hlt (by rw [hgd.out, hk1, hv1]; rfl)
            clear hk1 hv1 hgd hm hBm
            have hbA : Below w.heap.size w (wr.alloc (.cells #[.string pk, .string pv] 81)) := hbw.alloc hbw.size _
            go_wp2_with (first | (go_at_call 127; refine (H1.out _).mono ?_; rintro e w1 ⟨rfl, rfl⟩) | (go_at_call 128; refine (H2.out _).mono ?_; rintro e w1 ⟨rfl, rfl⟩))
            go_ret
            exact ⟨by rw [hbf.out]; rfl, hbA⟩
          | true =>
            rw [hv1] at H2
            have hg2 : Hid (goodAt ps k = Op.bytesLess lk.toList pk.toList) := by show _ = _; rw [hgd.out, hk1, hv1]; rfl
            have hbA : Below w.heap.size w (wr.alloc (.cells #[.string pk, .string pv] 81)) := hbw.alloc hbw.size _
            clear hk1 hv1 hgd
            cases hls : Op.bytesLess lk.toList pk.toList with
            | false =>
              have hbf : Hid (B = false) := by
                show B = false
                rw [hBm.out]
                exact mapTo_false ps k n hlt (by rw [hg2.out, hls])
              have hor := less_tri lk.toList pk.toList
              rw [hls] at hor
              have hor2 : (Op.bytesLess pk.toList lk.toList || (pk.toList == lk.toList)) = true := by
                cases hq : (Op.bytesLess pk.toList lk.toList || (pk.toList == lk.toList)) with
                | true => rfl
                | false => rw [hq] at hor; cases hor
              clear hg2 hm hBm hor hls
              cases hq1 : Op.bytesLess pk.toList lk.toList with
              | true =>
                clear hor2
                go_wp2_with (first | (go_at_call 127; refine (H1.out _).mono ?_; rintro e w1 ⟨rfl, rfl⟩) | (go_at_call 128; refine (H2.out _).mono ?_; rintro e w1 ⟨rfl, rfl⟩))
                go_ret
                exact ⟨by rw [hbf.out]; rfl, hbA⟩
              | false =>
                rw [hq1, Bool.false_or] at hor2
                go_wp2_with (first | (go_at_call 127; refine (H1.out _).mono ?_; rintro e w1 ⟨rfl, rfl⟩) | (go_at_call 128; refine (H2.out _).mono ?_; rintro e w1 ⟨rfl, rfl⟩))
                go_ret
                exact ⟨by rw [hbf.out]; rfl, hbA⟩
            | true =>
              have hm' : Hid (mapTo ps (k + 1) = true) := by show _ = _; rw [mapTo, hm.out, hg2.out, hls]; rfl
              have hor := less_tri lk.toList pk.toList
              rw [hls] at hor
              have hq1 : Op.bytesLess pk.toList lk.toList = false := by
                cases hq : Op.bytesLess pk.toList lk.toList with
                | false => rfl
                | true => rw [hq, Bool.true_or] at hor; cases hor
              have hq2 : (pk.toList == lk.toList) = false := by
                cases hq : (pk.toList == lk.toList) with
                | false => rfl
                | true => rw [hq, Bool.or_true] at hor; cases hor
              clear hg2 hm hor hls
              go_wp2_with (first | (go_at_call 127; refine (H1.out _).mono ?_; rintro e w1 ⟨rfl, rfl⟩) | (go_at_call 128; refine (H2.out _).mono ?_; rintro e w1 ⟨rfl, rfl⟩))
              go_roundw
              case rel => exact ⟨k + 1, hlt, by rw [hlk.out], by go_num, hm', hbA⟩
              case measure => simp [intOf]; omega
      · obtain rfl : k = n := by omega
        have z3 : decide ((k : Int) < (k : Int)) = false := by simp
        have hbt : Hid (B = true) := by show B = true; rw [hBm.out, hm.out]
        clear hBm hm
        go_wp2_with fail
        go_ret
        exact ⟨by rw [hbt.out]; rfl, hbw⟩
end Go.Proofs.YtibjhkpgaaapaaaGreatDoor
namespace Go.Proofs.YtibjhkpgaaapaaaGreatDoor
open Go.RowKit Go.Proofs.Sha

abbrev FN := (ByteArray × ByteArray × ByteArray × ByteArray) × Int
/-- What a look-up may answer. -/
structure FndOk (wd : Nat) (fnd : ByteArray → FN) : Prop where
  code : ∀ h, (fnd h).2 = 0 ∨ (fnd h).2 = 2 ∨ (fnd h).2 = 3
  node : ∀ h, (fnd h).2 = 0 → okKey (fnd h).1.1 = true ∧ okVal (fnd h).1.2.1 = true ∧ ((fnd h).1.2.2.1.size = 0 ∨ (fnd h).1.2.2.1.size = wd) ∧ ((fnd h).1.2.2.2.size = 0 ∨ (fnd h).1.2.2.2.size = wd)
def lessB (a b : ByteArray) : Bool := Op.bytesLess a.toList b.toList
def emp (a : ByteArray) : Bool := decide (a.size = 0)
/-- A subtree between two keys can have a key within the bounds. -/
def canW (over under lo hi : ByteArray) : Bool := (emp hi || (lessB lo hi && lessB over hi)) && (emp under || lessB lo under)
/-- A key stands between two keys. -/
def insW (over under k : ByteArray) : Bool := lessB over k && (emp under || lessB k under)
/-- A key is within the bounds. -/
def hasW (lo hi k : ByteArray) : Bool := !lessB k lo && (emp hi || lessB k hi)
/-- One key stands above another, by the order 'hi'; none is above where there is no first one. -/
def parW (hg : ByteArray → ByteArray → Bool) (par k : ByteArray) : Bool := emp par || hg par k
/-- A walk over a subtree: the code, how many nodes, the pairs. -/
def goF (fnd : ByteArray → FN) (hg : ByteArray → ByteArray → Bool) (lo hi : ByteArray) : Nat → ByteArray → ByteArray → ByteArray → ByteArray → Nat → Int × Nat × List PairT
  | 0, _, _, _, _, _ => (9, 0, [])
  | f + 1, hash, over, under, par, cnt =>
    if (emp hash || !canW over under lo hi) = true then (0, cnt, []) else
    if (fnd hash).2 = 2 then (2, 0, []) else
    if (fnd hash).2 ≠ 0 then (3, 0, []) else
    if (insW over under (fnd hash).1.1 && parW hg par (fnd hash).1.1) = false then (3, 0, []) else
    if 500 < cnt + 1 then (6, 0, []) else
    if (goF fnd hg lo hi f (fnd hash).1.2.2.1 over (fnd hash).1.1 (fnd hash).1.1 (cnt + 1)).1 ≠ 0 then ((goF fnd hg lo hi f (fnd hash).1.2.2.1 over (fnd hash).1.1 (fnd hash).1.1 (cnt + 1)).1, 0, []) else
    if (goF fnd hg lo hi f (fnd hash).1.2.2.2 (fnd hash).1.1 under (fnd hash).1.1 (goF fnd hg lo hi f (fnd hash).1.2.2.1 over (fnd hash).1.1 (fnd hash).1.1 (cnt + 1)).2.1).1 ≠ 0 then ((goF fnd hg lo hi f (fnd hash).1.2.2.2 (fnd hash).1.1 under (fnd hash).1.1 (goF fnd hg lo hi f (fnd hash).1.2.2.1 over (fnd hash).1.1 (fnd hash).1.1 (cnt + 1)).2.1).1, 0, []) else
    (0, (goF fnd hg lo hi f (fnd hash).1.2.2.2 (fnd hash).1.1 under (fnd hash).1.1 (goF fnd hg lo hi f (fnd hash).1.2.2.1 over (fnd hash).1.1 (fnd hash).1.1 (cnt + 1)).2.1).2.1,
      (goF fnd hg lo hi f (fnd hash).1.2.2.1 over (fnd hash).1.1 (fnd hash).1.1 (cnt + 1)).2.2 ++ (if hasW lo hi (fnd hash).1.1 = true then [((fnd hash).1.1, (fnd hash).1.2.1)] else []) ++
      (goF fnd hg lo hi f (fnd hash).1.2.2.2 (fnd hash).1.1 under (fnd hash).1.1 (goF fnd hg lo hi f (fnd hash).1.2.2.1 over (fnd hash).1.1 (fnd hash).1.1 (cnt + 1)).2.1).2.2)
section
variable {fnd : ByteArray → FN} {hg : ByteArray → ByteArray → Bool} {lo hi : ByteArray}
theorem goF_skip {f : Nat} {hash over under par : ByteArray} {cnt : Nat} (h : (emp hash || !canW over under lo hi) = true) : goF fnd hg lo hi (f + 1) hash over under par cnt = (0, cnt, []) := by rw [goF, if_pos h]
theorem goF_missing {f : Nat} {hash over under par : ByteArray} {cnt : Nat} (h : (emp hash || !canW over under lo hi) = false) (h2 : (fnd hash).2 = 2) : goF fnd hg lo hi (f + 1) hash over under par cnt = (2, 0, []) := by rw [goF, if_neg (by rw [h]; decide), if_pos h2]
theorem goF_corrupt {f : Nat} {hash over under par : ByteArray} {cnt : Nat} (h : (emp hash || !canW over under lo hi) = false) (h2 : (fnd hash).2 = 3) : goF fnd hg lo hi (f + 1) hash over under par cnt = (3, 0, []) := by rw [goF, if_neg (by rw [h]; decide), if_neg (by rw [h2]; decide), if_pos (by rw [h2]; decide)]
theorem goF_place {f : Nat} {hash over under par : ByteArray} {cnt : Nat} (h : (emp hash || !canW over under lo hi) = false) (h2 : (fnd hash).2 = 0) (h3 : (insW over under (fnd hash).1.1 && parW hg par (fnd hash).1.1) = false) : goF fnd hg lo hi (f + 1) hash over under par cnt = (3, 0, []) := by
  rw [goF, if_neg (by rw [h]; decide), if_neg (by rw [h2]; decide), if_neg (by rw [h2]; decide), if_pos h3]
theorem goF_many {f : Nat} {hash over under par : ByteArray} {cnt : Nat} (h : (emp hash || !canW over under lo hi) = false) (h2 : (fnd hash).2 = 0) (h3 : (insW over under (fnd hash).1.1 && parW hg par (fnd hash).1.1) = true) (h4 : 500 < cnt + 1) : goF fnd hg lo hi (f + 1) hash over under par cnt = (6, 0, []) := by
  rw [goF, if_neg (by rw [h]; decide), if_neg (by rw [h2]; decide), if_neg (by rw [h2]; decide), if_neg (by rw [h3]; decide), if_pos h4]
/-- The node is gone into: what its two subtrees say. -/
theorem goF_node {f : Nat} {hash over under par : ByteArray} {cnt : Nat} {k v l r : ByteArray} (h : (emp hash || !canW over under lo hi) = false) (h2 : fnd hash = ((k, v, l, r), 0)) (h3 : (insW over under k && parW hg par k) = true) (h4 : cnt + 1 ≤ 500)
    {L R : Int × Nat × List PairT} (hL : goF fnd hg lo hi f l over k k (cnt + 1) = L) (hR : goF fnd hg lo hi f r k under k L.2.1 = R) :
    goF fnd hg lo hi (f + 1) hash over under par cnt = if L.1 ≠ 0 then (L.1, 0, []) else if R.1 ≠ 0 then (R.1, 0, []) else (0, R.2.1, L.2.2 ++ (if hasW lo hi k = true then [(k, v)] else []) ++ R.2.2) := by
  rw [goF, h2]
  simp only [hL, hR]
  rw [if_neg (by rw [h]; decide), if_neg (by decide), if_neg (by simp), if_neg (by rw [h3]; decide), if_neg (by omega)]
theorem goF_cnt : ∀ (f : Nat) (hash over under par : ByteArray) (cnt : Nat), cnt ≤ 500 → (goF fnd hg lo hi f hash over under par cnt).1 = 0 → cnt ≤ (goF fnd hg lo hi f hash over under par cnt).2.1 ∧ (goF fnd hg lo hi f hash over under par cnt).2.1 ≤ 500
  | 0, _, _, _, _, _, _, h => by rw [goF] at h; exact absurd h (by decide)
  | f + 1, hash, over, under, par, cnt, hc, h => by
    cases h1 : (emp hash || !canW over under lo hi) with
    | true => rw [goF_skip h1] at h ⊢; exact ⟨Nat.le_refl _, hc⟩
    | false =>
      by_cases h2 : (fnd hash).2 = 2
      · rw [goF_missing h1 h2] at h; exact absurd h (by decide)
      · by_cases h20 : (fnd hash).2 = 0
        · cases h3 : (insW over under (fnd hash).1.1 && parW hg par (fnd hash).1.1) with
          | false => rw [goF_place h1 h20 h3] at h; exact absurd h (by decide)
          | true =>
            by_cases h4 : 500 < cnt + 1
            · rw [goF_many h1 h20 h3 h4] at h; exact absurd h (by decide)
            · have e : fnd hash = (((fnd hash).1.1, (fnd hash).1.2.1, (fnd hash).1.2.2.1, (fnd hash).1.2.2.2), 0) := by rw [← h20]
              rw [goF_node h1 e h3 (by omega) rfl rfl] at h ⊢
              have il := goF_cnt f (fnd hash).1.2.2.1 over (fnd hash).1.1 (fnd hash).1.1 (cnt + 1) (by omega)
              split at h
              · rename_i q; exact absurd h q
              · rename_i q
                have il := il (by simpa using q)
                split at h
                · rename_i q2; exact absurd h q2
                · rename_i q2
                  have ir := goF_cnt f (fnd hash).1.2.2.2 (fnd hash).1.1 under (fnd hash).1.1 _ il.2 (by simpa using q2)
                  rw [if_neg q, if_neg q2]
                  exact ⟨Nat.le_trans (Nat.le_trans (Nat.le_succ _) il.1) ir.1, ir.2⟩
        · rw [goF, if_neg (by rw [h1]; decide), if_neg h2, if_pos h20] at h; exact absurd h (by decide)
end
end Go.Proofs.YtibjhkpgaaapaaaGreatDoor
namespace Go.Proofs.YtibjhkpgaaapaaaGreatDoor
open Go.RowKit Go.Proofs.Sha

/-- A branch that has not been filled. -/
def BR (b : Nat) (hash over under : ByteArray) (par : Option Addr) (w : World) : Prop := w.heap[b]? = some (.cells #[.string hash, .string over, .string under, .pointer par, .string ⟨#[]⟩, .string ⟨#[]⟩, .string ⟨#[]⟩, .string ⟨#[]⟩, .pointer none, .pointer none] 225)
/-- A branch that has been filled. -/
def BF (b : Nat) (hash over under : ByteArray) (par : Option Addr) (k v l r : ByteArray) (pl pr : Option Addr) (w : World) : Prop := w.heap[b]? = some (.cells #[.string hash, .string over, .string under, .pointer par, .string k, .string v, .string l, .string r, .pointer pl, .pointer pr] 225)
theorem emp_iff (s : ByteArray) : s.toList.isEmpty = emp s := by
  rw [ByteArray.toList_eq]
  unfold emp
  by_cases h : s.size = 0
  · rw [decide_eq_true h]
    have : s.data.toList.length = 0 := h
    rw [List.length_eq_zero_iff.1 this]; rfl
  · rw [decide_eq_false h]
    have : s.data.toList.length ≠ 0 := h
    cases hs : s.data.toList with
    | nil => rw [hs] at this; exact absurd rfl this
    | cons a b => rfl
theorem branchAt_none (over under : ByteArray) (par : Option Addr) (w : World) : Calls Tryz.prog 148 #[.string ⟨#[]⟩, .agg #[.string over, .string under, .pointer par]] w fun e w' => e = .returned (.pointer none) ∧ Below w.heap.size w w' := by
  have hb : Below w.heap.size w (w.alloc (.cells #[.string over, .string under, .pointer par] 144)) := (Below.refl _ _).alloc (Nat.le_refl _) _
  go_enter Tryz.func148, Tryz.ntmps148
  go_wp2_with fail
  go_ret
  exact ⟨rfl, hb⟩
theorem branchAt_some (hash over under : ByteArray) (par : Option Addr) (w : World) (hn : emp hash = false) : Calls Tryz.prog 148 #[.string hash, .agg #[.string over, .string under, .pointer par]] w fun e w' => (∃ b, e = .returned (.pointer (some ⟨b, 0, none⟩)) ∧ w.heap.size ≤ b ∧ BR b hash over under par w') ∧ Below w.heap.size w w' := by
  have hz : hash.toList.isEmpty = false := (emp_iff hash).trans hn
  have hb : Below w.heap.size w ((w.alloc (.cells #[.string over, .string under, .pointer par] 144)).alloc (.cells #[.string hash, .string over, .string under, .pointer par, .string ⟨#[]⟩, .string ⟨#[]⟩, .string ⟨#[]⟩, .string ⟨#[]⟩, .pointer none, .pointer none] 225)) := ((Below.refl _ _).alloc (Nat.le_refl _) _).alloc (by simp) _
  have nA := heap_alloc_new (w.alloc (.cells #[.string over, .string under, .pointer par] 144)) (.cells #[.string hash, .string over, .string under, .pointer par, .string ⟨#[]⟩, .string ⟨#[]⟩, .string ⟨#[]⟩, .string ⟨#[]⟩, .pointer none, .pointer none] 225)
  rw [World.size_alloc] at nA
  go_enter Tryz.func148, Tryz.ntmps148
  go_wp2_with fail
  go_ret
  exact ⟨⟨w.heap.size + 1, rfl, by omega, nA⟩, hb⟩
end Go.Proofs.YtibjhkpgaaapaaaGreatDoor
