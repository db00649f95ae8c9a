import Derived.Test.YtibjhkpgaaapaaaGreatDoorZxaa
import Derived.Test.YtibjhkpgaaapaaaGreatDoorZxai
import Derived.Test.YtibjhkpgaaapaaaGreatDoorZxan
import Derived.Deep.QuietTactic
import Derived.BigQuiet
namespace Go.Proofs.YtibjhkpgaaapaaaGreatDoor
open Go.RowKit Go.Proofs.Sha

/-- A node of a tree in its block. -/
def TBk (b : Nat) (k v : ByteArray) (l r : Option Addr) (enc h : ByteArray) (w : World) : Prop := w.heap[b]? = some (.cells (treeL (sha k.data.toList) k v l r enc h).toArray 251)
/-- What rankOf's contract says, by itself. -/
def RankSaid (K : World → Prop) : Prop := ∀ (s : ByteArray) (w : World), s.size ≤ 1048576 → K w → Calls Tryz.prog 166 #[.string s] w fun e w' => e = .returned (.agg (rankL (sha s.data.toList) s).toArray) ∧ Below w.heap.size w w'

set_option maxRecDepth 100000 in
set_option maxHeartbeats 1000000 in
theorem single_any {K : World → Prop} (HR : Hid (RankSaid K)) (keep : Hid (∀ w1 w2, K w1 → Below w1.heap.size w1 w2 → K w2)) (k v : ByteArray) (w : World) (hk : k.size ≤ 1048576) (hK : K w) :
    Calls Tryz.prog 133 #[.agg #[.string k, .string v]] w fun e w' => ∃ b, e = .returned (.pointer (some ⟨b, 0, none⟩)) ∧ w.heap.size ≤ b ∧ TBk b k v none none ⟨#[]⟩ ⟨#[]⟩ w' ∧ Below w.heap.size w w' := by
  have hbA : Below w.heap.size w (w.alloc (.cells #[.string k, .string v] 81)) := (Below.refl _ _).alloc (Nat.le_refl _) _
  have nA := heap_alloc_new w (.cells #[.string k, .string v] 81)
  have HC : Hid (∀ w', Below w.heap.size w w' → Calls Tryz.prog 166 #[.string k] w' fun e w'' => e = .returned (.agg (rankL (sha k.data.toList) k).toArray) ∧ Below w'.heap.size w' w'') := fun w' hb => HR.out k w' hk (keep.out _ _ hK hb)
  unfold TBk
  obtain ⟨x0, x1, x2, x3, x4, x5, x6, x7, x8, x9, x10, x11, x12, x13, x14, x15, x16, x17, x18, x19, x20, x21, x22, x23, x24, x25, x26, x27, x28, x29, x30, x31, hX⟩ := list32 (sha k.data.toList) (sha_len _)
  rw [hX] at HC
  rw [hX]
  clear hX
  unfold treeL
  unfold rankL at HC ⊢
  simp only [List.map_cons, List.map_nil, List.cons_append, List.nil_append] at HC ⊢
  unfold B at HC ⊢
  obtain ⟨ga, hga⟩ : ∃ ga, w.heap.size = ga := ⟨_, rfl⟩
  rw [hga] at nA
  go_enter Tryz.func133, Tryz.ntmps133
  go_upto_region 1 with fail
  try rw [hga]
  generalize w.alloc (.cells #[.string k, .string v] 81) = wa at hbA nA ⊢
  have HS : Hid (∀ W : World, Below wa.heap.size wa W → W.cell? ⟨ga, 0, none⟩ = some (.string k) ∧ W.cell? ⟨ga, 1, none⟩ = some (.string v)) := fun W hW => by
    have e := (hW.block ga (Array.getElem?_eq_some_iff.1 nA).1).trans nA
    exact ⟨Lib.cell_of_heap e 0, Lib.cell_of_heap e 1⟩
  go_region_held3 (fun W => W.cell? ⟨ga, 0, none⟩ = some (.string k) ∧ W.cell? ⟨ga, 1, none⟩ = some (.string v)) (first | exact HS.out _ (Below.refl _ _) | exact HS.out _ (Below.refl _ _).drew | exact HS.out _ hb2 | exact HS.out _ (hb3 _)) (first | (go_at_call 166; refine (HC.out _ hbA.drew).mono ?_; rintro e w2 ⟨rfl, hb2'⟩; have hb2 : Below wa.heap.size wa w2 := (Below.refl wa.heap.size wa).drew.trans hb2'; have hb3 : ∀ o : Obj, Below wa.heap.size wa (w2.alloc o) := fun o => hb2.alloc hb2.size o; clear hb2'))
  have nT := heap_alloc_new w2 (.cells #[.string k, .string v, .int .u8 (x0.toNat : Int), .int .u8 (x1.toNat : Int), .int .u8 (x2.toNat : Int), .int .u8 (x3.toNat : Int), .int .u8 (x4.toNat : Int), .int .u8 (x5.toNat : Int), .int .u8 (x6.toNat : Int), .int .u8 (x7.toNat : Int), .int .u8 (x8.toNat : Int), .int .u8 (x9.toNat : Int), .int .u8 (x10.toNat : Int), .int .u8 (x11.toNat : Int), .int .u8 (x12.toNat : Int), .int .u8 (x13.toNat : Int), .int .u8 (x14.toNat : Int), .int .u8 (x15.toNat : Int), .int .u8 (x16.toNat : Int), .int .u8 (x17.toNat : Int), .int .u8 (x18.toNat : Int), .int .u8 (x19.toNat : Int), .int .u8 (x20.toNat : Int), .int .u8 (x21.toNat : Int), .int .u8 (x22.toNat : Int), .int .u8 (x23.toNat : Int), .int .u8 (x24.toNat : Int), .int .u8 (x25.toNat : Int), .int .u8 (x26.toNat : Int), .int .u8 (x27.toNat : Int), .int .u8 (x28.toNat : Int), .int .u8 (x29.toNat : Int), .int .u8 (x30.toNat : Int), .int .u8 (x31.toNat : Int), .string k, .pointer none, .pointer none, .string ⟨#[]⟩, .string ⟨#[]⟩] 251)
  have hbT : Below w.heap.size w w2 := hbA.trans (hb2.mono hbA.size)
  have hle := hbT.size
  go_wp2_with fail
  go_ret
  rw [hga] at hbT hle
  exact ⟨w2.heap.size, rfl, hle, nT, hbT.alloc hle _⟩
end Go.Proofs.YtibjhkpgaaapaaaGreatDoor
namespace Go.Proofs.YtibjhkpgaaapaaaGreatDoor
open Go.RowKit Go.Proofs.Sha

theorem less_tri : ∀ a b : List UInt8, Op.bytesLess a b = !(Op.bytesLess b a || b == a)
  | [], [] => rfl
  | [], b :: y => by simp [Op.bytesLess]
  | a :: x, [] => by simp [Op.bytesLess]
  | a :: x, b :: y => by
    rw [Op.bytesLess, Op.bytesLess, less_tri x y]
    by_cases h : a = b
    · subst h
      simp
    · by_cases hl : a < b
      · have h2 : ¬ b < a := by rw [UInt8.lt_iff_toNat_lt] at hl ⊢; omega
        have h3 : ¬ b = a := fun e => h e.symm
        simp [hl, h2, h3]
      · have h2 : b < a := by
          rw [UInt8.lt_iff_toNat_lt] at hl ⊢
          have : a.toNat ≠ b.toNat := fun e => h (UInt8.toNat_inj.1 e)
          omega
        have h3 : ¬ b = a := fun e => h e.symm
        simp [h, hl, h2]
abbrev PairT := ByteArray × ByteArray
def noPair : PairT := (⟨#[]⟩, ⟨#[]⟩)
/-- A slice of pairs. -/
structure PArg (a : Option Addr) (ps : List PairT) (w : World) : Prop where
  le : ps.length ≤ 1048576
  sz : ∀ j, (ps.getD j noPair).1.size ≤ 1048576 ∧ (ps.getD j noPair).2.size ≤ 1048576
  at_ : 0 < ps.length → ∃ b off : Nat, a = some ⟨b, off, none⟩ ∧ b < w.heap.size ∧ ∀ j, j < ps.length → w.cell? ⟨b, off + j * 2, none⟩ = some (.string (ps.getD j noPair).1) ∧ w.cell? ⟨b, off + j * 2 + 1, none⟩ = some (.string (ps.getD j noPair).2)
theorem PArg.below {a : Option Addr} {ps : List PairT} {w w' : World} (h : PArg a ps w) (hb : Below w.heap.size w w') : PArg a ps w' := by
  refine ⟨h.le, h.sz, fun hn => ?_⟩
  obtain ⟨b, off, ha, hlt, hc⟩ := h.at_ hn
  exact ⟨b, off, ha, Nat.lt_of_lt_of_le hlt hb.size, fun j hj => ⟨(hb.cell (p := ⟨b, off + j * 2, none⟩) hlt).trans (hc j hj).1, (hb.cell (p := ⟨b, off + j * 2 + 1, none⟩) hlt).trans (hc j hj).2⟩⟩
def okKey (k : ByteArray) : Bool := decide (1 ≤ k.size ∧ k.size ≤ 256)
def okVal (v : ByteArray) : Bool := decide (v.size ≤ 2000)
/-- The key before. -/
def lastK (ps : List PairT) : Nat → ByteArray
  | 0 => ⟨#[]⟩
  | k + 1 => (ps.getD k noPair).1
def goodAt (ps : List PairT) (k : Nat) : Bool := okKey (ps.getD k noPair).1 && (okVal (ps.getD k noPair).2 && Op.bytesLess (lastK ps k).toList (ps.getD k noPair).1.toList)
def mapTo (ps : List PairT) : Nat → Bool
  | 0 => true
  | k + 1 => mapTo ps k && goodAt ps k
theorem mapTo_false (ps : List PairT) (k n : Nat) (h : k < n) (hg : goodAt ps k = false) : mapTo ps n = false := by
  induction n with
  | zero => omega
  | succ n ih =>
    rw [mapTo]
    by_cases e : k = n
    · subst e; rw [hg, Bool.and_false]
    · rw [ih (by omega), Bool.false_and]
def isMapT (ps : List PairT) : Bool := decide (ps.length ≤ 500) && mapTo ps ps.length
theorem vkey_any (k : ByteArray) (w : World) (hk : k.size ≤ 1048576) : Calls Tryz.prog 127 #[.string k] w fun e w' => e = .returned (.bool (okKey k)) ∧ w = w' := by
  by_cases c1 : 1 ≤ k.size
  · have hr : okKey k = decide ((k.size : Int) ≤ 256) := by
      unfold okKey
      by_cases c2 : k.size ≤ 256
      · rw [decide_eq_true (by omega), decide_eq_true (by omega)]
      · rw [decide_eq_false (by omega), decide_eq_false (by omega)]
    rw [hr]
    have z1 : decide ((1 : Int) ≤ (k.size : Int)) = true := by rw [decide_eq_true_eq]; omega
    have z2 : decide (1 ≤ k.size) = true := decide_eq_true c1
    have z3 : 0 < k.size := by omega
    clear hr
    go_enter Tryz.func127, Tryz.ntmps127
    go_wp2_with fail
    go_ret
    exact ⟨rfl, rfl⟩
  · have hr : okKey k = false := by unfold okKey; rw [decide_eq_false (by omega)]
    rw [hr]
    have z1 : decide ((1 : Int) ≤ (k.size : Int)) = false := by rw [decide_eq_false_iff_not]; omega
    have z0 : k.size = 0 := by omega
    clear hr
    go_enter Tryz.func127, Tryz.ntmps127
    go_wp2_with fail
    go_ret
    exact ⟨rfl, rfl⟩
theorem vval_any (v : ByteArray) (w : World) (hv : v.size ≤ 1048576) : Calls Tryz.prog 128 #[.string v] w fun e w' => e = .returned (.bool (okVal v)) ∧ w = w' := by
  have hr : okVal v = decide ((v.size : Int) ≤ 2000) := by
    unfold okVal
    by_cases c2 : v.size ≤ 2000
    · rw [decide_eq_true (by omega), decide_eq_true (by omega)]
    · rw [decide_eq_false (by omega), decide_eq_false (by omega)]
  rw [hr]
  go_enter Tryz.func128, Tryz.ntmps128
  go_wp2_with fail
  go_ret
  exact ⟨rfl, rfl⟩

set_option maxRecDepth 100000 in
set_option maxHeartbeats 1000000 in
theorem isMap_any (a : Option Addr) (ps : List PairT) (c : Nat) (w : World) (h : PArg a ps w) :
    Calls Tryz.prog 70 #[.slice a ps.length c] w fun e w' => e = .returned (.bool (isMapT ps)) ∧ Below w.heap.size w w' := by
  have hn := h.le
  obtain ⟨n, hnn⟩ : ∃ n, ps.length = n := ⟨_, rfl⟩
  obtain ⟨B, hB⟩ : ∃ B, isMapT ps = B := ⟨_, rfl⟩
  rw [hB, hnn]
  rw [hnn] at hn
  by_cases hx : 500 < n
  · have hf : Hid (B = false) := by show B = false; rw [← hB]; unfold isMapT; rw [decide_eq_false (by omega), Bool.false_and]
    have z1 : decide ((500 : Int) < (n : Int)) = true := by rw [decide_eq_true_eq]; omega
    have z2 : decide ((n : Int) > 500) = true := by rw [decide_eq_true_eq]; omega
    clear hB
    go_enter Tryz.func70, Tryz.ntmps70
    go_wp2_with fail
    go_ret
    exact ⟨by rw [hf.out]; rfl, Below.refl _ _⟩
  · have hBm : Hid (B = mapTo ps n) := by show B = _; rw [← hB]; unfold isMapT; rw [decide_eq_true (by omega), Bool.true_and, hnn]
    have z1 : decide ((500 : Int) < (n : Int)) = false := by rw [decide_eq_false_iff_not]; omega
    have z2 : decide ((n : Int) > 500) = false := by rw [decide_eq_false_iff_not]; omega
    have hnl : Hid (ps.length = n) := hnn
    clear hB hnn
    go_enter Tryz.func70, Tryz.ntmps70
    go_wp2_with fail
    go_loopw [3, 11] (fun t3 t11 wr => ∃ k : Nat, k ≤ n ∧ t3 = .string (lastK ps k) ∧ t11 = .int .i64 (k : Int) ∧ Hid (mapTo ps k = true) ∧ Below w.heap.size w wr) (fun _ t11 _ => n - (intOf t11).toNat)
    case atStart => exact ⟨0, Nat.zero_le _, rfl, rfl, rfl, Below.refl _ _⟩
    case round =>
      obtain ⟨k, hk, rfl, rfl, hm, hbw⟩ := hrel
      by_cases hlt : k < n
      · have z3 : decide ((k : Int) < (n : Int)) = true := by simp; omega
        have hx0 : (0 : Int) ≤ (k : Int) := Int.natCast_nonneg _
        have hx1 : (k : Int) < (n : Int) := by omega
        obtain ⟨b, off, rfl, hbl, hc⟩ := (h.below hbw).at_ (by rw [hnl.out]; omega)
        obtain ⟨hc1, hc2⟩ := hc k (by rw [hnl.out]; exact hlt)
        have hgd : Hid (goodAt ps k = (okKey (ps.getD k noPair).1 && (okVal (ps.getD k noPair).2 && Op.bytesLess (lastK ps k).toList (ps.getD k noPair).1.toList))) := rfl
        have hlk : Hid (lastK ps (k + 1) = (ps.getD k noPair).1) := rfl
        obtain ⟨hs1, hs2⟩ := h.sz k
        generalize (ps.getD k noPair).1 = pk at hc1 hgd hlk hs1
        generalize (ps.getD k noPair).2 = pv at hc2 hgd hs2
        generalize lastK ps k = lk at hgd ⊢
        have H1 : Hid (∀ w', Calls Tryz.prog 127 #[.string pk] w' fun e w'' => e = .returned (.bool (okKey pk)) ∧ w' = w'') := fun w' => vkey_any pk w' hs1
        have H2 : Hid (∀ w', Calls Tryz.prog 128 #[.string pv] w' fun e w'' => e = .returned (.bool (okVal pv)) ∧ w' = w'') := fun w' => vval_any pv w' hs2
        clear hc
        cases hk1 : okKey pk with
        | false =>
          rw [hk1] at H1
          have hbf : Hid (B = false) := by
            show B = false
            rw [hBm.out]
            exact mapTo_false ps k n hlt (by rw [hgd.out, hk1, Bool.false_and])
          clear hk1 hgd hm hBm
          have hbA : Below w.heap.size w (wr.alloc (.cells #[.string pk, .string pv] 81)) := hbw.alloc hbw.size _
          go_wp2_with (first | (go_at_call 127; refine (H1.out _).mono ?_; rintro e w1 ⟨rfl, rfl⟩))
          go_ret
          exact ⟨by rw [hbf.out]; rfl, hbA⟩
        | true =>
          rw [hk1] at H1
          cases hv1 : okVal pv with
          | false =>
            rw [hv1] at H2
            have hbf : Hid (B = false) := by
              show B = false
              rw [hBm.out]
              exact mapTo_false ps k n hlt (by rw [hgd.out, hk1, hv1]; rfl)
            clear hk1 hv1 hgd hm hBm
            have hbA : Below w.heap.size w (wr.alloc (.cells #[.string pk, .string pv] 81)) := hbw.alloc hbw.size _
            go_wp2_with (first | (go_at_call 127; refine (H1.out _).mono ?_; rintro e w1 ⟨rfl, rfl⟩) | (go_at_call 128; refine (H2.out _).mono ?_; rintro e w1 ⟨rfl, rfl⟩))
            go_ret
            exact ⟨by rw [hbf.out]; rfl, hbA⟩
          | true =>
            rw [hv1] at H2
            have hg2 : Hid (goodAt ps k = Op.bytesLess lk.toList pk.toList) := by show _ = _; rw [hgd.out, hk1, hv1]; rfl
            have hbA : Below w.heap.size w (wr.alloc (.cells #[.string pk, .string pv] 81)) := hbw.alloc hbw.size _
            clear hk1 hv1 hgd
            cases hls : Op.bytesLess lk.toList pk.toList with
            | false =>
              have hbf : Hid (B = false) := by
                show B = false
                rw [hBm.out]
                exact mapTo_false ps k n hlt (by rw [hg2.out, hls])
              have hor := less_tri lk.toList pk.toList
              rw [hls] at hor
              have hor2 : (Op.bytesLess pk.toList lk.toList || (pk.toList == lk.toList)) = true := by
                cases hq : (Op.bytesLess pk.toList lk.toList || (pk.toList == lk.toList)) with
                | true => rfl
                | false => rw [hq] at hor; cases hor
              clear hg2 hm hBm hor hls
              cases hq1 : Op.bytesLess pk.toList lk.toList with
              | true =>
                clear hor2
                go_wp2_with (first | (go_at_call 127; refine (H1.out _).mono ?_; rintro e w1 ⟨rfl, rfl⟩) | (go_at_call 128; refine (H2.out _).mono ?_; rintro e w1 ⟨rfl, rfl⟩))
                go_ret
                exact ⟨by rw [hbf.out]; rfl, hbA⟩
              | false =>
                rw [hq1, Bool.false_or] at hor2
                go_wp2_with (first | (go_at_call 127; refine (H1.out _).mono ?_; rintro e w1 ⟨rfl, rfl⟩) | (go_at_call 128; refine (H2.out _).mono ?_; rintro e w1 ⟨rfl, rfl⟩))
                go_ret
                exact ⟨by rw [hbf.out]; rfl, hbA⟩
            | true =>
              have hm' : Hid (mapTo ps (k + 1) = true) := by show _ = _; rw [mapTo, hm.out, hg2.out, hls]; rfl
              have hor := less_tri lk.toList pk.toList
              rw [hls] at hor
              have hq1 : Op.bytesLess pk.toList lk.toList = false := by
                cases hq : Op.bytesLess pk.toList lk.toList with
                | false => rfl
                | true => rw [hq, Bool.true_or] at hor; cases hor
              have hq2 : (pk.toList == lk.toList) = false := by
                cases hq : (pk.toList == lk.toList) with
                | false => rfl
                | true => rw [hq, Bool.or_true] at hor; cases hor
              clear hg2 hm hor hls
              go_wp2_with (first | (go_at_call 127; refine (H1.out _).mono ?_; rintro e w1 ⟨rfl, rfl⟩) | (go_at_call 128; refine (H2.out _).mono ?_; rintro e w1 ⟨rfl, rfl⟩))
              go_roundw
              case rel => exact ⟨k + 1, hlt, by rw [hlk.out], by go_num, hm', hbA⟩
              case measure => simp [intOf]; omega
      · obtain rfl : k = n := by omega
        have z3 : decide ((k : Int) < (k : Int)) = false := by simp
        have hbt : Hid (B = true) := by show B = true; rw [hBm.out, hm.out]
        clear hBm hm
        go_wp2_with fail
        go_ret
        exact ⟨by rw [hbt.out]; rfl, hbw⟩
end Go.Proofs.YtibjhkpgaaapaaaGreatDoor
namespace Go.Proofs.YtibjhkpgaaapaaaGreatDoor
open Go.RowKit Go.Proofs.Sha

theorem pairOk_any (k v : ByteArray) (w : World) (hk : k.size ≤ 1048576) (hv : v.size ≤ 1048576) : Calls Tryz.prog 125 #[.string k, .string v] w fun e w' => e = .returned (.bool (okKey k && okVal v)) ∧ w = w' := by
  have hr : okVal v = decide ((v.size : Int) ≤ 2000) := by
    unfold okVal
    by_cases c2 : v.size ≤ 2000
    · rw [decide_eq_true (by omega), decide_eq_true (by omega)]
    · rw [decide_eq_false (by omega), decide_eq_false (by omega)]
  by_cases c1 : 1 ≤ k.size
  · by_cases c2 : k.size ≤ 256
    · have hq : okKey k = true := by unfold okKey; rw [decide_eq_true (by omega)]
      rw [hq, hr, Bool.true_and]
      have z1 : decide ((k.size : Int) ≥ 1) = true := by rw [decide_eq_true_eq]; omega
      have z2 : decide ((1 : Int) ≤ (k.size : Int)) = true := by rw [decide_eq_true_eq]; omega
      have z3 : decide ((k.size : Int) ≤ 256) = true := by rw [decide_eq_true_eq]; omega
      have z4 : 0 < k.size := by omega
      have z5 : decide (1 ≤ k.size) = true := decide_eq_true c1
      clear hr hq
      go_enter Tryz.func125, Tryz.ntmps125
      go_wp2_with fail
      go_ret
      exact ⟨rfl, rfl⟩
    · have hq : okKey k = false := by unfold okKey; rw [decide_eq_false (by omega)]
      rw [hq, Bool.false_and]
      have z1 : decide ((k.size : Int) ≥ 1) = true := by rw [decide_eq_true_eq]; omega
      have z2 : decide ((1 : Int) ≤ (k.size : Int)) = true := by rw [decide_eq_true_eq]; omega
      have z3 : decide ((k.size : Int) ≤ 256) = false := by rw [decide_eq_false_iff_not]; omega
      have z4 : 0 < k.size := by omega
      have z5 : decide (1 ≤ k.size) = true := decide_eq_true c1
      clear hr hq
      go_enter Tryz.func125, Tryz.ntmps125
      go_wp2_with fail
      go_ret
      exact ⟨rfl, rfl⟩
  · have hq : okKey k = false := by unfold okKey; rw [decide_eq_false (by omega)]
    rw [hq, Bool.false_and]
    have z1 : decide ((k.size : Int) ≥ 1) = false := by rw [decide_eq_false_iff_not]; omega
    have z2 : decide ((1 : Int) ≤ (k.size : Int)) = false := by rw [decide_eq_false_iff_not]; omega
    have z0 : k.size = 0 := by omega
    clear hr hq
    go_enter Tryz.func125, Tryz.ntmps125
    go_wp2_with fail
    go_ret
    exact ⟨rfl, rfl⟩
end Go.Proofs.YtibjhkpgaaapaaaGreatDoor
namespace Go.Proofs.YtibjhkpgaaapaaaGreatDoor
open Go.RowKit Go.Proofs.Sha

theorem drew1 {w wr : World} (h : ∃ m, wr = w.drewN m) : ∃ m, wr.drew = w.drewN m := by
  obtain ⟨m, rfl⟩ := h
  exact ⟨m + 1, by rw [← World.drewN_drewN]; rfl⟩
set_option maxRecDepth 100000 in
set_option maxHeartbeats 400000 in
theorem less_q (p q : ByteArray) (w : World) (hp : p.size ≤ 1048576) (hq : q.size ≤ 1048576) :
    Calls Tryz.prog 85 #[.string p, .string q] w fun e w' => e = .returned (.bool (Op.bytesLess p.data.toList q.data.toList)) ∧ (∃ m, w' = w.drewN m) := by
  have hpl : p.data.toList.length = p.size := rfl
  have hql : q.data.toList.length = q.size := rfl
  go_enter Tryz.func85, Tryz.ntmps85
  go_wp2_with fail
  go_loopw [5] (fun t wr => ∃ k : Nat, k ≤ p.size ∧ k ≤ q.size ∧ t = .int .i64 (k : Int) ∧ Hid (Op.bytesLess p.data.toList q.data.toList = Op.bytesLess (p.data.toList.drop k) (q.data.toList.drop k)) ∧ ∃ m, wr = w.drewN m) (fun t _ => p.size - (intOf t).toNat)
  case atStart => exact ⟨0, by omega, by omega, rfl, rfl, 0, rfl⟩
  case round =>
    obtain ⟨k, hk1, hk2, rfl, HL, hb⟩ := hrel
    by_cases h1 : k < p.size
    · by_cases h2 : k < q.size
      · have z1 : (0 : Int) ≤ (k : Int) := by omega
        have z2 : (k : Int) < (p.size : Int) := by omega
        have z3 : (k : Int) < (q.size : Int) := by omega
        go_wp2_with fail
        go_region
        rw [bget p k h1, bget q k h2]
        have HE := less_eq p.data.toList q.data.toList k h1 h2
        have HN := less_ne p.data.toList q.data.toList k h1 h2
        obtain ⟨x, hx⟩ : ∃ x, p.data.toList.getD k 0 = x := ⟨_, rfl⟩
        obtain ⟨y, hy⟩ : ∃ y, q.data.toList.getD k 0 = y := ⟨_, rfl⟩
        rw [hx, hy] at HE HN
        rw [hx, hy]
        have HXY : Hid (p.data.toList.getD k 0 = x ∧ q.data.toList.getD k 0 = y) := ⟨hx, hy⟩
        clear hx hy
        by_cases hxy : x = y
        · have c0 : ((x.toNat : Int) != (y.toNat : Int)) = false := by rw [hxy]; simp
          have HE' : Hid (Op.bytesLess p.data.toList q.data.toList = Op.bytesLess (p.data.toList.drop (k + 1)) (q.data.toList.drop (k + 1))) := HL.out.trans (HE hxy)
          clear HE HN hxy
          go_wp2_with fail
          go_roundw
          case rel => exact ⟨k + 1, by omega, by omega, by go_num, HE', drew1 hb⟩
          case measure => simp [intOf]; omega
        · have c0 : ((x.toNat : Int) != (y.toNat : Int)) = true := by
            rw [bne_iff_ne]; exact fun h => hxy (UInt8.toNat_inj.1 (by omega))
          have HN' : Hid (Op.bytesLess p.data.toList q.data.toList = decide (x.toNat < y.toNat)) := (HL.out.trans (HN hxy)).trans (by simp)
          clear HE HN hxy
          go_wp2_with fail
          go_region
          rw [bget p k h1, bget q k h2, HXY.out.1, HXY.out.2]
          go_wp2
          go_ret
          exact ⟨by rw [HN'.out]; rfl, drew1 (drew1 hb)⟩
      · have HN' : Hid (Op.bytesLess p.data.toList q.data.toList = decide (p.size < q.size)) := (HL.out.trans (less_end p.data.toList q.data.toList k (.inr (by omega)) (by omega) (by omega))).trans (by simp)
        go_wp2
        go_ret
        exact ⟨by rw [HN'.out]; rfl, hb⟩
    · have HN' : Hid (Op.bytesLess p.data.toList q.data.toList = decide (p.size < q.size)) := (HL.out.trans (less_end p.data.toList q.data.toList k (.inl (by omega)) (by omega) (by omega))).trans (by simp)
      go_wp2
      go_ret
      exact ⟨by rw [HN'.out]; rfl, hb⟩

theorem pairOk_q (k v : ByteArray) (w : World) (hk : k.size ≤ 1048576) (hv : v.size ≤ 1048576) : Calls Tryz.prog 125 #[.string k, .string v] w fun e w' => e = .returned (.bool (okKey k && okVal v)) ∧ w' = w :=
  (pairOk_any k v w hk hv).mono fun _ _ ⟨he, hw⟩ => ⟨he, hw.symm⟩
end Go.Proofs.YtibjhkpgaaapaaaGreatDoor
