import Derived.Test.YtibjhkpgaaapaaaGreatDoorZxao
import Derived.Test.YtibjhkpgaaapaaaGreatDoorZxai
import Derived.Test.YtibjhkpgaaapaaaGreatDoorZxae
import Derived.Test.YtibjhkpgaaapaaaGreatDoorZxaa
namespace Go.Proofs.YtibjhkpgaaapaaaGreatDoor
open Go.RowKit Go.Proofs.Sha

theorem below_draws {B : Nat} {a w : World} (n : Nat) (h : Below B a w) : Below B a (w.drewN n) := ⟨h.os, h.tape, h.output, h.size, h.block⟩

set_option maxRecDepth 100000 in
set_option maxHeartbeats 1000000 in
theorem mapOk_any (a : Option Addr) (ps : List PairT) (c : Nat) (w : World) (h : PArg a ps w) :
    Calls Tryz.prog 68 #[.slice a ps.length c] w fun e w' => e = .returned (.bool (isMapT ps)) ∧ Below w.heap.size w w' := by
  have hn := h.le
  obtain ⟨n, hnn⟩ : ∃ n, ps.length = n := ⟨_, rfl⟩
  obtain ⟨B, hB⟩ : ∃ B, isMapT ps = B := ⟨_, rfl⟩
  rw [hB, hnn]
  rw [hnn] at hn
  by_cases hx : 500 < n
  · have hf : Hid (B = false) := by show B = false; rw [← hB]; unfold isMapT; rw [decide_eq_false (by omega), Bool.false_and]
    have z1 : decide ((500 : Int) < (n : Int)) = true := by rw [decide_eq_true_eq]; omega
    have z2 : decide ((n : Int) > 500) = true := by rw [decide_eq_true_eq]; omega
    clear hB
    go_enter Tryz.func68, Tryz.ntmps68
    go_wp2_with fail
    go_ret
    exact ⟨by rw [hf.out]; rfl, Below.refl _ _⟩
  · have hBm : Hid (B = mapTo ps n) := by show B = _; rw [← hB]; unfold isMapT; rw [decide_eq_true (by omega), Bool.true_and, hnn]
    have z1 : decide ((500 : Int) < (n : Int)) = false := by rw [decide_eq_false_iff_not]; omega
    have z2 : decide ((n : Int) > 500) = false := by rw [decide_eq_false_iff_not]; omega
    have hnl : Hid (ps.length = n) := hnn
    clear hB hnn
    go_enter Tryz.func68, Tryz.ntmps68
    go_wp2_with fail
    go_loopw [3] (fun t3 wr => ∃ k : Nat, k ≤ n ∧ t3 = .int .i64 (k : Int) ∧ Hid (mapTo ps k = true) ∧ Below w.heap.size w wr) (fun t3 _ => n - (intOf t3).toNat)
    case atStart => exact ⟨0, Nat.zero_le _, rfl, rfl, Below.refl _ _⟩
    case round =>
      obtain ⟨k, hk, rfl, hm, hbw⟩ := hrel
      by_cases hlt : k < n
      · have z3 : decide ((k : Int) < (n : Int)) = true := by simp; omega
        have hx0 : (0 : Int) ≤ (k : Int) := Int.natCast_nonneg _
        have hx1 : (k : Int) < (n : Int) := by omega
        obtain ⟨b, off, rfl, hbl, hc⟩ := (h.below hbw).at_ (by rw [hnl.out]; omega)
        obtain ⟨hc1, hc2⟩ := hc k (by rw [hnl.out]; exact hlt)
        have hgd : Hid (goodAt ps k = (okKey (ps.getD k noPair).1 && (okVal (ps.getD k noPair).2 && Op.bytesLess (lastK ps k).toList (ps.getD k noPair).1.toList))) := rfl
        obtain ⟨hs1, hs2⟩ := h.sz k
        have hkn : ∀ pk : ByteArray, okKey pk = true → Op.bytesLess (⟨#[]⟩ : ByteArray).toList pk.toList = true := fun pk hok => by
          unfold okKey at hok
          rw [decide_eq_true_eq] at hok
          have : pk.toList ≠ [] := fun e => by
            have hl := congrArg List.length e
            rw [ByteArray.toList_eq] at hl
            have h0 : pk.data.toList.length = pk.size := rfl
            have h1 : pk.size = 0 := h0.symm.trans hl
            omega
          have e0 : (⟨#[]⟩ : ByteArray).toList = [] := by rw [ByteArray.toList_eq]
          rw [e0]
          cases hp : pk.toList with
          | nil => exact absurd hp this
          | cons x y => rfl
        generalize hpk : (ps.getD k noPair).1 = pk at hc1 hgd hs1
        generalize (ps.getD k noPair).2 = pv at hc2 hgd hs2
        have H1 : ∀ w', Calls Tryz.prog 125 #[.string pk, .string pv] w' fun e w'' => e = .returned (.bool (okKey pk && okVal pv)) ∧ w'' = w' := fun w' => pairOk_q pk pv w' hs1 hs2
        cases hk1 : (okKey pk && okVal pv) with
        | false =>
          rw [hk1] at H1
          have hbf : Hid (B = false) := by
            show B = false
            rw [hBm.out]
            exact mapTo_false ps k n hlt (by rw [hgd.out, ← Bool.and_assoc, hk1, Bool.false_and])
          replace H1 : Hid _ := H1
          clear hk1 hgd hm hBm hc hkn hpk
          go_upto_region 6 with fail
          go_quiet ((go_at_call 125; exact Calls.quiet_of_same (H1.out _)))
          go_wp2_with fail
          go_ret
          exact ⟨by rw [hbf.out]; rfl, below_draws nq hbw⟩
        | true =>
          rw [hk1] at H1
          have hok : okKey pk = true := by cases hq : okKey pk with
            | true => rfl
            | false => rw [hq, Bool.false_and] at hk1; cases hk1
          have hg2 : Hid (goodAt ps k = Op.bytesLess (lastK ps k).toList pk.toList) := by show _ = _; rw [hgd.out, ← Bool.and_assoc, hk1, Bool.true_and]
          replace H1 : Hid _ := H1
          by_cases hk0 : k = 0
          · have hm' : Hid (mapTo ps (k + 1) = true) := by
              show _ = _
              rw [mapTo, hm.out, hg2.out, Bool.true_and]
              subst hk0
              exact hkn pk hok
            have y0 : ¬ (0 < (k : Int)) := by omega
            have y1 : decide (0 < (k : Int)) = false := by rw [decide_eq_false_iff_not]; exact y0
            have y2 : ¬ (0 < k) := by omega
            have y3 : decide (0 < k) = false := by rw [decide_eq_false_iff_not]; exact y2
            clear hk1 hgd hm hBm hc hkn hpk hg2 hk0 hok
            go_upto_region 6 with fail
            go_quiet ((go_at_call 125; exact Calls.quiet_of_same (H1.out _)))
            go_wp2_with fail
            go_roundw
            case rel => exact ⟨k + 1, hlt, by go_num, hm', below_draws nq hbw⟩
            case measure => simp [intOf]; omega
          · have y0 : 0 < (k : Int) := by omega
            have y1 : decide (0 < (k : Int)) = true := by rw [decide_eq_true_eq]; exact y0
            have y2 : 0 < k := by omega
            have y3 : decide (0 < k) = true := by rw [decide_eq_true_eq]; exact y2
            obtain ⟨hc3, hc4⟩ := hc (k - 1) (by rw [hnl.out]; omega)
            obtain ⟨hs3, hs4⟩ := h.sz (k - 1)
            have hlk : lastK ps k = (ps.getD (k - 1) noPair).1 := by cases k with | zero => exact absurd rfl hk0 | succ k' => rfl
            rw [hlk] at hg2
            generalize (ps.getD (k - 1) noPair).1 = pl at hc3 hs3 hg2
            have H2 : ∀ w', Calls Tryz.prog 85 #[.string pl, .string pk] w' fun e w'' => e = .returned (.bool (Op.bytesLess pl.toList pk.toList)) ∧ ∃ m, w'' = w'.drewN m := fun w' => by
              rw [ByteArray.toList_eq, ByteArray.toList_eq]
              exact less_q pl pk w' hs3 hs1
            have x0 : (0 : Int) ≤ (k : Int) - 1 := by omega
            have x1 : (k : Int) - 1 < (n : Int) := by omega
            have x2 : ((k : Int) - 1).toNat = k - 1 := by omega
            have x3 : wrap64 ((k : Int) - 1) = (k : Int) - 1 := by unfold wrap64; omega
            cases hlt2 : Op.bytesLess pl.toList pk.toList with
            | false =>
              rw [hlt2] at H2 hg2
              have hbf : Hid (B = false) := by
                show B = false
                rw [hBm.out]
                exact mapTo_false ps k n hlt hg2.out
              replace H2 : Hid _ := H2
              clear hk1 hgd hm hBm hc hkn hpk hg2 hk0 hok hlt2 hlk hc4 hs4
              go_upto_region 6 with fail
              go_quiet (first | (go_at_call 125; exact Calls.quiet_of_same (H1.out _)) | (go_at_call 85; exact Calls.quiet_of (H2.out _)))
              go_wp2_with fail
              go_ret
              exact ⟨by rw [hbf.out]; rfl, below_draws nq hbw⟩
            | true =>
              rw [hlt2] at H2 hg2
              have hm' : Hid (mapTo ps (k + 1) = true) := by
                show _ = _
                rw [mapTo, hm.out, hg2.out]; rfl
              replace H2 : Hid _ := H2
              clear hk1 hgd hm hBm hc hkn hpk hg2 hk0 hok hlt2 hlk hc4 hs4
              go_upto_region 6 with fail
              go_quiet (first | (go_at_call 125; exact Calls.quiet_of_same (H1.out _)) | (go_at_call 85; exact Calls.quiet_of (H2.out _)))
              go_wp2_with fail
              go_roundw
              case rel => exact ⟨k + 1, hlt, by go_num, hm', below_draws nq hbw⟩
              case measure => simp [intOf]; omega
      · obtain rfl : k = n := by omega
        have z3 : decide ((k : Int) < (k : Int)) = false := by simp
        have hbt : Hid (B = true) := by show B = true; rw [hBm.out, hm.out]
        clear hBm hm
        go_wp2_with fail
        go_ret
        exact ⟨by rw [hbt.out]; rfl, hbw⟩
end Go.Proofs.YtibjhkpgaaapaaaGreatDoor
namespace Go.Proofs.YtibjhkpgaaapaaaGreatDoor
open Go.RowKit Go.Proofs.Sha

def keyAt (ps : List PairT) (k : Nat) : ByteArray := (ps.getD k noPair).1
def shaB (s : ByteArray) : ByteArray := ⟨(sha s.data.toList).toArray⟩
theorem shaB_size (s : ByteArray) : (shaB s).size = 32 := by
  show (sha s.data.toList).toArray.size = 32
  rw [List.size_toArray, sha_len]
/-- 'a' beats 'b'. -/
def beats (x y a b : ByteArray) : Bool := Op.bytesLess y.data.toList x.data.toList || ((x.toList == y.toList) && Op.bytesLess a.data.toList b.data.toList)
/-- The place of the highest of the first 'k + 1'. -/
def topTo (ps : List PairT) : Nat → Nat
  | 0 => 0
  | k + 1 => if beats (shaB (keyAt ps (k + 1))) (shaB (keyAt ps (topTo ps k))) (keyAt ps (k + 1)) (keyAt ps (topTo ps k)) = true then k + 1 else topTo ps k
theorem topTo_le (ps : List PairT) : ∀ k, topTo ps k ≤ k
  | 0 => Nat.le_refl _
  | k + 1 => by
    rw [topTo]
    split
    · exact Nat.le_refl _
    · exact Nat.le_succ_of_le (topTo_le ps k)

set_option maxRecDepth 100000 in
set_option maxHeartbeats 3000000 in
theorem top_any (a : Option Addr) (ps : List PairT) (c : Nat) (w : World) (h : PArg a ps w) (h0 : 0 < ps.length) :
    Calls Tryz.prog 126 #[.slice a ps.length c] w fun e w' => e = .returned (.int .i64 (topTo ps (ps.length - 1) : Int)) ∧ Below w.heap.size w w' := by
  have hn := h.le
  have HW : ∀ w', Below w.heap.size w w' → PArg a ps w' := fun w' hb => h.below hb
  obtain ⟨b, off, rfl, hbl, hc⟩ := h.at_ h0
  have HC : ∀ w', Below w.heap.size w w' → ∀ j, j < ps.length → w'.cell? ⟨b, off + j * 2, none⟩ = some (.string (keyAt ps j)) := fun w' hb j hj => (hb.cell (p := ⟨b, off + j * 2, none⟩) hbl).trans (hc j hj).1
  obtain ⟨n, hnn⟩ : ∃ n, ps.length = n := ⟨_, rfl⟩
  rw [hnn]
  rw [hnn] at hn h0
  have HS : ∀ j, (keyAt ps j).size ≤ 1048576 := fun j => (h.sz j).1
  replace HW : Hid _ := HW
  replace HS : Hid _ := HS
  rw [hnn] at HC
  replace HC : Hid _ := HC
  have hnl : Hid (ps.length = n) := hnn
  have hc0 : w.cell? ⟨b, off + 0 * 2, none⟩ = some (.string (keyAt ps 0)) := HC.out w (Below.refl _ _) 0 h0
  have hc0' : w.cell? ⟨b, off, none⟩ = some (.string (keyAt ps 0)) := hc0
  have y0 : (0 : Int) < (n : Int) := by omega
  have H0 := fun w' => spec_any (keyAt ps 0) w' (HS.out 0)
  have hX0 : Hid ((⟨(sha (keyAt ps 0).data.toList).toArray⟩ : ByteArray) = shaB (keyAt ps 0)) := rfl
  generalize (⟨(sha (keyAt ps 0).data.toList).toArray⟩ : ByteArray) = X0 at H0 hX0
  replace H0 : Hid _ := H0
  clear hnn hc h hc0
  generalize hk0 : keyAt ps 0 = k0 at hc0' H0
  have hk0' : Hid (keyAt ps 0 = k0) := hk0
  clear hk0
  go_enter Tryz.func126, Tryz.ntmps126
  go_wp2_with (go_at_call 64; refine (H0.out _).mono ?_)
  rintro _ w1 ⟨rfl, hb1⟩
  go_wp2_with fail
  go_loopw [3, 4, 5] (fun t3 t4 t5 wr => ∃ k T j : Nat, Hid (topTo ps k = T) ∧ Hid (j = k + 1) ∧ T ≤ k ∧ k < n ∧ t3 = .int .i64 (T : Int) ∧ t4 = .string (shaB (keyAt ps T)) ∧ t5 = .int .i64 (j : Int) ∧ Below w.heap.size w wr) (fun _ _ t5 _ => n - (intOf t5).toNat)
  case atStart => exact ⟨0, 0, 1, rfl, rfl, Nat.le_refl _, h0, rfl, by rw [← hX0.out], rfl, hb1⟩
  case round =>
    obtain ⟨k, T, j, hT, hj, hTk, hk, rfl, rfl, rfl, hbw⟩ := hrel
    by_cases hlt : j < n
    · have z3 : decide ((j : Int) < (n : Int)) = true := by simp; omega
      have z4 : decide (j < n) = true := by rw [decide_eq_true_eq]; exact hlt
      have z0 : (0 : Int) ≤ (j : Int) := Int.natCast_nonneg _
      have z1 : (j : Int) < (n : Int) := by omega
      have q0 : (0 : Int) ≤ (T : Int) := Int.natCast_nonneg _
      have q1 : (T : Int) < (n : Int) := by omega
      have hc1 := HC.out wr hbw j hlt
      have H1 := fun w' => spec_any (keyAt ps j) w' (HS.out j)
      have hX : Hid ((⟨(sha (keyAt ps j).data.toList).toArray⟩ : ByteArray) = shaB (keyAt ps j)) := rfl
      rw [hX.out] at H1
      have hxs := shaB_size (keyAt ps j)
      have hys := shaB_size (keyAt ps T)
      have hks := HS.out j
      have hls := HS.out T
      have hst : Hid (topTo ps j = if beats (shaB (keyAt ps j)) (shaB (keyAt ps T)) (keyAt ps j) (keyAt ps T) = true then j else T) := by
        show _ = _
        rw [hj.out, topTo, hT.out]
      have HD : ∀ w', Below w.heap.size w w' → w'.cell? ⟨b, off + j * 2, none⟩ = some (.string (keyAt ps j)) ∧ w'.cell? ⟨b, off + T * 2, none⟩ = some (.string (keyAt ps T)) := fun w' hb => ⟨HC.out w' hb j hlt, HC.out w' hb T (by omega)⟩
      obtain ⟨x, hx⟩ : ∃ x, shaB (keyAt ps j) = x := ⟨_, rfl⟩
      obtain ⟨y, hy⟩ : ∃ y, shaB (keyAt ps T) = y := ⟨_, rfl⟩
      obtain ⟨kj, hkj⟩ : ∃ x, keyAt ps j = x := ⟨_, rfl⟩
      obtain ⟨kt, hkt⟩ : ∃ x, keyAt ps T = x := ⟨_, rfl⟩
      rw [hx, hy, hkj, hkt] at hst
      rw [hy]
      rw [hx] at hxs
      rw [hy] at hys
      rw [hkj] at hks
      rw [hkt] at hls
      rw [hkj, hkt] at HD
      rw [hkj] at hc1
      rw [hx, hkj] at H1
      have hxx : Hid (shaB (keyAt ps j) = x) := hx
      have hyy : Hid (shaB (keyAt ps T) = y) := hy
      have hxl : x.size ≤ 1048576 := by omega
      have hyl : y.size ≤ 1048576 := by omega
      replace HD : Hid _ := HD
      replace H1 : Hid _ := H1
      have H2 := fun w' => less_q y x w' hyl hxl
      have H3 := fun w' => less_q kj kt w' hks hls
      clear hx hy hkj hkt hxs hys hxl hyl hX
      go_upto_region 7 with (go_at_call 64; refine (H1.out _).mono ?_)
      rintro _ w2 ⟨rfl, hb2⟩
      have hbw2 : Below w.heap.size w w2 := hbw.trans (hb2.mono hbw.size)
      obtain ⟨hd1, hd2⟩ := HD.out w2 hbw2
      clear hb2 hbw hc1
      have hTj : T ≤ j := by have := hj.out; omega
      go_upto_region 7 with fail
      cases v1 : Op.bytesLess y.data.toList x.data.toList with
      | true =>
        rw [v1] at H2
        have hbt : Hid (beats x y kj kt = true) := by show _ = _; unfold beats; rw [v1, Bool.true_or]
        replace H2 : Hid _ := H2
        replace H3 : Hid _ := H3
        clear v1
        go_quiet (first | (go_at_call_of 85 (Value.string y); exact Calls.quiet_of (H2.out _)) | (go_at_call_of 85 (Value.string kj); exact Calls.quiet_of (H3.out _)))
        go_wp2_with fail
        go_roundw
        case rel => exact ⟨j, j, j + 1, by show _ = _; rw [hst.out, hbt.out]; rfl, rfl, Nat.le_refl _, hlt, rfl, by rw [hxx.out], by go_num, below_draws nq hbw2⟩
        case measure => simp [intOf]; omega
      | false =>
        rw [v1] at H2
        replace H2 : Hid _ := H2
        cases v2 : (x.toList == y.toList) with
        | false =>
          have hbt : Hid (beats x y kj kt = false) := by show _ = _; unfold beats; rw [v1, v2]; rfl
          replace H3 : Hid _ := H3
          clear v1
          go_quiet (first | (go_at_call_of 85 (Value.string y); exact Calls.quiet_of (H2.out _)) | (go_at_call_of 85 (Value.string kj); exact Calls.quiet_of (H3.out _)))
          go_wp2_with fail
          go_roundw
          case rel => exact ⟨j, T, j + 1, by show _ = _; rw [hst.out, hbt.out]; rfl, rfl, hTj, hlt, rfl, by rw [hyy.out], by go_num, below_draws nq hbw2⟩
          case measure => simp [intOf]; omega
        | true =>
          have hb3 : Hid (beats x y kj kt = Op.bytesLess kj.data.toList kt.data.toList) := by show _ = _; unfold beats; rw [v1, v2]; rfl
          clear v1
          cases v3 : Op.bytesLess kj.data.toList kt.data.toList with
          | true =>
            rw [v3] at H3 hb3
            replace H3 : Hid _ := H3
            clear v3
            go_quiet (first | (go_at_call_of 85 (Value.string y); exact Calls.quiet_of (H2.out _)) | (go_at_call_of 85 (Value.string kj); exact Calls.quiet_of (H3.out _)))
            go_wp2_with fail
            go_roundw
            case rel => exact ⟨j, j, j + 1, by show _ = _; rw [hst.out, hb3.out]; rfl, rfl, Nat.le_refl _, hlt, rfl, by rw [hxx.out], by go_num, below_draws nq hbw2⟩
            case measure => simp [intOf]; omega
          | false =>
            rw [v3] at H3 hb3
            replace H3 : Hid _ := H3
            clear v3
            go_quiet (first | (go_at_call_of 85 (Value.string y); exact Calls.quiet_of (H2.out _)) | (go_at_call_of 85 (Value.string kj); exact Calls.quiet_of (H3.out _)))
            go_wp2_with fail
            go_roundw
            case rel => exact ⟨j, T, j + 1, by show _ = _; rw [hst.out, hb3.out]; rfl, rfl, hTj, hlt, rfl, by rw [hyy.out], by go_num, below_draws nq hbw2⟩
            case measure => simp [intOf]; omega
    · have z3 : decide ((j : Int) < (n : Int)) = false := by simp; omega
      have hjn : n - 1 = k := by have := hj.out; omega
      have hTn : Hid (topTo ps (n - 1) = T) := by show _ = _; rw [hjn]; exact hT.out
      clear hjn hT hj
      go_wp2_with fail
      go_ret
      exact ⟨by rw [hTn.out]; rfl, hbw⟩
end Go.Proofs.YtibjhkpgaaapaaaGreatDoor
namespace Go.Proofs.YtibjhkpgaaapaaaGreatDoor
open Go.RowKit Go.Proofs.Sha

theorem less_irr (a : List UInt8) : Op.bytesLess a a = false := by
  induction a with
  | nil => rfl
  | cons x y ih => rw [Op.bytesLess]; simp [ih]
theorem beats_rk (x y a b : ByteArray) : beats x y a b = rk x.data.toList y.data.toList a.data.toList b.data.toList := by
  unfold beats rk
  rw [ByteArray.toList_eq, ByteArray.toList_eq]
  by_cases h : x.data.toList = y.data.toList
  · rw [if_pos h, h, less_irr, Bool.false_or, beq_self_eq_true, Bool.true_and]
  · rw [if_neg h, beq_eq_false_iff_ne.2 h, Bool.false_and, Bool.or_false]
end Go.Proofs.YtibjhkpgaaapaaaGreatDoor
namespace Go.Proofs.YtibjhkpgaaapaaaGreatDoor
open Go.RowKit Go.Proofs.Sha

theorem less_asy {a b : List UInt8} (h : Op.bytesLess a b = true) : Op.bytesLess b a = false := by
  rw [less_tri] at h
  cases hb : Op.bytesLess b a with
  | false => rfl
  | true => rw [hb] at h; simp at h
theorem less_tot {a b : List UInt8} (h : a ≠ b) : Op.bytesLess a b = true ∨ Op.bytesLess b a = true := by
  rw [less_tri a b]
  cases hb : Op.bytesLess b a with
  | true => exact .inr rfl
  | false =>
    left
    have : (b == a) = false := beq_eq_false_iff_ne.2 fun e => h e.symm
    rw [this]; rfl
theorem less_trans : ∀ a b c : List UInt8, Op.bytesLess a b = true → Op.bytesLess b c = true → Op.bytesLess a c = true
  | _, [], [], _, h => by simp [Op.bytesLess] at h
  | [], [], _ :: _, h, _ => by simp [Op.bytesLess] at h
  | _ :: _, [], _, h, _ => by simp [Op.bytesLess] at h
  | [], _ :: _, [], _, h => by simp [Op.bytesLess] at h
  | _ :: _, _ :: _, [], _, h => by simp [Op.bytesLess] at h
  | [], _ :: _, _ :: _, _, _ => by simp [Op.bytesLess]
  | a :: x, b :: y, c :: z, h1, h2 => by
    simp only [Op.bytesLess, Bool.or_eq_true, Bool.and_eq_true, decide_eq_true_eq, beq_iff_eq, UInt8.lt_iff_toNat_lt] at h1 h2 ⊢
    have ih := less_trans x y z
    rcases h1 with h1 | ⟨h1, h1'⟩ <;> rcases h2 with h2 | ⟨h2, h2'⟩
    · left; omega
    · subst h2; exact .inl h1
    · subst h1; exact .inl h2
    · subst h1; subst h2; exact .inr ⟨rfl, ih h1' h2'⟩
theorem rk_asy {x y a b : List UInt8} (h : rk x y a b = true) : rk y x b a = false := by
  unfold rk at h ⊢
  by_cases e : x = y
  · rw [if_pos e] at h; rw [if_pos e.symm]; exact less_asy h
  · rw [if_neg e] at h; rw [if_neg (fun q => e q.symm)]; exact less_asy h
theorem rk_tot {x y a b : List UInt8} (h : a ≠ b) : rk x y a b = true ∨ rk y x b a = true := by
  unfold rk
  by_cases e : x = y
  · rw [if_pos e, if_pos e.symm]; exact less_tot h
  · rw [if_neg e, if_neg (fun q => e q.symm)]; exact less_tot (fun q => e q.symm)
theorem rk_tra {x y z a b c : List UInt8} (h1 : rk x y a b = true) (h2 : rk y z b c = true) : rk x z a c = true := by
  unfold rk at h1 h2 ⊢
  by_cases e : x = y
  · subst e
    rw [if_pos rfl] at h1
    by_cases e2 : x = z
    · rw [if_pos e2] at h2 ⊢; exact less_trans _ _ _ h1 h2
    · rw [if_neg e2] at h2 ⊢; exact h2
  · rw [if_neg e] at h1
    by_cases e2 : y = z
    · subst e2
      rw [if_neg e]; exact h1
    · rw [if_neg e2] at h2
      have h3 := less_trans _ _ _ h2 h1
      have e3 : x ≠ z := fun q => by
        subst q
        rw [less_irr] at h3; cases h3
      rw [if_neg e3]; exact h3
/-- One pair is above another. -/
def abP (p q : PairT) : Bool := rk (sha p.1.data.toList) (sha q.1.data.toList) p.1.data.toList q.1.data.toList
theorem ranked_abP (ps : List PairT) (h : ∀ p ∈ ps, ∀ q ∈ ps, p ≠ q → p.1 ≠ q.1) : Ranked abP ps :=
  ⟨fun p hp q hq hne => rk_tot fun e => h p hp q hq hne (by
      have : p.1.data = q.1.data := Array.toList_inj.1 e
      exact ByteArray.ext this),
   fun _ _ _ _ => rk_asy, fun _ _ _ _ _ _ => rk_tra⟩
theorem beats_abP (p q : PairT) : beats (shaB p.1) (shaB q.1) p.1 q.1 = abP p q := beats_rk _ _ _ _
theorem topTo_above (ps : List PairT) (h : Ranked abP ps) (hd : ∀ i j, i < ps.length → j < ps.length → i ≠ j → ps.getD i noPair ≠ ps.getD j noPair) (k : Nat) (hk : k < ps.length) :
    ∀ j, j ≤ k → j ≠ topTo ps k → abP (ps.getD (topTo ps k) noPair) (ps.getD j noPair) = true := by
  have hm : ∀ i, i < ps.length → ps.getD i noPair ∈ ps := fun i hi => by
    rw [List.getD_eq_getElem?_getD, List.getElem?_eq_getElem hi]; exact List.getElem_mem hi
  induction k with
  | zero => intro j hj hne; exact absurd (Nat.le_zero.1 hj) hne
  | succ k ih =>
    intro j hj hne
    have hT := topTo_le ps k
    have ih := ih (by omega)
    by_cases hb : beats (shaB (keyAt ps (k + 1))) (shaB (keyAt ps (topTo ps k))) (keyAt ps (k + 1)) (keyAt ps (topTo ps k)) = true
    · have he : topTo ps (k + 1) = k + 1 := by rw [topTo, if_pos hb]
      rw [he] at hne ⊢
      have hb' : abP (ps.getD (k + 1) noPair) (ps.getD (topTo ps k) noPair) = true := (beats_abP _ _).symm.trans hb
      by_cases hjt : j = topTo ps k
      · rw [hjt]; exact hb'
      · exact h.tra _ (hm _ hk) _ (hm _ (by omega)) _ (hm _ (by omega)) hb' (ih j (by omega) hjt)
    · have he : topTo ps (k + 1) = topTo ps k := by rw [topTo, if_neg hb]
      rw [he] at hne ⊢
      by_cases hjk : j = k + 1
      · subst hjk
        rcases h.tot _ (hm (topTo ps k) (by omega)) _ (hm (k + 1) hk) (hd _ _ (by omega) hk (by omega)) with q | q
        · exact q
        · exact absurd ((beats_abP _ _).trans q) hb
      · exact ih j (by omega) hne
end Go.Proofs.YtibjhkpgaaapaaaGreatDoor
namespace Go.Proofs.YtibjhkpgaaapaaaGreatDoor
open Go.RowKit Go.Proofs.Sha

/-- The keys of a list of pairs are apart. -/
def Apart (ps : List PairT) : Prop := ps.Pairwise fun p q => p.1 ≠ q.1
theorem Apart.ne {ps : List PairT} (h : Apart ps) : ∀ p ∈ ps, ∀ q ∈ ps, p ≠ q → p.1 ≠ q.1 := by
  induction ps with
  | nil => intro p hp; cases hp
  | cons x l ih =>
    obtain ⟨h1, h2⟩ := List.pairwise_cons.1 h
    intro p hp q hq hne
    rcases List.mem_cons.1 hp with rfl | hp' <;> rcases List.mem_cons.1 hq with rfl | hq'
    · exact absurd rfl hne
    · exact h1 q hq'
    · exact fun e => h1 p hp' e.symm
    · exact ih h2 p hp' q hq' hne
theorem getD_lt (ps : List PairT) (i : Nat) (hi : i < ps.length) : ps.getD i noPair = ps[i] := by
  rw [List.getD_eq_getElem?_getD, List.getElem?_eq_getElem hi]; rfl
theorem Apart.at_ {ps : List PairT} (h : Apart ps) (i j : Nat) (hi : i < ps.length) (hj : j < ps.length) (hne : i ≠ j) : ps.getD i noPair ≠ ps.getD j noPair := by
  rw [getD_lt _ _ hi, getD_lt _ _ hj]
  have hp := List.pairwise_iff_getElem.1 h
  intro e
  rcases Nat.lt_or_gt_of_ne hne with q | q
  · exact hp i j hi hj q (by rw [e])
  · exact hp j i hj hi q (by rw [e])
/-- The tree as the model cuts it. -/
def cutTree (ps : List PairT) : Tr PairT :=
  if h : 0 < ps.length then
    .node (cutTree (ps.take (topTo ps (ps.length - 1)))) (ps.getD (topTo ps (ps.length - 1)) noPair) (cutTree (ps.drop (topTo ps (ps.length - 1) + 1)))
  else .nil
termination_by ps.length
decreasing_by
  · have := topTo_le ps (ps.length - 1); rw [List.length_take]; omega
  · rw [List.length_drop]; omega
theorem cut_at (ps : List PairT) (t : Nat) (ht : t < ps.length) : ps.take t ++ ps.getD t noPair :: ps.drop (t + 1) = ps := by
  rw [getD_lt _ _ ht, ← List.drop_eq_getElem_cons ht, List.take_append_drop]
theorem cutTree_inord (ps : List PairT) : (cutTree ps).inord = ps := by
  induction hn : ps.length using Nat.strongRecOn generalizing ps with
  | _ n ih =>
    rw [cutTree]
    by_cases h : 0 < ps.length
    · have ht := topTo_le ps (ps.length - 1)
      rw [dif_pos h, Tr.inord, ih _ (by rw [List.length_take]; omega) _ rfl, ih _ (by rw [List.length_drop]; omega) _ rfl]
      exact cut_at ps _ (by omega)
    · rw [dif_neg h]
      cases ps with
      | nil => rfl
      | cons x l => exact absurd (Nat.succ_pos _) h
theorem cutTree_heap (ps : List PairT) (ha : Apart ps) : (cutTree ps).heap abP := by
  induction hn : ps.length using Nat.strongRecOn generalizing ps with
  | _ n ih =>
    rw [cutTree]
    by_cases h : 0 < ps.length
    · have ht := topTo_le ps (ps.length - 1)
      have hab := topTo_above ps (ranked_abP ps ha.ne) ha.at_ (ps.length - 1) (by omega)
      rw [dif_pos h]
      refine ⟨fun y hy => ?_, fun y hy => ?_, ih _ (by rw [List.length_take]; omega) _ (List.Pairwise.sublist (List.take_sublist _ _) ha) rfl, ih _ (by rw [List.length_drop]; omega) _ (List.Pairwise.sublist (List.drop_sublist _ _) ha) rfl⟩
      · rw [cutTree_inord] at hy
        obtain ⟨i, hi, rfl⟩ := List.getElem_of_mem hy
        rw [List.length_take] at hi
        rw [List.getElem_take, ← getD_lt ps i (by omega)]
        exact hab i (by omega) (by omega)
      · rw [cutTree_inord] at hy
        obtain ⟨i, hi, rfl⟩ := List.getElem_of_mem hy
        rw [List.length_drop] at hi
        rw [List.getElem_drop, ← getD_lt ps _ (by omega)]
        exact hab _ (by omega) (by omega)
    · rw [dif_neg h]; trivial
/-- Singles, merged one after another, are the tree that the model cuts. -/
def mergedTo (ps : List PairT) : Nat → Tr PairT
  | 0 => .nil
  | k + 1 => Tr.merge abP (mergedTo ps k) (.node .nil (ps.getD k noPair) .nil)
theorem mergedTo_inord (ps : List PairT) (k : Nat) (hk : k ≤ ps.length) : (mergedTo ps k).inord = ps.take k := by
  induction k with
  | zero => rfl
  | succ k ih =>
    rw [mergedTo, Tr.merge_inord, ih (by omega), List.take_succ_eq_append_getElem (by omega), getD_lt _ _ (by omega)]
    rfl
theorem mergedTo_heap (ps : List PairT) (ha : Apart ps) (k : Nat) (hk : k ≤ ps.length) : (mergedTo ps k).heap abP := by
  induction k with
  | zero => trivial
  | succ k ih =>
    rw [mergedTo]
    have hr := ranked_abP ps ha.ne
    have hi : (Tr.node .nil (ps.getD k noPair) .nil : Tr PairT).inord = [ps.getD k noPair] := rfl
    refine Tr.merge_heap abP _ _ (ih (by omega)) ⟨fun _ h => (by cases h), fun _ h => (by cases h), trivial, trivial⟩ (hr.sub abP fun x hx => ?_) (fun x hx y hy => ?_)
    · rw [hi, mergedTo_inord ps k (by omega)] at hx
      rcases List.mem_append.1 hx with q | q
      · exact List.mem_of_mem_take q
      · rw [List.mem_singleton.1 q, getD_lt _ _ (by omega)]; exact List.getElem_mem _
    · rw [mergedTo_inord ps k (by omega)] at hx
      rw [hi] at hy
      obtain ⟨i, hi', rfl⟩ := List.getElem_of_mem hx
      rw [List.length_take] at hi'
      rw [List.getElem_take, List.mem_singleton.1 hy, ← getD_lt ps i (by omega)]
      exact ha.at_ i k (by omega) (by omega) (by omega)
theorem merged_cut (ps : List PairT) (ha : Apart ps) : mergedTo ps ps.length = cutTree ps := by
  have hi : (mergedTo ps ps.length).inord = ps := by rw [mergedTo_inord ps _ (Nat.le_refl _), List.take_length]
  refine Tr.unique abP _ _ (mergedTo_heap ps ha _ (Nat.le_refl _)) (cutTree_heap ps ha) (by rw [hi, cutTree_inord]) ?_ ?_
  · rw [hi]; exact ha.imp fun h e => h (by rw [e])
  · rw [hi]; exact ranked_abP ps ha.ne
end Go.Proofs.YtibjhkpgaaapaaaGreatDoor
namespace Go.Proofs.YtibjhkpgaaapaaaGreatDoor
open Go.RowKit Go.Proofs.Sha

theorem mapTo_good (ps : List PairT) : ∀ n, mapTo ps n = true → ∀ k, k < n → goodAt ps k = true
  | 0, _, k, hk => absurd hk (Nat.not_lt_zero _)
  | n + 1, h, k, hk => by
    rw [mapTo, Bool.and_eq_true] at h
    by_cases e : k = n
    · subst e; exact h.2
    · exact mapTo_good ps n h.1 k (by omega)
theorem mapTo_less (ps : List PairT) (n : Nat) (h : mapTo ps n = true) (i j : Nat) (hij : i < j) (hj : j < n) : Op.bytesLess (keyAt ps i).data.toList (keyAt ps j).data.toList = true := by
  induction j with
  | zero => omega
  | succ j ih =>
    have hg := mapTo_good ps n h (j + 1) hj
    unfold goodAt at hg
    rw [Bool.and_eq_true, Bool.and_eq_true, ByteArray.toList_eq, ByteArray.toList_eq] at hg
    have hl : Op.bytesLess (keyAt ps j).data.toList (keyAt ps (j + 1)).data.toList = true := hg.2.2
    by_cases e : i = j
    · subst e; exact hl
    · exact less_trans _ _ _ (ih (by omega) (by omega)) hl
theorem isMapT_apart (ps : List PairT) (h : isMapT ps = true) : Apart ps := by
  unfold isMapT at h
  rw [Bool.and_eq_true] at h
  refine List.pairwise_iff_getElem.2 fun i j hi hj hij e => ?_
  have hl := mapTo_less ps ps.length h.2 i j hij hj
  have hk : keyAt ps i = keyAt ps j := by
    unfold keyAt
    rw [getD_lt _ _ hi, getD_lt _ _ hj, e]
  rw [hk, less_irr] at hl
  cases hl
end Go.Proofs.YtibjhkpgaaapaaaGreatDoor
