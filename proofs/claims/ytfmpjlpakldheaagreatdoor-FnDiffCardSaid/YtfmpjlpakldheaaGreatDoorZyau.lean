import Derived.Test.YtfmpjlpakldheaaGreatDoorZyam
import Derived.Test.YtfmpjlpakldheaaGreatDoorZyak
import Derived.Test.YtfmpjlpakldheaaGreatDoorZyaf
import Derived.Test.YtfmpjlpakldheaaGreatDoorZyai
import Derived.Test.YtfmpjlpakldheaaGreatDoorZyaj
import Derived.Test.YtfmpjlpakldheaaGreatDoorZyaa
import Derived.Test.YtfmpjlpakldheaaGreatDoorZyao
import Derived.Test.YtfmpjlpakldheaaGreatDoorZyal
import Derived.Test.YtfmpjlpakldheaaGreatDoorZyan
import Derived.Test.YtfmpjlpakldheaaGreatDoorZyap
import Derived.Deep.RegionLaw
namespace Go.Proofs.YtfmpjlpakldheaaGreatDoor
open Go.RowKit Go.Proofs.Sha

theorem below_draws {B : Nat} {a w : World} (n : Nat) (h : Below B a w) : Below B a (w.drewN n) := ⟨h.os, h.tape, h.output, h.size, h.block⟩

set_option maxRecDepth 100000 in
set_option maxHeartbeats 1000000 in
theorem mapOk_any (a : Option Addr) (ps : List PairT) (c : Nat) (w : World) (h : PArg a ps w) :
    Calls Tryz.prog 45 #[.slice a ps.length c] w fun e w' => e = .returned (.bool (isMapT ps)) ∧ Below w.heap.size w w' := by
  have hn := h.le
  obtain ⟨n, hnn⟩ : ∃ n, ps.length = n := ⟨_, rfl⟩
  obtain ⟨B, hB⟩ : ∃ B, isMapT ps = B := ⟨_, rfl⟩
  rw [hB, hnn]
  rw [hnn] at hn
  by_cases hx : 500 < n
  · have hf : Hid (B = false) := by show B = false; rw [← hB]; unfold isMapT; rw [decide_eq_false (by omega), Bool.false_and]
    have z1 : decide ((500 : Int) < (n : Int)) = true := by rw [decide_eq_true_eq]; omega
    have z2 : decide ((n : Int) > 500) = true := by rw [decide_eq_true_eq]; omega
    clear hB
    go_enter Tryz.func45, Tryz.ntmps45
    go_wp2_with fail
    go_ret
    exact ⟨by rw [hf.out]; rfl, Below.refl _ _⟩
  · have hBm : Hid (B = mapTo ps n) := by show B = _; rw [← hB]; unfold isMapT; rw [decide_eq_true (by omega), Bool.true_and, hnn]
    have z1 : decide ((500 : Int) < (n : Int)) = false := by rw [decide_eq_false_iff_not]; omega
    have z2 : decide ((n : Int) > 500) = false := by rw [decide_eq_false_iff_not]; omega
    have hnl : Hid (ps.length = n) := hnn
    clear hB hnn
    go_enter Tryz.func45, Tryz.ntmps45
    go_wp2_with fail
    go_loopw [3] (fun t3 wr => ∃ k : Nat, k ≤ n ∧ t3 = .int .i64 (k : Int) ∧ Hid (mapTo ps k = true) ∧ Below w.heap.size w wr) (fun t3 _ => n - (intOf t3).toNat)
    case atStart => exact ⟨0, Nat.zero_le _, rfl, rfl, Below.refl _ _⟩
    case round =>
      obtain ⟨k, hk, rfl, hm, hbw⟩ := hrel
      by_cases hlt : k < n
      · have z3 : decide ((k : Int) < (n : Int)) = true := by simp; omega
        have hx0 : (0 : Int) ≤ (k : Int) := Int.natCast_nonneg _
        have hx1 : (k : Int) < (n : Int) := by omega
        obtain ⟨b, off, rfl, hbl, hc⟩ := (h.below hbw).at_ (by rw [hnl.out]; omega)
        obtain ⟨hc1, hc2⟩ := hc k (by rw [hnl.out]; exact hlt)
        have hgd : Hid (goodAt ps k = (okKey (ps.getD k noPair).1 && (okVal (ps.getD k noPair).2 && Op.bytesLess (lastK ps k).toList (ps.getD k noPair).1.toList))) := rfl
        obtain ⟨hs1, hs2⟩ := h.sz k
        have hkn : ∀ pk : ByteArray, okKey pk = true → Op.bytesLess (⟨#[]⟩ : ByteArray).toList pk.toList = true := fun pk hok => by
          unfold okKey at hok
          rw [decide_eq_true_eq] at hok
          have : pk.toList ≠ [] := fun e => by
            have hl := congrArg List.length e
            rw [ByteArray.toList_eq] at hl
            have h0 : pk.data.toList.length = pk.size := rfl
            have h1 : pk.size = 0 := h0.symm.trans hl
            omega
          have e0 : (⟨#[]⟩ : ByteArray).toList = [] := by rw [ByteArray.toList_eq]
          rw [e0]
          cases hp : pk.toList with
          | nil => exact absurd hp this
          | cons x y => rfl
        generalize hpk : (ps.getD k noPair).1 = pk at hc1 hgd hs1
        generalize (ps.getD k noPair).2 = pv at hc2 hgd hs2
        have H1 : ∀ w', Calls Tryz.prog 90 #[.string pk, .string pv] w' fun e w'' => e = .returned (.bool (okKey pk && okVal pv)) ∧ w'' = w' := fun w' => pairOk_q pk pv w' hs1 hs2
        cases hk1 : (okKey pk && okVal pv) with
        | false =>
          rw [hk1] at H1
          have hbf : Hid (B = false) := by
            show B = false
            rw [hBm.out]
            exact mapTo_false ps k n hlt (by rw [hgd.out, ← Bool.and_assoc, hk1, Bool.false_and])
          replace H1 : Hid _ := H1
          clear hk1 hgd hm hBm hc hkn hpk
          go_upto_region 6 with fail
          go_quiet ((go_at_call 90; exact Calls.quiet_of_same (H1.out _)))
          go_wp2_with fail
          go_ret
          exact ⟨by rw [hbf.out]; rfl, below_draws nq hbw⟩
        | true =>
          rw [hk1] at H1
          have hok : okKey pk = true := by cases hq : okKey pk with
            | true => rfl
            | false => rw [hq, Bool.false_and] at hk1; cases hk1
          have hg2 : Hid (goodAt ps k = Op.bytesLess (lastK ps k).toList pk.toList) := by show _ = _; rw [hgd.out, ← Bool.and_assoc, hk1, Bool.true_and]
          replace H1 : Hid _ := H1
          by_cases hk0 : k = 0
          · have hm' : Hid (mapTo ps (k + 1) = true) := by
              show _ = _
              rw [mapTo, hm.out, hg2.out, Bool.true_and]
              subst hk0
              exact hkn pk hok
            have y0 : ¬ (0 < (k : Int)) := by omega
            have y1 : decide (0 < (k : Int)) = false := by rw [decide_eq_false_iff_not]; exact y0
            have y2 : ¬ (0 < k) := by omega
            have y3 : decide (0 < k) = false := by rw [decide_eq_false_iff_not]; exact y2
            clear hk1 hgd hm hBm hc hkn hpk hg2 hk0 hok
            go_upto_region 6 with fail
            go_quiet ((go_at_call 90; exact Calls.quiet_of_same (H1.out _)))
            go_wp2_with fail
            go_roundw
            case rel => exact ⟨k + 1, hlt, by go_num, hm', below_draws nq hbw⟩
            case measure => simp [intOf]; omega
          · have y0 : 0 < (k : Int) := by omega
            have y1 : decide (0 < (k : Int)) = true := by rw [decide_eq_true_eq]; exact y0
            have y2 : 0 < k := by omega
            have y3 : decide (0 < k) = true := by rw [decide_eq_true_eq]; exact y2
            obtain ⟨hc3, hc4⟩ := hc (k - 1) (by rw [hnl.out]; omega)
            obtain ⟨hs3, hs4⟩ := h.sz (k - 1)
            have hlk : lastK ps k = (ps.getD (k - 1) noPair).1 := by cases k with | zero => exact absurd rfl hk0 | succ k' => rfl
            rw [hlk] at hg2
            generalize (ps.getD (k - 1) noPair).1 = pl at hc3 hs3 hg2
            have H2 : ∀ w', Calls Tryz.prog 95 #[.string pl, .string pk] w' fun e w'' => e = .returned (.bool (Op.bytesLess pl.toList pk.toList)) ∧ ∃ m, w'' = w'.drewN m := fun w' => by
              rw [ByteArray.toList_eq, ByteArray.toList_eq]
              exact less_q pl pk w' hs3 hs1
            have x0 : (0 : Int) ≤ (k : Int) - 1 := by omega
            have x1 : (k : Int) - 1 < (n : Int) := by omega
            have x2 : ((k : Int) - 1).toNat = k - 1 := by omega
            have x3 : wrap64 ((k : Int) - 1) = (k : Int) - 1 := by unfold wrap64; omega
            cases hlt2 : Op.bytesLess pl.toList pk.toList with
            | false =>
              rw [hlt2] at H2 hg2
              have hbf : Hid (B = false) := by
                show B = false
                rw [hBm.out]
                exact mapTo_false ps k n hlt hg2.out
              replace H2 : Hid _ := H2
              clear hk1 hgd hm hBm hc hkn hpk hg2 hk0 hok hlt2 hlk hc4 hs4
              go_upto_region 6 with fail
              go_quiet (first | (go_at_call 90; exact Calls.quiet_of_same (H1.out _)) | (go_at_call 95; exact Calls.quiet_of (H2.out _)))
              go_wp2_with fail
              go_ret
              exact ⟨by rw [hbf.out]; rfl, below_draws nq hbw⟩
            | true =>
              rw [hlt2] at H2 hg2
              have hm' : Hid (mapTo ps (k + 1) = true) := by
                show _ = _
                rw [mapTo, hm.out, hg2.out]; rfl
              replace H2 : Hid _ := H2
              clear hk1 hgd hm hBm hc hkn hpk hg2 hk0 hok hlt2 hlk hc4 hs4
              go_upto_region 6 with fail
              go_quiet (first | (go_at_call 90; exact Calls.quiet_of_same (H1.out _)) | (go_at_call 95; exact Calls.quiet_of (H2.out _)))
              go_wp2_with fail
              go_roundw
              case rel => exact ⟨k + 1, hlt, by go_num, hm', below_draws nq hbw⟩
              case measure => simp [intOf]; omega
      · obtain rfl : k = n := by omega
        have z3 : decide ((k : Int) < (k : Int)) = false := by simp
        have hbt : Hid (B = true) := by show B = true; rw [hBm.out, hm.out]
        clear hBm hm
        go_wp2_with fail
        go_ret
        exact ⟨by rw [hbt.out]; rfl, hbw⟩
end Go.Proofs.YtfmpjlpakldheaaGreatDoor
namespace Go.Proofs.YtfmpjlpakldheaaGreatDoor
open Go.RowKit Go.Proofs.Sha

def keyAt (ps : List PairT) (k : Nat) : ByteArray := (ps.getD k noPair).1
def shaB (s : ByteArray) : ByteArray := ⟨(sha s.data.toList).toArray⟩
theorem shaB_size (s : ByteArray) : (shaB s).size = 32 := by
  show (sha s.data.toList).toArray.size = 32
  rw [List.size_toArray, sha_len]
/-- 'a' beats 'b'. -/
def beats (x y a b : ByteArray) : Bool := Op.bytesLess y.data.toList x.data.toList || ((x.toList == y.toList) && Op.bytesLess a.data.toList b.data.toList)
/-- The place of the highest of the first 'k + 1'. -/
def topTo (ps : List PairT) : Nat → Nat
  | 0 => 0
  | k + 1 => if beats (shaB (keyAt ps (k + 1))) (shaB (keyAt ps (topTo ps k))) (keyAt ps (k + 1)) (keyAt ps (topTo ps k)) = true then k + 1 else topTo ps k
theorem topTo_le (ps : List PairT) : ∀ k, topTo ps k ≤ k
  | 0 => Nat.le_refl _
  | k + 1 => by
    rw [topTo]
    split
    · exact Nat.le_refl _
    · exact Nat.le_succ_of_le (topTo_le ps k)

set_option maxRecDepth 100000 in
set_option maxHeartbeats 3000000 in
theorem top_any (a : Option Addr) (ps : List PairT) (c : Nat) (w : World) (h : PArg a ps w) (h0 : 0 < ps.length) :
    Calls Tryz.prog 51 #[.slice a ps.length c] w fun e w' => e = .returned (.int .i64 (topTo ps (ps.length - 1) : Int)) ∧ Below w.heap.size w w' := by
  have hn := h.le
  have HW : ∀ w', Below w.heap.size w w' → PArg a ps w' := fun w' hb => h.below hb
  obtain ⟨b, off, rfl, hbl, hc⟩ := h.at_ h0
  have HC : ∀ w', Below w.heap.size w w' → ∀ j, j < ps.length → w'.cell? ⟨b, off + j * 2, none⟩ = some (.string (keyAt ps j)) := fun w' hb j hj => (hb.cell (p := ⟨b, off + j * 2, none⟩) hbl).trans (hc j hj).1
  obtain ⟨n, hnn⟩ : ∃ n, ps.length = n := ⟨_, rfl⟩
  rw [hnn]
  rw [hnn] at hn h0
  have HS : ∀ j, (keyAt ps j).size ≤ 1048576 := fun j => (h.sz j).1
  replace HW : Hid _ := HW
  replace HS : Hid _ := HS
  rw [hnn] at HC
  replace HC : Hid _ := HC
  have hnl : Hid (ps.length = n) := hnn
  have hc0 : w.cell? ⟨b, off + 0 * 2, none⟩ = some (.string (keyAt ps 0)) := HC.out w (Below.refl _ _) 0 h0
  have hc0' : w.cell? ⟨b, off, none⟩ = some (.string (keyAt ps 0)) := hc0
  have y0 : (0 : Int) < (n : Int) := by omega
  have H0 := fun w' => spec_any (keyAt ps 0) w' (HS.out 0)
  have hX0 : Hid ((⟨(sha (keyAt ps 0).data.toList).toArray⟩ : ByteArray) = shaB (keyAt ps 0)) := rfl
  generalize (⟨(sha (keyAt ps 0).data.toList).toArray⟩ : ByteArray) = X0 at H0 hX0
  replace H0 : Hid _ := H0
  clear hnn hc h hc0
  generalize hk0 : keyAt ps 0 = k0 at hc0' H0
  have hk0' : Hid (keyAt ps 0 = k0) := hk0
  clear hk0
  go_enter Tryz.func51, Tryz.ntmps51
  go_wp2_with (go_at_call 59; refine (H0.out _).mono ?_)
  rintro _ w1 ⟨rfl, hb1⟩
  go_wp2_with fail
  go_loopw [3, 4, 5] (fun t3 t4 t5 wr => ∃ k T j : Nat, Hid (topTo ps k = T) ∧ Hid (j = k + 1) ∧ T ≤ k ∧ k < n ∧ t3 = .int .i64 (T : Int) ∧ t4 = .string (shaB (keyAt ps T)) ∧ t5 = .int .i64 (j : Int) ∧ Below w.heap.size w wr) (fun _ _ t5 _ => n - (intOf t5).toNat)
  case atStart => exact ⟨0, 0, 1, rfl, rfl, Nat.le_refl _, h0, rfl, by rw [← hX0.out], rfl, hb1⟩
  case round =>
    obtain ⟨k, T, j, hT, hj, hTk, hk, rfl, rfl, rfl, hbw⟩ := hrel
    by_cases hlt : j < n
    · have z3 : decide ((j : Int) < (n : Int)) = true := by simp; omega
      have z4 : decide (j < n) = true := by rw [decide_eq_true_eq]; exact hlt
      have z0 : (0 : Int) ≤ (j : Int) := Int.natCast_nonneg _
      have z1 : (j : Int) < (n : Int) := by omega
      have q0 : (0 : Int) ≤ (T : Int) := Int.natCast_nonneg _
      have q1 : (T : Int) < (n : Int) := by omega
      have hc1 := HC.out wr hbw j hlt
      have H1 := fun w' => spec_any (keyAt ps j) w' (HS.out j)
      have hX : Hid ((⟨(sha (keyAt ps j).data.toList).toArray⟩ : ByteArray) = shaB (keyAt ps j)) := rfl
      rw [hX.out] at H1
      have hxs := shaB_size (keyAt ps j)
      have hys := shaB_size (keyAt ps T)
      have hks := HS.out j
      have hls := HS.out T
      have hst : Hid (topTo ps j = if beats (shaB (keyAt ps j)) (shaB (keyAt ps T)) (keyAt ps j) (keyAt ps T) = true then j else T) := by
        show _ = _
        rw [hj.out, topTo, hT.out]
      have HD : ∀ w', Below w.heap.size w w' → w'.cell? ⟨b, off + j * 2, none⟩ = some (.string (keyAt ps j)) ∧ w'.cell? ⟨b, off + T * 2, none⟩ = some (.string (keyAt ps T)) := fun w' hb => ⟨HC.out w' hb j hlt, HC.out w' hb T (by omega)⟩
      obtain ⟨x, hx⟩ : ∃ x, shaB (keyAt ps j) = x := ⟨_, rfl⟩
      obtain ⟨y, hy⟩ : ∃ y, shaB (keyAt ps T) = y := ⟨_, rfl⟩
      obtain ⟨kj, hkj⟩ : ∃ x, keyAt ps j = x := ⟨_, rfl⟩
      obtain ⟨kt, hkt⟩ : ∃ x, keyAt ps T = x := ⟨_, rfl⟩
      rw [hx, hy, hkj, hkt] at hst
      rw [hy]
      rw [hx] at hxs
      rw [hy] at hys
      rw [hkj] at hks
      rw [hkt] at hls
      rw [hkj, hkt] at HD
      rw [hkj] at hc1
      rw [hx, hkj] at H1
      have hxx : Hid (shaB (keyAt ps j) = x) := hx
      have hyy : Hid (shaB (keyAt ps T) = y) := hy
      have hxl : x.size ≤ 1048576 := by omega
      have hyl : y.size ≤ 1048576 := by omega
      replace HD : Hid _ := HD
      replace H1 : Hid _ := H1
      have H2 := fun w' => less_q y x w' hyl hxl
      have H3 := fun w' => less_q kj kt w' hks hls
      clear hx hy hkj hkt hxs hys hxl hyl hX
      go_upto_region 7 with (go_at_call 59; refine (H1.out _).mono ?_)
      rintro _ w2 ⟨rfl, hb2⟩
      have hbw2 : Below w.heap.size w w2 := hbw.trans (hb2.mono hbw.size)
      obtain ⟨hd1, hd2⟩ := HD.out w2 hbw2
      clear hb2 hbw hc1
      have hTj : T ≤ j := by have := hj.out; omega
      go_upto_region 7 with fail
      cases v1 : Op.bytesLess y.data.toList x.data.toList with
      | true =>
        rw [v1] at H2
        have hbt : Hid (beats x y kj kt = true) := by show _ = _; unfold beats; rw [v1, Bool.true_or]
        replace H2 : Hid _ := H2
        replace H3 : Hid _ := H3
        clear v1
        go_quiet (first | (go_at_call_of 95 (Value.string y); exact Calls.quiet_of (H2.out _)) | (go_at_call_of 95 (Value.string kj); exact Calls.quiet_of (H3.out _)))
        go_wp2_with fail
        go_roundw
        case rel => exact ⟨j, j, j + 1, by show _ = _; rw [hst.out, hbt.out]; rfl, rfl, Nat.le_refl _, hlt, rfl, by rw [hxx.out], by go_num, below_draws nq hbw2⟩
        case measure => simp [intOf]; omega
      | false =>
        rw [v1] at H2
        replace H2 : Hid _ := H2
        cases v2 : (x.toList == y.toList) with
        | false =>
          have hbt : Hid (beats x y kj kt = false) := by show _ = _; unfold beats; rw [v1, v2]; rfl
          replace H3 : Hid _ := H3
          clear v1
          go_quiet (first | (go_at_call_of 95 (Value.string y); exact Calls.quiet_of (H2.out _)) | (go_at_call_of 95 (Value.string kj); exact Calls.quiet_of (H3.out _)))
          go_wp2_with fail
          go_roundw
          case rel => exact ⟨j, T, j + 1, by show _ = _; rw [hst.out, hbt.out]; rfl, rfl, hTj, hlt, rfl, by rw [hyy.out], by go_num, below_draws nq hbw2⟩
          case measure => simp [intOf]; omega
        | true =>
          have hb3 : Hid (beats x y kj kt = Op.bytesLess kj.data.toList kt.data.toList) := by show _ = _; unfold beats; rw [v1, v2]; rfl
          clear v1
          cases v3 : Op.bytesLess kj.data.toList kt.data.toList with
          | true =>
            rw [v3] at H3 hb3
            replace H3 : Hid _ := H3
            clear v3
            go_quiet (first | (go_at_call_of 95 (Value.string y); exact Calls.quiet_of (H2.out _)) | (go_at_call_of 95 (Value.string kj); exact Calls.quiet_of (H3.out _)))
            go_wp2_with fail
            go_roundw
            case rel => exact ⟨j, j, j + 1, by show _ = _; rw [hst.out, hb3.out]; rfl, rfl, Nat.le_refl _, hlt, rfl, by rw [hxx.out], by go_num, below_draws nq hbw2⟩
            case measure => simp [intOf]; omega
          | false =>
            rw [v3] at H3 hb3
            replace H3 : Hid _ := H3
            clear v3
            go_quiet (first | (go_at_call_of 95 (Value.string y); exact Calls.quiet_of (H2.out _)) | (go_at_call_of 95 (Value.string kj); exact Calls.quiet_of (H3.out _)))
            go_wp2_with fail
            go_roundw
            case rel => exact ⟨j, T, j + 1, by show _ = _; rw [hst.out, hb3.out]; rfl, rfl, hTj, hlt, rfl, by rw [hyy.out], by go_num, below_draws nq hbw2⟩
            case measure => simp [intOf]; omega
    · have z3 : decide ((j : Int) < (n : Int)) = false := by simp; omega
      have hjn : n - 1 = k := by have := hj.out; omega
      have hTn : Hid (topTo ps (n - 1) = T) := by show _ = _; rw [hjn]; exact hT.out
      clear hjn hT hj
      go_wp2_with fail
      go_ret
      exact ⟨by rw [hTn.out]; rfl, hbw⟩
end Go.Proofs.YtfmpjlpakldheaaGreatDoor
namespace Go.Proofs.YtfmpjlpakldheaaGreatDoor
open Go.RowKit Go.Proofs.Sha

end Go.Proofs.YtfmpjlpakldheaaGreatDoor
namespace Go.Proofs.Sha

/-- A tree of whatever, by itself. -/
inductive Tr (α : Type) where
  | nil : Tr α
  | node (l : Tr α) (x : α) (r : Tr α) : Tr α
section
variable {α : Type} (ab : α → α → Bool)
def Tr.inord : Tr α → List α
  | .nil => []
  | .node l x r => l.inord ++ x :: r.inord
def Tr.size : Tr α → Nat
  | .nil => 0
  | .node l _ r => l.size + r.size + 1
end
end Go.Proofs.Sha
namespace Go.Proofs.YtfmpjlpakldheaaGreatDoor
open Go.RowKit Go.Proofs.Sha

end Go.Proofs.YtfmpjlpakldheaaGreatDoor
namespace Go.Proofs.YtfmpjlpakldheaaGreatDoor
open Go.RowKit Go.Proofs.Sha

theorem getD_lt (ps : List PairT) (i : Nat) (hi : i < ps.length) : ps.getD i noPair = ps[i] := by
  rw [List.getD_eq_getElem?_getD, List.getElem?_eq_getElem hi]; rfl
/-- The tree as the model cuts it. -/
def cutTree (ps : List PairT) : Tr PairT :=
  if h : 0 < ps.length then
    .node (cutTree (ps.take (topTo ps (ps.length - 1)))) (ps.getD (topTo ps (ps.length - 1)) noPair) (cutTree (ps.drop (topTo ps (ps.length - 1) + 1)))
  else .nil
termination_by ps.length
decreasing_by
  · have := topTo_le ps (ps.length - 1); rw [List.length_take]; omega
  · rw [List.length_drop]; omega
theorem cut_at (ps : List PairT) (t : Nat) (ht : t < ps.length) : ps.take t ++ ps.getD t noPair :: ps.drop (t + 1) = ps := by
  rw [getD_lt _ _ ht, ← List.drop_eq_getElem_cons ht, List.take_append_drop]
theorem cutTree_inord (ps : List PairT) : (cutTree ps).inord = ps := by
  induction hn : ps.length using Nat.strongRecOn generalizing ps with
  | _ n ih =>
    rw [cutTree]
    by_cases h : 0 < ps.length
    · have ht := topTo_le ps (ps.length - 1)
      rw [dif_pos h, Tr.inord, ih _ (by rw [List.length_take]; omega) _ rfl, ih _ (by rw [List.length_drop]; omega) _ rfl]
      exact cut_at ps _ (by omega)
    · rw [dif_neg h]
      cases ps with
      | nil => rfl
      | cons x l => exact absurd (Nat.succ_pos _) h
end Go.Proofs.YtfmpjlpakldheaaGreatDoor
namespace Go.Proofs.YtfmpjlpakldheaaGreatDoor
open Go.RowKit Go.Proofs.Sha

theorem mapTo_good (ps : List PairT) : ∀ n, mapTo ps n = true → ∀ k, k < n → goodAt ps k = true
  | 0, _, k, hk => absurd hk (Nat.not_lt_zero _)
  | n + 1, h, k, hk => by
    rw [mapTo, Bool.and_eq_true] at h
    by_cases e : k = n
    · subst e; exact h.2
    · exact mapTo_good ps n h.1 k (by omega)
end Go.Proofs.YtfmpjlpakldheaaGreatDoor
namespace Go.Proofs.YtfmpjlpakldheaaGreatDoor
open Go.RowKit Go.Proofs.Sha

theorem subsB_any (b : Nat) (hash over under : ByteArray) (par : Option Addr) (k v l r : ByteArray) (pl pr : Option Addr) (w : World) (h : BF b hash over under par k v l r pl pr w) : Calls Tryz.prog 206 #[.pointer (some ⟨b, 0, none⟩)] w fun e w' => e = .returned (.tuple #[.pointer pl, .pointer pr]) ∧ Below w.heap.size w w' := by
  have c8 : w.cell? ⟨b, 8, none⟩ = some (.pointer pl) := Lib.cell_of_heap h 8
  have c9 : w.cell? ⟨b, 9, none⟩ = some (.pointer pr) := Lib.cell_of_heap h 9
  clear h
  go_enter Tryz.func206, Tryz.ntmps206
  go_wp2_with fail
  go_region_held3 (fun W => W.cell? ⟨b, 8, none⟩ = some (.pointer pl) ∧ W.cell? ⟨b, 9, none⟩ = some (.pointer pr)) (exact ⟨c8, c9⟩) (fail)
  go_wp2_with fail
  go_ret2
  exact ⟨rfl, (Below.refl _ _).drew⟩
theorem pairB_any (b : Nat) (hash over under : ByteArray) (par : Option Addr) (k v l r : ByteArray) (pl pr : Option Addr) (w : World) (h : BF b hash over under par k v l r pl pr w) : Calls Tryz.prog 122 #[.pointer (some ⟨b, 0, none⟩)] w fun e w' => e = .returned (.agg #[.string k, .string v]) ∧ Below w.heap.size w w' := by
  have hlt := (Array.getElem?_eq_some_iff.1 h).1
  have hA := (Below.heap_alloc w (.cells #[.string ⟨#[]⟩, .string ⟨#[]⟩] 34) b hlt).trans h
  have c4 : (w.alloc (.cells #[.string ⟨#[]⟩, .string ⟨#[]⟩] 34)).cell? ⟨b, 4, none⟩ = some (.string k) := Lib.cell_of_heap hA 4
  have c5 : (w.alloc (.cells #[.string ⟨#[]⟩, .string ⟨#[]⟩] 34)).cell? ⟨b, 5, none⟩ = some (.string v) := Lib.cell_of_heap hA 5
  have hN := heap_alloc_new w (.cells #[.string ⟨#[]⟩, .string ⟨#[]⟩] 34)
  have hb : Below w.heap.size w (w.alloc (.cells #[.string ⟨#[]⟩, .string ⟨#[]⟩] 34)) := (Below.refl _ _).alloc (Nat.le_refl _) _
  clear h hA
  go_enter Tryz.func122, Tryz.ntmps122
  go_wp2_with fail
  generalize w.alloc (.cells #[.string ⟨#[]⟩, .string ⟨#[]⟩] 34) = W at c4 c5 hN hb ⊢
  obtain ⟨gp, hgp⟩ : ∃ gp, w.heap.size = gp := ⟨_, rfl⟩
  rw [hgp] at hN ⊢
  have hgl : w.heap.size ≤ gp := Nat.le_of_eq hgp
  clear hgp
  have p0 : W.cell? ⟨gp, 0, none⟩ = some (.string ⟨#[]⟩) := Lib.cell_of_heap hN 0
  have p1 : W.cell? ⟨gp, 1, none⟩ = some (.string ⟨#[]⟩) := Lib.cell_of_heap hN 1
  have fp : ∀ j, W.frozen? ⟨gp, j, none⟩ = false := fun j => by rw [World.frozen?, hN]; rfl
  go_region
  have hN2 := heap_setCell_same _ gp 1 _ 34 (.string v) (heap_setCell_same _ gp 0 _ 34 (.string k) hN)
  have hb2 : Below w.heap.size w ((W.setCell ⟨gp, 0, none⟩ (.string k)).setCell ⟨gp, 1, none⟩ (.string v)).drew := ((hb.setCell hgl _).setCell hgl _).drew
  have hN3 : ((W.setCell ⟨gp, 0, none⟩ (.string k)).setCell ⟨gp, 1, none⟩ (.string v)).drew.heap[gp]? = some (.cells #[.string k, .string v] 34) := hN2
  generalize ((W.setCell ⟨gp, 0, none⟩ (.string k)).setCell ⟨gp, 1, none⟩ (.string v)).drew = W2 at hb2 hN3 ⊢
  have q0 : W2.cell? ⟨gp, 0, none⟩ = some (.string k) := Lib.cell_of_heap hN3 0
  have q1 : W2.cell? ⟨gp, 1, none⟩ = some (.string v) := Lib.cell_of_heap hN3 1
  clear c4 c5 p0 p1 fp hN hN2 hN3
  go_wp2_with fail
  exact bodyPost_ret (v := .agg #[.string k, .string v]) (by simp [results, Tryz.results122, go_sem, q0, q1]) rfl ⟨rfl, hb2⟩
theorem goInto_none (lo hi : ByteArray) (w : World) : Calls Tryz.prog 119 #[.agg #[.string lo, .string hi], .pointer none] w fun e w' => e = .returned (.bool false) ∧ Below w.heap.size w w' := by
  have hb : Below w.heap.size w (w.alloc (.cells #[.string lo, .string hi] 109)) := (Below.refl _ _).alloc (Nat.le_refl _) _
  have hN := heap_alloc_new w (.cells #[.string lo, .string hi] 109)
  have n0 : (w.alloc (.cells #[.string lo, .string hi] 109)).cell? ⟨w.heap.size, 0, none⟩ = some (.string lo) := Lib.cell_of_heap hN 0
  have n1 : (w.alloc (.cells #[.string lo, .string hi] 109)).cell? ⟨w.heap.size, 1, none⟩ = some (.string hi) := Lib.cell_of_heap hN 1
  have q : ∀ w', (binOp .neq 161 (.pointer none) (.pointer none)).run Tryz.prog w' = .ok (.bool false) w' := fun w' => by
    have := ptr_eqlB none none w' (.inl rfl) (.inl rfl)
    simp only [binOp] at this ⊢
    cases hq : (Op.equal 161 (.pointer none) (.pointer none)).run Tryz.prog w' <;> simp_all
  clear hN
  go_enter Tryz.func119, Tryz.ntmps119
  go_wp2_with fail
  go_quiet (first | fail)
  go_wp2_with fail
  go_ret
  exact ⟨rfl, draws_below _ hb⟩
theorem goInto_some (lo hi : ByteArray) (b : Nat) (hash over under : ByteArray) (par : Option Addr) (w : World) (h : BR b hash over under par w) : Calls Tryz.prog 119 #[.agg #[.string lo, .string hi], .pointer (some ⟨b, 0, none⟩)] w fun e w' => e = .returned (.bool (canW over under lo hi)) ∧ Below w.heap.size w w' := by
  have hlt := (Array.getElem?_eq_some_iff.1 h).1
  have hA := (Below.heap_alloc w (.cells #[.string lo, .string hi] 109) b hlt).trans h
  have hN := heap_alloc_new w (.cells #[.string lo, .string hi] 109)
  have hb : Below w.heap.size w (w.alloc (.cells #[.string lo, .string hi] 109)) := (Below.refl _ _).alloc (Nat.le_refl _) _
  have hP : Ptr (some ⟨b, 0, none⟩) (w.alloc (.cells #[.string lo, .string hi] 109)) := .inr ⟨b, _, _, rfl, hA⟩
  have HC := fun w' => can_any lo hi over under par w'
  go_enter Tryz.func119, Tryz.ntmps119
  go_wp2_with fail
  generalize w.alloc (.cells #[.string lo, .string hi] 109) = W at hA hN hb hP ⊢
  obtain ⟨ga, hga⟩ : ∃ ga, w.heap.size = ga := ⟨_, rfl⟩
  rw [hga] at hN ⊢
  have c1 : W.cell? ⟨b, 1, none⟩ = some (.string over) := Lib.cell_of_heap hA 1
  have c2 : W.cell? ⟨b, 2, none⟩ = some (.string under) := Lib.cell_of_heap hA 2
  have c3 : W.cell? ⟨b, 3, none⟩ = some (.pointer par) := Lib.cell_of_heap hA 3
  have n0 : W.cell? ⟨ga, 0, none⟩ = some (.string lo) := Lib.cell_of_heap hN 0
  have n1 : W.cell? ⟨ga, 1, none⟩ = some (.string hi) := Lib.cell_of_heap hN 1
  have q : (binOp .neq 161 (.pointer (some ⟨b, 0, none⟩)) (.pointer none)).run Tryz.prog W = .ok (.bool true) W := by
    have := ptr_eqlB (some ⟨b, 0, none⟩) none W hP (.inl rfl)
    simp only [binOp] at this ⊢
    cases hq : (Op.equal 161 (.pointer (some ⟨b, 0, none⟩)) (.pointer none)).run Tryz.prog W <;> simp_all
  have q2 : (binOp .neq 161 (.pointer (some ⟨b, 0, none⟩)) (.pointer none)).run Tryz.prog W.drew = .ok (.bool true) W.drew := by
    have hP2 : Ptr (some ⟨b, 0, none⟩) W.drew := .inr ⟨b, _, _, rfl, hA⟩
    have := ptr_eqlB (some ⟨b, 0, none⟩) none W.drew hP2 (.inl rfl)
    simp only [binOp] at this ⊢
    cases hq : (Op.equal 161 (.pointer (some ⟨b, 0, none⟩)) (.pointer none)).run Tryz.prog W.drew <;> simp_all
  clear hP hga h
  go_region_held3 (fun W => W.cell? ⟨b, 1, none⟩ = some (.string over) ∧ W.cell? ⟨b, 2, none⟩ = some (.string under) ∧ W.cell? ⟨b, 3, none⟩ = some (.pointer par) ∧ W.cell? ⟨ga, 0, none⟩ = some (.string lo) ∧ W.cell? ⟨ga, 1, none⟩ = some (.string hi)) (first | exact ⟨c1, c2, c3, n0, n1⟩ | exact ⟨Lib.cell_of_heap hA2 1, Lib.cell_of_heap hA2 2, Lib.cell_of_heap hA2 3, Lib.cell_of_heap hN2 0, Lib.cell_of_heap hN2 1⟩) (first | (go_at_call 154; refine (HC _).mono ?_; rintro e w2 ⟨rfl, hb2⟩; have hA2 := (hb2.block b (Array.getElem?_eq_some_iff.1 hA).1).trans hA; have hN2 := (hb2.block ga (Array.getElem?_eq_some_iff.1 hN).1).trans hN))
  go_wp2_with fail
  go_ret
  exact ⟨rfl, hb.trans (((Below.refl W.heap.size W).drew.trans hb2).mono hb.size)⟩
end Go.Proofs.YtfmpjlpakldheaaGreatDoor
namespace Go.Proofs.YtfmpjlpakldheaaGreatDoor
open Go.RowKit Go.Proofs.Sha

/-- A row of pairs. -/
def Is53 (k : Nat) (w : World) : Prop := ∃ cur t, w.heap[k]? = some (.cells cur 34 t)
/-- What may have turned: the blocks of 'N', rows of pairs from 'base' on, and what is new. -/
structure Fr (base : Nat) (N : Nat → Prop) (w w' : World) : Prop where
  os : w'.os = w.os
  tape : w'.tape = w.tape
  output : w'.output = w.output
  size : w.heap.size ≤ w'.heap.size
  block : ∀ k, k < w.heap.size → ¬ N k → ¬ (base ≤ k ∧ Is53 k w) → w'.heap[k]? = w.heap[k]?
section
variable {base : Nat} {N N' : Nat → Prop} {w w' w1 w2 : World}
theorem Fr.refl (base : Nat) (N : Nat → Prop) (w : World) : Fr base N w w := ⟨rfl, rfl, rfl, Nat.le_refl _, fun _ _ _ _ => rfl⟩
theorem Fr.trans (h : Fr base N w w1) (k : Fr base N' w1 w2) (hN : ∀ q, q < w.heap.size → N' q → N q) : Fr base N w w2 := by
  refine ⟨k.os.trans h.os, k.tape.trans h.tape, k.output.trans h.output, Nat.le_trans h.size k.size, fun q hq h1 h2 => ?_⟩
  have e := h.block q hq h1 h2
  refine (k.block q (Nat.lt_of_lt_of_le hq h.size) (fun x => h1 (hN q hq x)) (fun x => h2 ⟨x.1, ?_⟩)).trans e
  obtain ⟨cur, t, hx⟩ := x.2
  exact ⟨cur, t, e.symm.trans hx⟩
theorem Fr.mono (h : Fr base N w w1) (hN : ∀ q, q < w.heap.size → N q → N' q) : Fr base N' w w1 := ⟨h.os, h.tape, h.output, h.size, fun q hq h1 h2 => h.block q hq (fun x => h1 (hN q hq x)) h2⟩
theorem Fr.of_below (h : Below w.heap.size w w1) : Fr base N w w1 := ⟨h.os, h.tape, h.output, h.size, fun q hq _ _ => h.block q hq⟩
theorem Fr.of_grown {v : Value} {m : Nat} {xs : List Value} (h : w.grownBy w1 v.ownBlock) (ho : w.ownsRow base 34 2 v m xs) : Fr base N w w1 :=
  ⟨h.os, h.tape, h.output, h.size, fun q hq _ h2 => h.block q hq (fun e => h2 (by obtain ⟨e1, _, cur, e3⟩ := own2_cells ho e.symm; exact ⟨e1, cur, _, e3⟩))⟩
theorem Fr.setCell (h : Fr base N w w1) (g o : Nat) (v : Value) (hg : N g ∨ w.heap.size ≤ g) : Fr base N w (w1.setCell ⟨g, o, none⟩ v) := by
  have hb : Below g w1 (w1.setCell ⟨g, o, none⟩ v) := Below.setCell (p := ⟨g, o, none⟩) (Below.refl g w1) (Nat.le_refl g) v
  refine ⟨hb.os.trans h.os, hb.tape.trans h.tape, hb.output.trans h.output, Nat.le_trans h.size hb.size, fun q hq h1 h2 => ?_⟩
  rw [Below.heap_setCell _ _ _ _ (by show q ≠ g; intro e; subst e; rcases hg with hg | hg; exact h1 hg; omega)]
  exact h.block q hq h1 h2
theorem Fr.keep {q : Nat} {cs : Array Value} {t : TypeId} {z : Nat × Nat} (h : Fr base N w w1) (hq : w.heap[q]? = some (.cells cs t z)) (h1 : ¬ N q) (ht : t ≠ 34 ∨ q < base) : w1.heap[q]? = some (.cells cs t z) := by
  refine (h.block q (Array.getElem?_eq_some_iff.1 hq).1 h1 ?_).trans hq
  rintro ⟨h2, cur, z', h3⟩
  rw [hq] at h3
  rcases ht with ht | ht
  · simp only [Option.some.injEq, Obj.cells.injEq] at h3
    exact ht h3.2.1
  · omega
end
/-- The list that is put together, in the variable that is captured. -/
structure LS (c base : Nat) (ps : List PairT) (a : Option Addr) (cap : Nat) (w : World) : Prop where
  blk : w.heap[c]? = some (.cells #[.slice a ps.length cap] 23)
  own : w.ownsRow base 34 2 (.slice a ps.length cap) ps.length (flatP ps)
  hb : base ≤ w.heap.size
theorem LS.below {c base : Nat} {ps : List PairT} {a : Option Addr} {cap : Nat} {w w' : World} (h : LS c base ps a cap w) (hb : Below w.heap.size w w') : LS c base ps a cap w' :=
  ⟨(hb.block c (Array.getElem?_eq_some_iff.1 h.blk).1).trans h.blk, own2_kept h.own (fun g _ hg => hb.block g hg), Nat.le_trans h.hb hb.size⟩
end Go.Proofs.YtfmpjlpakldheaaGreatDoor
