import Derived.Test.YtibjhkpgaaapaaaGreatDoorZvaw
import Derived.Test.YtibjhkpgaaapaaaGreatDoorZvas
import Derived.Test.YtibjhkpgaaapaaaGreatDoorZvax
import Derived.Test.YtibjhkpgaaapaaaGreatDoorZvak
import Derived.Test.YtibjhkpgaaapaaaGreatDoorZvat
import Derived.Test.YtibjhkpgaaapaaaGreatDoorZvan
import Derived.Test.YtibjhkpgaaapaaaGreatDoorZval
namespace Go.Proofs.YtibjhkpgaaapaaaGreatDoor
open Go.RowKit Go.Proofs.Sha

/-- A node of a tree in its block. -/
def TBk (b : Nat) (k v : ByteArray) (l r : Option Addr) (enc h : ByteArray) (w : World) : Prop := w.heap[b]? = some (.cells (treeL (sha k.data.toList) k v l r enc h).toArray 251)
/-- What rankOf's contract says, by itself. -/
def RankSaid (K : World → Prop) : Prop := ∀ (s : ByteArray) (w : World), s.size ≤ 1048576 → K w → Calls Tryz.prog 166 #[.string s] w fun e w' => e = .returned (.agg (rankL (sha s.data.toList) s).toArray) ∧ Below w.heap.size w w'

set_option maxRecDepth 100000 in
set_option maxHeartbeats 1000000 in
theorem single_any {K : World → Prop} (HR : Hid (RankSaid K)) (keep : Hid (∀ w1 w2, K w1 → Below w1.heap.size w1 w2 → K w2)) (k v : ByteArray) (w : World) (hk : k.size ≤ 1048576) (hK : K w) :
    Calls Tryz.prog 133 #[.agg #[.string k, .string v]] w fun e w' => ∃ b, e = .returned (.pointer (some ⟨b, 0, none⟩)) ∧ w.heap.size ≤ b ∧ TBk b k v none none ⟨#[]⟩ ⟨#[]⟩ w' ∧ Below w.heap.size w w' := by
  have hbA : Below w.heap.size w (w.alloc (.cells #[.string k, .string v] 81)) := (Below.refl _ _).alloc (Nat.le_refl _) _
  have nA := heap_alloc_new w (.cells #[.string k, .string v] 81)
  have HC : Hid (∀ w', Below w.heap.size w w' → Calls Tryz.prog 166 #[.string k] w' fun e w'' => e = .returned (.agg (rankL (sha k.data.toList) k).toArray) ∧ Below w'.heap.size w' w'') := fun w' hb => HR.out k w' hk (keep.out _ _ hK hb)
  unfold TBk
  obtain ⟨x0, x1, x2, x3, x4, x5, x6, x7, x8, x9, x10, x11, x12, x13, x14, x15, x16, x17, x18, x19, x20, x21, x22, x23, x24, x25, x26, x27, x28, x29, x30, x31, hX⟩ := list32 (sha k.data.toList) (sha_len _)
  rw [hX] at HC
  rw [hX]
  clear hX
  unfold treeL
  unfold rankL at HC ⊢
  simp only [List.map_cons, List.map_nil, List.cons_append, List.nil_append] at HC ⊢
  unfold B at HC ⊢
  obtain ⟨ga, hga⟩ : ∃ ga, w.heap.size = ga := ⟨_, rfl⟩
  rw [hga] at nA
  go_enter Tryz.func133, Tryz.ntmps133
  go_upto_region 1 with fail
  try rw [hga]
  generalize w.alloc (.cells #[.string k, .string v] 81) = wa at hbA nA ⊢
  have HS : Hid (∀ W : World, Below wa.heap.size wa W → W.cell? ⟨ga, 0, none⟩ = some (.string k) ∧ W.cell? ⟨ga, 1, none⟩ = some (.string v)) := fun W hW => by
    have e := (hW.block ga (Array.getElem?_eq_some_iff.1 nA).1).trans nA
    exact ⟨Lib.cell_of_heap e 0, Lib.cell_of_heap e 1⟩
  go_region_held3 (fun W => W.cell? ⟨ga, 0, none⟩ = some (.string k) ∧ W.cell? ⟨ga, 1, none⟩ = some (.string v)) (first | exact HS.out _ (Below.refl _ _) | exact HS.out _ (Below.refl _ _).drew | exact HS.out _ hb2 | exact HS.out _ (hb3 _)) (first | (go_at_call 166; refine (HC.out _ hbA.drew).mono ?_; rintro e w2 ⟨rfl, hb2'⟩; have hb2 : Below wa.heap.size wa w2 := (Below.refl wa.heap.size wa).drew.trans hb2'; have hb3 : ∀ o : Obj, Below wa.heap.size wa (w2.alloc o) := fun o => hb2.alloc hb2.size o; clear hb2'))
  have nT := heap_alloc_new w2 (.cells #[.string k, .string v, .int .u8 (x0.toNat : Int), .int .u8 (x1.toNat : Int), .int .u8 (x2.toNat : Int), .int .u8 (x3.toNat : Int), .int .u8 (x4.toNat : Int), .int .u8 (x5.toNat : Int), .int .u8 (x6.toNat : Int), .int .u8 (x7.toNat : Int), .int .u8 (x8.toNat : Int), .int .u8 (x9.toNat : Int), .int .u8 (x10.toNat : Int), .int .u8 (x11.toNat : Int), .int .u8 (x12.toNat : Int), .int .u8 (x13.toNat : Int), .int .u8 (x14.toNat : Int), .int .u8 (x15.toNat : Int), .int .u8 (x16.toNat : Int), .int .u8 (x17.toNat : Int), .int .u8 (x18.toNat : Int), .int .u8 (x19.toNat : Int), .int .u8 (x20.toNat : Int), .int .u8 (x21.toNat : Int), .int .u8 (x22.toNat : Int), .int .u8 (x23.toNat : Int), .int .u8 (x24.toNat : Int), .int .u8 (x25.toNat : Int), .int .u8 (x26.toNat : Int), .int .u8 (x27.toNat : Int), .int .u8 (x28.toNat : Int), .int .u8 (x29.toNat : Int), .int .u8 (x30.toNat : Int), .int .u8 (x31.toNat : Int), .string k, .pointer none, .pointer none, .string ⟨#[]⟩, .string ⟨#[]⟩] 251)
  have hbT : Below w.heap.size w w2 := hbA.trans (hb2.mono hbA.size)
  have hle := hbT.size
  go_wp2_with fail
  go_ret
  rw [hga] at hbT hle
  exact ⟨w2.heap.size, rfl, hle, nT, hbT.alloc hle _⟩
end Go.Proofs.YtibjhkpgaaapaaaGreatDoor
namespace Go.Proofs.YtibjhkpgaaapaaaGreatDoor
open Go.RowKit Go.Proofs.Sha

theorem below_draws {B : Nat} {a w : World} (n : Nat) (h : Below B a w) : Below B a (w.drewN n) := ⟨h.os, h.tape, h.output, h.size, h.block⟩

set_option maxRecDepth 100000 in
set_option maxHeartbeats 1000000 in
theorem mapOk_any (a : Option Addr) (ps : List PairT) (c : Nat) (w : World) (h : PArg a ps w) :
    Calls Tryz.prog 68 #[.slice a ps.length c] w fun e w' => e = .returned (.bool (isMapT ps)) ∧ Below w.heap.size w w' := by
  have hn := h.le
  obtain ⟨n, hnn⟩ : ∃ n, ps.length = n := ⟨_, rfl⟩
  obtain ⟨B, hB⟩ : ∃ B, isMapT ps = B := ⟨_, rfl⟩
  rw [hB, hnn]
  rw [hnn] at hn
  by_cases hx : 500 < n
  · have hf : Hid (B = false) := by show B = false; rw [← hB]; unfold isMapT; rw [decide_eq_false (by omega), Bool.false_and]
    have z1 : decide ((500 : Int) < (n : Int)) = true := by rw [decide_eq_true_eq]; omega
    have z2 : decide ((n : Int) > 500) = true := by rw [decide_eq_true_eq]; omega
    clear hB
    go_enter Tryz.func68, Tryz.ntmps68
    go_wp2_with fail
    go_ret
    exact ⟨by rw [hf.out]; rfl, Below.refl _ _⟩
  · have hBm : Hid (B = mapTo ps n) := by show B = _; rw [← hB]; unfold isMapT; rw [decide_eq_true (by omega), Bool.true_and, hnn]
    have z1 : decide ((500 : Int) < (n : Int)) = false := by rw [decide_eq_false_iff_not]; omega
    have z2 : decide ((n : Int) > 500) = false := by rw [decide_eq_false_iff_not]; omega
    have hnl : Hid (ps.length = n) := hnn
    clear hB hnn
    go_enter Tryz.func68, Tryz.ntmps68
    go_wp2_with fail
    go_loopw [3] (fun t3 wr => ∃ k : Nat, k ≤ n ∧ t3 = .int .i64 (k : Int) ∧ Hid (mapTo ps k = true) ∧ Below w.heap.size w wr) (fun t3 _ => n - (intOf t3).toNat)
    case atStart => exact ⟨0, Nat.zero_le _, rfl, rfl, Below.refl _ _⟩
    case round =>
      obtain ⟨k, hk, rfl, hm, hbw⟩ := hrel
      by_cases hlt : k < n
      · have z3 : decide ((k : Int) < (n : Int)) = true := by simp; omega
        have hx0 : (0 : Int) ≤ (k : Int) := Int.natCast_nonneg _
        have hx1 : (k : Int) < (n : Int) := by omega
        obtain ⟨b, off, rfl, hbl, hc⟩ := (h.below hbw).at_ (by rw [hnl.out]; omega)
        obtain ⟨hc1, hc2⟩ := hc k (by rw [hnl.out]; exact hlt)
        have hgd : Hid (goodAt ps k = (okKey (ps.getD k noPair).1 && (okVal (ps.getD k noPair).2 && Op.bytesLess (lastK ps k).toList (ps.getD k noPair).1.toList))) := rfl
        obtain ⟨hs1, hs2⟩ := h.sz k
        have hkn : ∀ pk : ByteArray, okKey pk = true → Op.bytesLess (⟨#[]⟩ : ByteArray).toList pk.toList = true := fun pk hok => by
          unfold okKey at hok
          rw [decide_eq_true_eq] at hok
          have : pk.toList ≠ [] := fun e => by
            have hl := congrArg List.length e
            rw [ByteArray.toList_eq] at hl
            have h0 : pk.data.toList.length = pk.size := rfl
            have h1 : pk.size = 0 := h0.symm.trans hl
            omega
          have e0 : (⟨#[]⟩ : ByteArray).toList = [] := by rw [ByteArray.toList_eq]
          rw [e0]
          cases hp : pk.toList with
          | nil => exact absurd hp this
          | cons x y => rfl
        generalize hpk : (ps.getD k noPair).1 = pk at hc1 hgd hs1
        generalize (ps.getD k noPair).2 = pv at hc2 hgd hs2
        have H1 : ∀ w', Calls Tryz.prog 125 #[.string pk, .string pv] w' fun e w'' => e = .returned (.bool (okKey pk && okVal pv)) ∧ w'' = w' := fun w' => pairOk_q pk pv w' hs1 hs2
        cases hk1 : (okKey pk && okVal pv) with
        | false =>
          rw [hk1] at H1
          have hbf : Hid (B = false) := by
            show B = false
            rw [hBm.out]
            exact mapTo_false ps k n hlt (by rw [hgd.out, ← Bool.and_assoc, hk1, Bool.false_and])
          replace H1 : Hid _ := H1
          clear hk1 hgd hm hBm hc hkn hpk
          go_upto_region 6 with fail
          go_quiet ((go_at_call 125; exact Calls.quiet_of_same (H1.out _)))
          go_wp2_with fail
          go_ret
          exact ⟨by rw [hbf.out]; rfl, below_draws nq hbw⟩
        | true =>
          rw [hk1] at H1
          have hok : okKey pk = true := by cases hq : okKey pk with
            | true => rfl
            | false => rw [hq, Bool.false_and] at hk1; cases hk1
          have hg2 : Hid (goodAt ps k = Op.bytesLess (lastK ps k).toList pk.toList) := by show _ = _; rw [hgd.out, ← Bool.and_assoc, hk1, Bool.true_and]
          replace H1 : Hid _ := H1
          by_cases hk0 : k = 0
          · have hm' : Hid (mapTo ps (k + 1) = true) := by
              show _ = _
              rw [mapTo, hm.out, hg2.out, Bool.true_and]
              subst hk0
              exact hkn pk hok
            have y0 : ¬ (0 < (k : Int)) := by omega
            have y1 : decide (0 < (k : Int)) = false := by rw [decide_eq_false_iff_not]; exact y0
            have y2 : ¬ (0 < k) := by omega
            have y3 : decide (0 < k) = false := by rw [decide_eq_false_iff_not]; exact y2
            clear hk1 hgd hm hBm hc hkn hpk hg2 hk0 hok
            go_upto_region 6 with fail
            go_quiet ((go_at_call 125; exact Calls.quiet_of_same (H1.out _)))
            go_wp2_with fail
            go_roundw
            case rel => exact ⟨k + 1, hlt, by go_num, hm', below_draws nq hbw⟩
            case measure => simp [intOf]; omega
          · have y0 : 0 < (k : Int) := by omega
            have y1 : decide (0 < (k : Int)) = true := by rw [decide_eq_true_eq]; exact y0
            have y2 : 0 < k := by omega
            have y3 : decide (0 < k) = true := by rw [decide_eq_true_eq]; exact y2
            obtain ⟨hc3, hc4⟩ := hc (k - 1) (by rw [hnl.out]; omega)
            obtain ⟨hs3, hs4⟩ := h.sz (k - 1)
            have hlk : lastK ps k = (ps.getD (k - 1) noPair).1 := by cases k with | zero => exact absurd rfl hk0 | succ k' => rfl
            rw [hlk] at hg2
            generalize (ps.getD (k - 1) noPair).1 = pl at hc3 hs3 hg2
            have H2 : ∀ w', Calls Tryz.prog 85 #[.string pl, .string pk] w' fun e w'' => e = .returned (.bool (Op.bytesLess pl.toList pk.toList)) ∧ ∃ m, w'' = w'.drewN m := fun w' => by
              rw [ByteArray.toList_eq, ByteArray.toList_eq]
              exact less_q pl pk w' hs3 hs1
            have x0 : (0 : Int) ≤ (k : Int) - 1 := by omega
            have x1 : (k : Int) - 1 < (n : Int) := by omega
            have x2 : ((k : Int) - 1).toNat = k - 1 := by omega
            have x3 : wrap64 ((k : Int) - 1) = (k : Int) - 1 := by unfold wrap64; omega
            cases hlt2 : Op.bytesLess pl.toList pk.toList with
            | false =>
              rw [hlt2] at H2 hg2
              have hbf : Hid (B = false) := by
                show B = false
                rw [hBm.out]
                exact mapTo_false ps k n hlt hg2.out
              replace H2 : Hid _ := H2
              clear hk1 hgd hm hBm hc hkn hpk hg2 hk0 hok hlt2 hlk hc4 hs4
              go_upto_region 6 with fail
              go_quiet (first | (go_at_call 125; exact Calls.quiet_of_same (H1.out _)) | (go_at_call 85; exact Calls.quiet_of (H2.out _)))
              go_wp2_with fail
              go_ret
              exact ⟨by rw [hbf.out]; rfl, below_draws nq hbw⟩
            | true =>
              rw [hlt2] at H2 hg2
              have hm' : Hid (mapTo ps (k + 1) = true) := by
                show _ = _
                rw [mapTo, hm.out, hg2.out]; rfl
              replace H2 : Hid _ := H2
              clear hk1 hgd hm hBm hc hkn hpk hg2 hk0 hok hlt2 hlk hc4 hs4
              go_upto_region 6 with fail
              go_quiet (first | (go_at_call 125; exact Calls.quiet_of_same (H1.out _)) | (go_at_call 85; exact Calls.quiet_of (H2.out _)))
              go_wp2_with fail
              go_roundw
              case rel => exact ⟨k + 1, hlt, by go_num, hm', below_draws nq hbw⟩
              case measure => simp [intOf]; omega
      · obtain rfl : k = n := by omega
        have z3 : decide ((k : Int) < (k : Int)) = false := by simp
        have hbt : Hid (B = true) := by show B = true; rw [hBm.out, hm.out]
        clear hBm hm
        go_wp2_with fail
        go_ret
        exact ⟨by rw [hbt.out]; rfl, hbw⟩
end Go.Proofs.YtibjhkpgaaapaaaGreatDoor
namespace Go.Proofs.YtibjhkpgaaapaaaGreatDoor
open Go.RowKit Go.Proofs.Sha

def keyAt (ps : List PairT) (k : Nat) : ByteArray := (ps.getD k noPair).1
def shaB (s : ByteArray) : ByteArray := ⟨(sha s.data.toList).toArray⟩
theorem shaB_size (s : ByteArray) : (shaB s).size = 32 := by
  show (sha s.data.toList).toArray.size = 32
  rw [List.size_toArray, sha_len]
/-- 'a' beats 'b'. -/
def beats (x y a b : ByteArray) : Bool := Op.bytesLess y.data.toList x.data.toList || ((x.toList == y.toList) && Op.bytesLess a.data.toList b.data.toList)
/-- The place of the highest of the first 'k + 1'. -/
def topTo (ps : List PairT) : Nat → Nat
  | 0 => 0
  | k + 1 => if beats (shaB (keyAt ps (k + 1))) (shaB (keyAt ps (topTo ps k))) (keyAt ps (k + 1)) (keyAt ps (topTo ps k)) = true then k + 1 else topTo ps k
theorem topTo_le (ps : List PairT) : ∀ k, topTo ps k ≤ k
  | 0 => Nat.le_refl _
  | k + 1 => by
    rw [topTo]
    split
    · exact Nat.le_refl _
    · exact Nat.le_succ_of_le (topTo_le ps k)

set_option maxRecDepth 100000 in
set_option maxHeartbeats 3000000 in
theorem top_any (a : Option Addr) (ps : List PairT) (c : Nat) (w : World) (h : PArg a ps w) (h0 : 0 < ps.length) :
    Calls Tryz.prog 126 #[.slice a ps.length c] w fun e w' => e = .returned (.int .i64 (topTo ps (ps.length - 1) : Int)) ∧ Below w.heap.size w w' := by
  have hn := h.le
  have HW : ∀ w', Below w.heap.size w w' → PArg a ps w' := fun w' hb => h.below hb
  obtain ⟨b, off, rfl, hbl, hc⟩ := h.at_ h0
  have HC : ∀ w', Below w.heap.size w w' → ∀ j, j < ps.length → w'.cell? ⟨b, off + j * 2, none⟩ = some (.string (keyAt ps j)) := fun w' hb j hj => (hb.cell (p := ⟨b, off + j * 2, none⟩) hbl).trans (hc j hj).1
  obtain ⟨n, hnn⟩ : ∃ n, ps.length = n := ⟨_, rfl⟩
  rw [hnn]
  rw [hnn] at hn h0
  have HS : ∀ j, (keyAt ps j).size ≤ 1048576 := fun j => (h.sz j).1
  replace HW : Hid _ := HW
  replace HS : Hid _ := HS
  rw [hnn] at HC
  replace HC : Hid _ := HC
  have hnl : Hid (ps.length = n) := hnn
  have hc0 : w.cell? ⟨b, off + 0 * 2, none⟩ = some (.string (keyAt ps 0)) := HC.out w (Below.refl _ _) 0 h0
  have hc0' : w.cell? ⟨b, off, none⟩ = some (.string (keyAt ps 0)) := hc0
  have y0 : (0 : Int) < (n : Int) := by omega
  have H0 := fun w' => spec_any (keyAt ps 0) w' (HS.out 0)
  have hX0 : Hid ((⟨(sha (keyAt ps 0).data.toList).toArray⟩ : ByteArray) = shaB (keyAt ps 0)) := rfl
  generalize (⟨(sha (keyAt ps 0).data.toList).toArray⟩ : ByteArray) = X0 at H0 hX0
  replace H0 : Hid _ := H0
  clear hnn hc h hc0
  generalize hk0 : keyAt ps 0 = k0 at hc0' H0
  have hk0' : Hid (keyAt ps 0 = k0) := hk0
  clear hk0
  go_enter Tryz.func126, Tryz.ntmps126
  go_wp2_with (go_at_call 64; refine (H0.out _).mono ?_)
  rintro _ w1 ⟨rfl, hb1⟩
  go_wp2_with fail
  go_loopw [3, 4, 5] (fun t3 t4 t5 wr => ∃ k T j : Nat, Hid (topTo ps k = T) ∧ Hid (j = k + 1) ∧ T ≤ k ∧ k < n ∧ t3 = .int .i64 (T : Int) ∧ t4 = .string (shaB (keyAt ps T)) ∧ t5 = .int .i64 (j : Int) ∧ Below w.heap.size w wr) (fun _ _ t5 _ => n - (intOf t5).toNat)
  case atStart => exact ⟨0, 0, 1, rfl, rfl, Nat.le_refl _, h0, rfl, by rw [← hX0.out], rfl, hb1⟩
  case round =>
    obtain ⟨k, T, j, hT, hj, hTk, hk, rfl, rfl, rfl, hbw⟩ := hrel
    by_cases hlt : j < n
    · have z3 : decide ((j : Int) < (n : Int)) = true := by simp; omega
      have z4 : decide (j < n) = true := by rw [decide_eq_true_eq]; exact hlt
      have z0 : (0 : Int) ≤ (j : Int) := Int.natCast_nonneg _
      have z1 : (j : Int) < (n : Int) := by omega
      have q0 : (0 : Int) ≤ (T : Int) := Int.natCast_nonneg _
      have q1 : (T : Int) < (n : Int) := by omega
      have hc1 := HC.out wr hbw j hlt
      have H1 := fun w' => spec_any (keyAt ps j) w' (HS.out j)
      have hX : Hid ((⟨(sha (keyAt ps j).data.toList).toArray⟩ : ByteArray) = shaB (keyAt ps j)) := rfl
      rw [hX.out] at H1
      have hxs := shaB_size (keyAt ps j)
      have hys := shaB_size (keyAt ps T)
      have hks := HS.out j
      have hls := HS.out T
      have hst : Hid (topTo ps j = if beats (shaB (keyAt ps j)) (shaB (keyAt ps T)) (keyAt ps j) (keyAt ps T) = true then j else T) := by
        show _ = _
        rw [hj.out, topTo, hT.out]
      have HD : ∀ w', Below w.heap.size w w' → w'.cell? ⟨b, off + j * 2, none⟩ = some (.string (keyAt ps j)) ∧ w'.cell? ⟨b, off + T * 2, none⟩ = some (.string (keyAt ps T)) := fun w' hb => ⟨HC.out w' hb j hlt, HC.out w' hb T (by omega)⟩
      obtain ⟨x, hx⟩ : ∃ x, shaB (keyAt ps j) = x := ⟨_, rfl⟩
      obtain ⟨y, hy⟩ : ∃ y, shaB (keyAt ps T) = y := ⟨_, rfl⟩
      obtain ⟨kj, hkj⟩ : ∃ x, keyAt ps j = x := ⟨_, rfl⟩
      obtain ⟨kt, hkt⟩ : ∃ x, keyAt ps T = x := ⟨_, rfl⟩
      rw [hx, hy, hkj, hkt] at hst
      rw [hy]
      rw [hx] at hxs
      rw [hy] at hys
      rw [hkj] at hks
      rw [hkt] at hls
      rw [hkj, hkt] at HD
      rw [hkj] at hc1
      rw [hx, hkj] at H1
      have hxx : Hid (shaB (keyAt ps j) = x) := hx
      have hyy : Hid (shaB (keyAt ps T) = y) := hy
      have hxl : x.size ≤ 1048576 := by omega
      have hyl : y.size ≤ 1048576 := by omega
      replace HD : Hid _ := HD
      replace H1 : Hid _ := H1
      have H2 := fun w' => less_q y x w' hyl hxl
      have H3 := fun w' => less_q kj kt w' hks hls
      clear hx hy hkj hkt hxs hys hxl hyl hX
      go_upto_region 7 with (go_at_call 64; refine (H1.out _).mono ?_)
      rintro _ w2 ⟨rfl, hb2⟩
      have hbw2 : Below w.heap.size w w2 := hbw.trans (hb2.mono hbw.size)
      obtain ⟨hd1, hd2⟩ := HD.out w2 hbw2
      clear hb2 hbw hc1
      have hTj : T ≤ j := by have := hj.out; omega
      go_upto_region 7 with fail
      cases v1 : Op.bytesLess y.data.toList x.data.toList with
      | true =>
        rw [v1] at H2
        have hbt : Hid (beats x y kj kt = true) := by show _ = _; unfold beats; rw [v1, Bool.true_or]
        replace H2 : Hid _ := H2
        replace H3 : Hid _ := H3
        clear v1
        go_quiet (first | (go_at_call_of 85 (Value.string y); exact Calls.quiet_of (H2.out _)) | (go_at_call_of 85 (Value.string kj); exact Calls.quiet_of (H3.out _)))
        go_wp2_with fail
        go_roundw
        case rel => exact ⟨j, j, j + 1, by show _ = _; rw [hst.out, hbt.out]; rfl, rfl, Nat.le_refl _, hlt, rfl, by rw [hxx.out], by go_num, below_draws nq hbw2⟩
        case measure => simp [intOf]; omega
      | false =>
        rw [v1] at H2
        replace H2 : Hid _ := H2
        cases v2 : (x.toList == y.toList) with
        | false =>
          have hbt : Hid (beats x y kj kt = false) := by show _ = _; unfold beats; rw [v1, v2]; rfl
          replace H3 : Hid _ := H3
          clear v1
          go_quiet (first | (go_at_call_of 85 (Value.string y); exact Calls.quiet_of (H2.out _)) | (go_at_call_of 85 (Value.string kj); exact Calls.quiet_of (H3.out _)))
          go_wp2_with fail
          go_roundw
          case rel => exact ⟨j, T, j + 1, by show _ = _; rw [hst.out, hbt.out]; rfl, rfl, hTj, hlt, rfl, by rw [hyy.out], by go_num, below_draws nq hbw2⟩
          case measure => simp [intOf]; omega
        | true =>
          have hb3 : Hid (beats x y kj kt = Op.bytesLess kj.data.toList kt.data.toList) := by show _ = _; unfold beats; rw [v1, v2]; rfl
          clear v1
          cases v3 : Op.bytesLess kj.data.toList kt.data.toList with
          | true =>
            rw [v3] at H3 hb3
            replace H3 : Hid _ := H3
            clear v3
            go_quiet (first | (go_at_call_of 85 (Value.string y); exact Calls.quiet_of (H2.out _)) | (go_at_call_of 85 (Value.string kj); exact Calls.quiet_of (H3.out _)))
            go_wp2_with fail
            go_roundw
            case rel => exact ⟨j, j, j + 1, by show _ = _; rw [hst.out, hb3.out]; rfl, rfl, Nat.le_refl _, hlt, rfl, by rw [hxx.out], by go_num, below_draws nq hbw2⟩
            case measure => simp [intOf]; omega
          | false =>
            rw [v3] at H3 hb3
            replace H3 : Hid _ := H3
            clear v3
            go_quiet (first | (go_at_call_of 85 (Value.string y); exact Calls.quiet_of (H2.out _)) | (go_at_call_of 85 (Value.string kj); exact Calls.quiet_of (H3.out _)))
            go_wp2_with fail
            go_roundw
            case rel => exact ⟨j, T, j + 1, by show _ = _; rw [hst.out, hb3.out]; rfl, rfl, hTj, hlt, rfl, by rw [hyy.out], by go_num, below_draws nq hbw2⟩
            case measure => simp [intOf]; omega
    · have z3 : decide ((j : Int) < (n : Int)) = false := by simp; omega
      have hjn : n - 1 = k := by have := hj.out; omega
      have hTn : Hid (topTo ps (n - 1) = T) := by show _ = _; rw [hjn]; exact hT.out
      clear hjn hT hj
      go_wp2_with fail
      go_ret
      exact ⟨by rw [hTn.out]; rfl, hbw⟩
end Go.Proofs.YtibjhkpgaaapaaaGreatDoor
namespace Go.Proofs.YtibjhkpgaaapaaaGreatDoor
open Go.RowKit Go.Proofs.Sha

theorem less_irr (a : List UInt8) : Op.bytesLess a a = false := by
  induction a with
  | nil => rfl
  | cons x y ih => rw [Op.bytesLess]; simp [ih]
theorem beats_rk (x y a b : ByteArray) : beats x y a b = rk x.data.toList y.data.toList a.data.toList b.data.toList := by
  unfold beats rk
  rw [ByteArray.toList_eq, ByteArray.toList_eq]
  by_cases h : x.data.toList = y.data.toList
  · rw [if_pos h, h, less_irr, Bool.false_or, beq_self_eq_true, Bool.true_and]
  · rw [if_neg h, beq_eq_false_iff_ne.2 h, Bool.false_and, Bool.or_false]
end Go.Proofs.YtibjhkpgaaapaaaGreatDoor
