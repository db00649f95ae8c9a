import Derived.Test.YtngnbflkiiehmaaGreatDoorZd
namespace Go.Proofs.YtngnbflkiiehmaaGreatDoor
open Go.RowKit Go.Proofs.Sha

theorem ch_form2 (e f g : UInt32) : bits BinOp.xor IntKind.u32 (bits BinOp.and IntKind.u32 (e.toNat : Int) (f.toNat : Int)) (bits BinOp.and IntKind.u32 (bits BinOp.xor IntKind.u32 IntKind.u32.max (e.toNat : Int)) (g.toNat : Int)) = ((ch e f g).toNat : Int) := ch_form e f g
theorem size41 : (Tryz.prog.info? 99).map (·.size) = some 8 := by kernel_rfl
theorem size24 : (Tryz.prog.info? 77).map (·.size) = some 1 := by kernel_rfl

set_option maxRecDepth 100000 in
set_option maxHeartbeats 1600000 in
theorem mix_any (b : Nat) (x0 x1 x2 x3 x4 x5 x6 x7 : UInt32) (kb : List UInt8) (held size : Nat) (w : World) (H : Hsh w b [x0, x1, x2, x3, x4, x5, x6, x7] kb held size) (_hb0 : b ≠ 0)
    (hK : ∀ j, j < 64 → w.cell? ⟨0, j, none⟩ = some (.int .u32 ((kTab.getD j 0).toNat : Int))) :
    Calls Tryz.prog 58 #[.pointer (some ⟨b, 0, none⟩)] w fun e w' => e = .returned (.tuple #[]) ∧ Hsh w' b (comp [x0, x1, x2, x3, x4, x5, x6, x7] kb) kb 0 size ∧ w.grownBy w' (some b) := by
  have hbl := H.lt
  have hl0 : 0 < w.heap.size := by omega
  have hWl := sched_length kb 64
  have h1c : ∀ v ∈ (sched kb 64).map U, v.oneCell' = true := by
    intro v hv
    obtain ⟨x, _, rfl⟩ := List.mem_map.1 hv
    rfl
  have hsa := isched_any b [x0, x1, x2, x3, x4, x5, x6, x7] kb held size w H
  obtain ⟨W, hW⟩ : ∃ W, sched kb 64 = W := ⟨_, rfl⟩
  rw [hW] at hWl h1c hsa
  have HW : Hid (∀ N, N = 64 → sched kb N = W) := fun N hN => by rw [hN]; exact hW
  clear hW
  have hLW : (W.map U).length = 64 := by rw [List.length_map, hWl]
  obtain ⟨L, hL⟩ : ∃ L, W.map U = L := ⟨_, rfl⟩
  have HL : Hid (W.map U = L) := hL
  rw [hL] at hLW h1c hsa
  clear hL
  go_enter Tryz.func58, Tryz.ntmps58
  go_wp2_with fail
  refine hsa.mono ?_
  rintro e w1 ⟨rfl, hb1⟩
  clear hsa
  have hs1 := hb1.size
  go_wp2_with (first | (refine wpList_alloc_row _ rfl (some 2) rfl 104 104 rfl (zeros32.map U) alloc46 ?_; intro g2 w2 hr2 hb2) | (refine wpList_store_whole _ rfl rfl 104 (.tmp 2) (.tmp 21) rfl w1.heap.size g2 64 (zeros32.map U) L rfl rfl hr2 hLW size46 h1c ?_; intro w3 hr3 hg3))
  have hg2l := hr2.ge
  have hg2g := hr2.lt
  have hs2 := hb2.size
  have hs3 := hg3.size
  have H3 : Hsh w3 b [x0, x1, x2, x3, x4, x5, x6, x7] kb held size := ((H.below hb1).below hb2).kept hg3 (by simp; omega)
  have hB3 : Below w.heap.size w w3 := (hb1.trans (hb2.mono hs1)).trans (below_of_grown hg3 (by omega) (by omega))
  have hK3 : ∀ j, j < 64 → w3.cell? ⟨0, j, none⟩ = some (.int .u32 ((kTab.getD j 0).toNat : Int)) := fun j hj => (hB3.cell (by exact hl0)).trans (hK j hj)
  have hC3 : ∀ j, j < 64 → w3.cell? ⟨g2, j, none⟩ = some (.int .u32 ((W.getD j 0).toNat : Int)) := by rw [← HL.out] at hr3; exact fun j hj => row_u hr3 j hj
  have HK : Hid (∀ j, j < 64 → w3.cell? ⟨0, j, none⟩ = some (.int .u32 ((kTab.getD j 0).toNat : Int))) := hK3
  have HC : Hid (∀ j, j < 64 → w3.cell? ⟨g2, j, none⟩ = some (.int .u32 ((W.getD j 0).toNat : Int))) := hC3
  have c0 : w3.cell? ⟨b, 0, none⟩ = some (.int .u32 (x0.toNat : Int)) := H3.hs 0 (by omega)
  have c1 : w3.cell? ⟨b, 1, none⟩ = some (.int .u32 (x1.toNat : Int)) := H3.hs 1 (by omega)
  have c2 : w3.cell? ⟨b, 2, none⟩ = some (.int .u32 (x2.toNat : Int)) := H3.hs 2 (by omega)
  have c3 : w3.cell? ⟨b, 3, none⟩ = some (.int .u32 (x3.toNat : Int)) := H3.hs 3 (by omega)
  have c4 : w3.cell? ⟨b, 4, none⟩ = some (.int .u32 (x4.toNat : Int)) := H3.hs 4 (by omega)
  have c5 : w3.cell? ⟨b, 5, none⟩ = some (.int .u32 (x5.toNat : Int)) := H3.hs 5 (by omega)
  have c6 : w3.cell? ⟨b, 6, none⟩ = some (.int .u32 (x6.toNat : Int)) := H3.hs 6 (by omega)
  have c7 : w3.cell? ⟨b, 7, none⟩ = some (.int .u32 (x7.toNat : Int)) := H3.hs 7 (by omega)
  have hl3 : g2 < w3.heap.size := by omega
  have hl30 : 0 < w3.heap.size := by omega
  clear hK hK3 hC3 hr2 hr3 hg3 hb2 hb1 h1c hLW HL H
  go_region_held3 (fun w' => w'.cell? ⟨b, 0, none⟩ = some (.int .u32 (x0.toNat : Int)) ∧ w'.cell? ⟨b, 1, none⟩ = some (.int .u32 (x1.toNat : Int)) ∧ w'.cell? ⟨b, 2, none⟩ = some (.int .u32 (x2.toNat : Int)) ∧ w'.cell? ⟨b, 3, none⟩ = some (.int .u32 (x3.toNat : Int))) (exact ⟨c0, c1, c2, c3⟩) (fail)
  go_wp2_with fail
  go_region_held3 (fun w' => w'.cell? ⟨b, 4, none⟩ = some (.int .u32 (x4.toNat : Int)) ∧ w'.cell? ⟨b, 5, none⟩ = some (.int .u32 (x5.toNat : Int)) ∧ w'.cell? ⟨b, 6, none⟩ = some (.int .u32 (x6.toNat : Int)) ∧ w'.cell? ⟨b, 7, none⟩ = some (.int .u32 (x7.toNat : Int))) (exact ⟨c4, c5, c6, c7⟩) (fail)
  go_wp2_with fail
  go_loopw [3, 4, 5, 6, 7, 8, 9, 10, 11] (fun ta tb tc td te tf tg tz i wr => ∃ (k : Nat) (va vb vc vd ve vf vg vz : UInt32), k ≤ 64 ∧ i = .int .i64 k ∧ Hid (rnds W ⟨x0, x1, x2, x3, x4, x5, x6, x7⟩ k = ⟨va, vb, vc, vd, ve, vf, vg, vz⟩) ∧ ta = .int .u32 (va.toNat : Int) ∧ tb = .int .u32 (vb.toNat : Int) ∧ tc = .int .u32 (vc.toNat : Int) ∧ td = .int .u32 (vd.toNat : Int) ∧ te = .int .u32 (ve.toNat : Int) ∧ tf = .int .u32 (vf.toNat : Int) ∧ tg = .int .u32 (vg.toNat : Int) ∧ tz = .int .u32 (vz.toNat : Int) ∧ Below w3.heap.size w3 wr) (fun _ _ _ _ _ _ _ _ i _ => 64 - (intOf i).toNat)
  case atStart => exact ⟨0, x0, x1, x2, x3, x4, x5, x6, x7, Nat.zero_le _, rfl, rfl, rfl, rfl, rfl, rfl, rfl, rfl, rfl, rfl, (Below.refl _ _).drew.drew⟩
  case round =>
    obtain ⟨k, va, vb, vc, vd, ve, vf, vg, vz, hk, rfl, HST, rfl, rfl, rfl, rfl, rfl, rfl, rfl, rfl, hb2⟩ := hrel
    by_cases hlt : k < 64
    · obtain ⟨kk, hkk⟩ : ∃ x, kTab.getD k 0 = x := ⟨_, rfl⟩
      obtain ⟨ww, hww⟩ : ∃ x, W.getD k 0 = x := ⟨_, rfl⟩
      have ck : wr.cell? ⟨0, k, none⟩ = some (.int .u32 (kk.toNat : Int)) := by rw [← hkk]; exact (hb2.cell hl30).trans (HK.out k hlt)
      have cw : wr.cell? ⟨g2, k, none⟩ = some (.int .u32 (ww.toNat : Int)) := by rw [← hww]; exact (hb2.cell hl3).trans (HC.out k hlt)
      have HKW : Hid (kTab.getD k 0 = kk ∧ W.getD k 0 = ww) := ⟨hkk, hww⟩
      clear hkk hww
      have q0 : (0 : Int) ≤ (k : Int) := by omega
      have q1 : (k : Int) < 64 := by omega
      go_wp2_with (go_at_call 62; refine (rot_any _ _ (by omega) (by omega) _).mono ?_; rintro e w' ⟨rfl, rfl⟩)
      rw [sumE_form, sumA_form, ch_form2, maj_form]
      go_region_held3 (fun w' => w'.cell? ⟨0, k, none⟩ = some (.int .u32 (kk.toNat : Int)) ∧ w'.cell? ⟨g2, k, none⟩ = some (.int .u32 (ww.toNat : Int))) (exact ⟨ck, cw⟩) (fail)
      go_wp2
      go_roundw
      case rel =>
        have HR := rnds_succ W _ k kk ww _ HST.out HKW.out
        simp only [u_add]
        exact ⟨k + 1, _, _, _, _, _, _, _, _, by omega, by go_num, HR, rfl, rfl, rfl, rfl, rfl, rfl, rfl, rfl, by first | exact hb2.drew | exact hb2⟩
      case measure => simp [intOf]; omega
    · obtain rfl : k = 64 := by omega
      obtain ⟨w4, rfl⟩ : ∃ w4, w4 = wr := ⟨_, rfl⟩
      have H4 : Hsh w4 b [x0, x1, x2, x3, x4, x5, x6, x7] kb held size := H3.below hb2
      have HST' : Hid (∀ N, N = 64 → rnds W ⟨x0, x1, x2, x3, x4, x5, x6, x7⟩ N = ⟨va, vb, vc, vd, ve, vf, vg, vz⟩) := fun N hN => by rw [hN]; exact HST
      clear HST c0 c1 c2 c3 c4 c5 c6 c7 H3 HK HC
      have hg4 : w.grownBy w4 (some b) := grownBy_of_below (hB3.trans (hb2.mono (by omega))) _
      go_wp2_with fail
      go_loopw [138] (fun t wr => ∃ i : Nat, i ≤ 8 ∧ t = .int .i64 (i : Int) ∧ Hsh wr b (addTo [x0, x1, x2, x3, x4, x5, x6, x7] [va, vb, vc, vd, ve, vf, vg, vz] i) kb held size ∧ w.grownBy wr (some b)) (fun t _ => 8 - (intOf t).toNat)
      case atStart => exact ⟨0, by omega, rfl, H4, hg4⟩
      case round =>
        clear H4 hg4 hb2
        obtain ⟨i, hi, rfl, HH, hgr⟩ := hrel
        by_cases hlt : i < 8
        · obtain ⟨x, hx⟩ : ∃ x, (addTo [x0, x1, x2, x3, x4, x5, x6, x7] [va, vb, vc, vd, ve, vf, vg, vz] i).getD i 0 = x := ⟨_, rfl⟩
          obtain ⟨y, hy⟩ : ∃ y, [va, vb, vc, vd, ve, vf, vg, vz].getD i 0 = y := ⟨_, rfl⟩
          have cx : wr.cell? ⟨b, i, none⟩ = some (.int .u32 (x.toNat : Int)) := by rw [← hx]; exact HH.hs i hlt
          have cf := HH.fr i (by omega)
          have HXY : Hid ((addTo [x0, x1, x2, x3, x4, x5, x6, x7] [va, vb, vc, vd, ve, vf, vg, vz] i).getD i 0 = x ∧ [va, vb, vc, vd, ve, vf, vg, vz].getD i 0 = y) := ⟨hx, hy⟩
          clear hx hy
          have q0 : (0 : Int) ≤ (i : Int) := by omega
          have q1 : (i : Int) < 8 := by omega
          go_wp2_with (refine wpList_index_u _ rfl 99 (.tmp 137) (.tmp 138) rfl [va, vb, vc, vd, ve, vf, vg, vz] 8 77 i rfl rfl rfl hlt Tryz.underlying99 Tryz.underlying77 size24 ?_; rw [HXY.out.2])
          go_region
          go_wp2
          go_roundw
          case rel =>
            have e : addTo [x0, x1, x2, x3, x4, x5, x6, x7] [va, vb, vc, vd, ve, vf, vg, vz] (i + 1) = (addTo [x0, x1, x2, x3, x4, x5, x6, x7] [va, vb, vc, vd, ve, vf, vg, vz] i).set i (x + y) := by rw [addTo, HXY.out.1, HXY.out.2]
            have hw2 := u_add x y
            simp only [hw2]
            first
              | exact ⟨i + 1, by omega, by go_num, by rw [e]; exact (HH.setWord i hlt (x + y)).drew, grownBy_drewR (grownBy_trans hgr (grownBy_setCell _ _ _ _))⟩
              | ((repeat apply Exists.intro); exact ⟨⟨i + 1, by omega, by go_num, by rw [e]; exact (HH.setWord i hlt (x + y)).drew, grownBy_drewR (grownBy_trans hgr (grownBy_setCell _ _ _ _))⟩, rfl⟩)
          case measure => simp [intOf]; omega
        · obtain rfl : i = 8 := by omega
          have cd := HH.hd
          have cf := HH.fr 72 (by omega)
          go_wp2
          go_end0
          refine ⟨rfl, ?_, grownBy_trans hgr (grownBy_setCell _ _ _ _)⟩
          rw [← addTo_comp kb W x0 x1 x2 x3 x4 x5 x6 x7 va vb vc vd ve vf vg vz (HW.out 64 rfl) (HST'.out 64 rfl)]
          exact HH.setHeld 0
end Go.Proofs.YtngnbflkiiehmaaGreatDoor
namespace Go.Proofs.Sha
open Go Go.RowKit

def heldOf (w : World) (b : Nat) : Nat := (intOf ((w.cell? ⟨b, 72, none⟩).getD undef)).toNat
theorem Hsh.heldOf {w : World} {b : Nat} {h : List UInt32} {k : List UInt8} {held size : Nat} (H : Hsh w b h k held size) : heldOf w b = held := by
  unfold Sha.heldOf; rw [H.hd]; simp [intOf]

/-- n zeros from place p on. -/
def zf (k : List UInt8) (p : Nat) : Nat → List UInt8
  | 0 => k
  | n + 1 => (zf k p n).set (p + n) 0
theorem zf_length (k : List UInt8) (p n : Nat) : (zf k p n).length = k.length := by
  induction n with
  | zero => rfl
  | succ n ih => rw [zf, List.length_set, ih]
theorem zf_getD (k : List UInt8) (p n j : Nat) (hn : p + n ≤ k.length) : (zf k p n).getD j 0 = if p ≤ j ∧ j < p + n then 0 else k.getD j 0 := by
  induction n with
  | zero => rw [zf, if_neg (by omega)]
  | succ n ih =>
    rw [zf, getD_set _ _ _ _ _ (by rw [zf_length]; omega), ih (by omega)]
    by_cases e : j = p + n
    · rw [if_pos e, if_pos (by omega)]
    · rw [if_neg e]
      by_cases e2 : p ≤ j ∧ j < p + n
      · rw [if_pos e2, if_pos (by omega)]
      · rw [if_neg e2, if_neg (by omega)]


def outArr (h : List UInt32) (i : Nat) : List UInt8 := outTo h i ++ List.replicate (32 - 4 * i) 0
theorem set4 {α : Type} (A R : List α) (n : Nat) (hn : A.length = n) (z0 z1 z2 z3 a b c d : α) :
    ((((A ++ z0 :: z1 :: z2 :: z3 :: R).set n a).set (n + 1) b).set (n + 2) c).set (n + 3) d = (A ++ [a, b, c, d]) ++ R := by
  subst hn
  rw [List.set_append_right _ _ (Nat.le_refl _), List.set_append_right _ _ (by omega), List.set_append_right _ _ (by omega), List.set_append_right _ _ (by omega)]
  simp
theorem outArr_succ (h : List UInt32) (i : Nat) (x : UInt32) (hi : i < 8) (hx : h.getD i 0 = x) :
    (((((outArr h i).map B).set (4 * i) (.int .u8 ((byteAt x 3).toNat : Int))).set (4 * i + 1) (.int .u8 ((byteAt x 2).toNat : Int))).set (4 * i + 2) (.int .u8 ((byteAt x 1).toNat : Int))).set (4 * i + 3) (.int .u8 ((byteAt x 0).toNat : Int)) = (outArr h (i + 1)).map B := by
  have e : 32 - 4 * i = (32 - 4 * (i + 1)) + 4 := by omega
  show ((((_ : List Value).set (4 * i) (B (byteAt x 3))).set (4 * i + 1) (B (byteAt x 2))).set (4 * i + 2) (B (byteAt x 1))).set (4 * i + 3) (B (byteAt x 0)) = _
  rw [← List.map_set, ← List.map_set, ← List.map_set, ← List.map_set, outArr, e, outArr, outTo, hx]
  congr 1
  exact set4 (outTo h i) _ (4 * i) (outTo_length h i) 0 0 0 0 _ _ _ _
theorem outArr_full (h : List UInt32) : outArr h 8 = outTo h 8 := by simp [outArr]
theorem outArr_length (h : List UInt32) (i : Nat) (hi : i ≤ 8) : (outArr h i).length = 32 := by simp [outArr, outTo_length]; omega
theorem byteAt_mod (x : UInt32) (i : Nat) : ((x.toNat : Int) / 2 ^ (8 * i)) % 256 = ((byteAt x i).toNat : Int) := by
  have := byteAt_form x i; rw [IntKind.wrap_u8'] at this; exact this
theorem byteM3 (x : UInt32) : (x.toNat : Int) / (16777216 : Int) % 256 = ((byteAt x 3).toNat : Int) := byteAt_mod x 3
theorem byteM2 (x : UInt32) : (x.toNat : Int) / (65536 : Int) % 256 = ((byteAt x 2).toNat : Int) := byteAt_mod x 2
theorem byteM1 (x : UInt32) : (x.toNat : Int) / (256 : Int) % 256 = ((byteAt x 1).toNat : Int) := byteAt_mod x 1
theorem byteM0 (x : UInt32) : (x.toNat : Int) % 256 = ((byteAt x 0).toNat : Int) := by
  have := byteAt_mod x 0
  simpa using this


end Go.Proofs.Sha
namespace Go.Proofs.YtngnbflkiiehmaaGreatDoor
open Go.RowKit Go.Proofs.Sha

set_option maxRecDepth 100000 in
set_option maxHeartbeats 800000 in
theorem fill_any (b : Nat) (h : List UInt32) (kb : List UInt8) (held size n : Nat) (w : World) (H : Hsh w b h kb held size) (h1 : held ≤ n) (h2 : n ≤ 64) :
    Calls Tryz.prog 59 #[.pointer (some ⟨b, 0, none⟩), .int .i64 (n : Int)] w fun e w' => e = .returned (.tuple #[]) ∧ Hsh w' b h (zf kb held (n - held)) n size ∧ w.grownBy w' (some b) := by
  go_enter Tryz.func59, Tryz.ntmps59
  go_wp2_with fail
  go_loopw [9] (fun _ wr => ∃ q : Nat, held + q ≤ n ∧ Hsh wr b h (zf kb held q) (held + q) size ∧ w.grownBy wr (some b)) (fun _ wr => n - heldOf wr b)
  case atStart => exact ⟨0, by omega, H, grownBy_refl _ _⟩
  case round =>
    obtain ⟨q, hq, HH, hgr⟩ := hrel
    have cd := HH.hd
    by_cases hlt : held + q < n
    · obtain ⟨p, hp⟩ : ∃ p, held + q = p := ⟨_, rfl⟩
      rw [hp] at cd HH hlt
      have HP : Hid (held + q = p) := hp
      clear hp hq
      have cb := HH.ks p (by omega)
      have cf := HH.fr (8 + p) (by omega)
      have cf2 := HH.fr 72 (by omega)
      have q0 : (0 : Int) ≤ (p : Int) := by omega
      have q1 : (p : Int) < 64 := by omega
      go_wp2_with fail
      go_region_held3 (fun w' => w'.cell? ⟨b, 72, none⟩ = some (.int .i64 (p : Int))) (first | exact cd | exact (cell_set_ne _ _ _ _ _ (by omega)).trans cd) (fail)
      go_wp2
      go_roundw
      case rel =>
        have e : zf kb held (q + 1) = (zf kb held q).set p 0 := by rw [zf, HP.out]
        have N := ((HH.setByte p (by omega) 0).setHeld (p + 1)).drew
        refine ⟨q + 1, by have := HP.out; omega, ?_, grownBy_drewR (grownBy_trans (grownBy_trans hgr (grownBy_setCell _ _ _ _)) (grownBy_setCell _ _ _ _))⟩
        rw [e, show held + (q + 1) = p + 1 from by have := HP.out; omega]
        exact N
      case measure =>
        have N := ((HH.setByte p (by omega) 0).setHeld (p + 1)).drew.heldOf
        have e := HH.heldOf
        rw [e]
        refine Nat.lt_of_le_of_lt (Nat.le_of_eq (congrArg (fun z => n - z) N)) ?_
        show n - (p + 1) < n - p
        omega
    · obtain rfl : n = held + q := by omega
      go_wp2
      go_end0
      rw [Nat.add_sub_cancel_left]
      exact ⟨rfl, HH, hgr⟩

def zeros8 : List UInt8 := List.replicate 32 0
theorem alloc32 (w : World) : (Instr.alloc 74 true (.tuple #[])).run Tryz.prog w = .ok (.pointer (some ⟨w.heap.size, 0, none⟩)) (w.alloc (.cells (zeros8.map B).toArray 74)) := by kernel_rfl
theorem size32 : (Tryz.prog.info? 74).map (·.size) = some 32 := by kernel_rfl

set_option maxRecDepth 100000 in
set_option maxHeartbeats 800000 in
theorem bytes_any (b : Nat) (h : List UInt32) (kb : List UInt8) (held size : Nat) (w : World) (H : Hsh w b h kb held size) :
    Calls Tryz.prog 60 #[.pointer (some ⟨b, 0, none⟩)] w fun e w' => e = .returned (.agg ((outTo h 8).map B).toArray) ∧ Below w.heap.size w w' := by
  have hbl := H.lt
  have hrg : ∀ w' : World, Hsh w' b h kb held size → w'.rangeAt b 0 (h.map U) := fun w' H' j v hv => by
    have hj : j < 8 := by have := (List.getElem?_eq_some_iff.1 hv).1; rw [List.length_map, H'.hl] at this; exact this
    rw [Nat.zero_add, H'.hs j hj, ← hv, List.getElem?_map, List.getD_eq_getElem?_getD, List.getElem?_eq_getElem (by rw [H'.hl]; exact hj)]; rfl
  have HRG : Hid (∀ w' : World, Hsh w' b h kb held size → w'.rangeAt b 0 (h.map U)) := hrg
  clear hrg
  have hsz : (Tryz.prog.info? 99).map (·.size) = some (h.map U).length := by rw [size41, List.length_map, H.hl]
  have HSZ : Hid ((Tryz.prog.info? 99).map (·.size) = some (h.map U).length) := hsz
  clear hsz
  go_enter Tryz.func60, Tryz.ntmps60
  go_wp2_with (first | (refine wpList_alloc_row _ rfl (some 2) rfl 74 74 rfl (zeros8.map B) alloc32 ?_; intro g2 w2 hr2 hb2) | (refine wpList_alloc_row _ rfl (some 3) rfl 74 74 rfl (zeros8.map B) alloc32 ?_; intro g3 w3 hr3 hb3) | (refine wpList_load_mid rfl 99 (.tmp 8) rfl b 0 rfl (h.map U) _ (HRG.out _ ((H.below hb2).below hb3)) Tryz.underlying99 rfl HSZ.out ?_))
  have hr3' : Row w3 w2.heap.size g3 32 32 ((outArr h 0).map B) := hr3
  have h2 := hb2.size
  have h3 := hb3.size
  have hl2 := hr2.lt
  have hg3 := hr3.ge
  have hg2 := hr2.ge
  have HR2 : Row w3 w.heap.size g2 32 32 (zeros8.map B) := (show Row w2 w.heap.size g2 32 32 (zeros8.map B) from hr2).below hb3
  have hhl := H.hl
  have hbw : Below w.heap.size w w3 := hb2.trans (hb3.mono h2)
  clear hr2 hr3 H hb2 hb3 HRG HSZ
  go_loopw [10] (fun t wr => ∃ i : Nat, i ≤ 8 ∧ t = .int .i64 (i : Int) ∧ Row wr w2.heap.size g3 32 32 ((outArr h i).map B) ∧ w3.grownBy wr (some g3)) (fun t _ => 8 - (intOf t).toNat)
  case atStart => exact ⟨0, by omega, rfl, hr3', grownBy_refl _ _⟩
  case round =>
    clear hr3'
    obtain ⟨i, hi, rfl, hrow, hgr⟩ := hrel
    by_cases hlt : i < 8
    · obtain ⟨x, hx⟩ : ∃ x, h.getD i 0 = x := ⟨_, rfl⟩
      have HX : Hid (h.getD i 0 = x) := hx
      clear hx
      have c0 := row_b hrow (4 * i) (by omega)
      have c1 := row_b hrow (4 * i + 1) (by omega)
      have c2 := row_b hrow (4 * i + 2) (by omega)
      have c3 := row_b hrow (4 * i + 3) (by omega)
      have f0 := hrow.free (4 * i) (by omega)
      have f1 := hrow.free (4 * i + 1) (by omega)
      have f2 := hrow.free (4 * i + 2) (by omega)
      have f3 := hrow.free (4 * i + 3) (by omega)
      go_wp2_with (refine wpList_index_u _ rfl 99 (.tmp 9) (.tmp 10) rfl h 8 77 i rfl rfl hhl hlt Tryz.underlying99 Tryz.underlying77 size24 ?_; rw [HX.out])
      go_roundw
      case rel =>
        simp only [byteM3, byteM2, byteM1, byteM0]
        refine ⟨i + 1, by omega, by go_num, ?_, ?_⟩
        · rw [← outArr_succ h i x hlt HX.out]; exact ((((hrow.set (4 * i) (by omega) _).set (4 * i + 1) (by omega) _).set (4 * i + 2) (by omega) _).set (4 * i + 3) (by omega) _)
        · exact grownBy_trans (grownBy_trans (grownBy_trans (grownBy_trans hgr (grownBy_setCell _ _ _ _)) (grownBy_setCell _ _ _ _)) (grownBy_setCell _ _ _ _)) (grownBy_setCell _ _ _ _)
      case measure => simp [intOf]; omega
    · obtain rfl : i = 8 := by omega
      have hR2 : Row wr w.heap.size g2 32 32 (zeros8.map B) := HR2.kept hgr (by simp; omega)
      rw [outArr_full] at hrow
      have hln : ((outTo h 8).map B).length = 32 := by rw [List.length_map, outTo_length]
      have h1c : ∀ v ∈ (outTo h 8).map B, v.oneCell' = true := by
        intro v hv
        obtain ⟨x, _, rfl⟩ := List.mem_map.1 hv
        rfl
      obtain ⟨L, hL⟩ : ∃ L, (outTo h 8).map B = L := ⟨_, rfl⟩
      rw [hL] at hrow hln h1c
      have HL : Hid (∀ N, N = 8 → (outTo h N).map B = L) := fun N hN => by rw [hN]; exact hL
      clear hL
      go_wp2_with (first | (refine wpList_load_whole _ rfl 74 (.tmp 3) rfl w2.heap.size g3 32 32 L 5 rfl hrow Tryz.underlying74 size32 ?_) | (refine wpList_store_whole _ rfl rfl 74 (.tmp 2) (.tmp 41) rfl w.heap.size g2 32 (zeros8.map B) L rfl rfl hR2 hln size32 h1c ?_; intro w5 hR5 hg5))
      refine ret_row _ (p := 2) (ty := 74) rfl w.heap.size g2 32 32 L 5 rfl hR5 Tryz.underlying74 size32 rfl ?_
      refine ⟨?_, ?_⟩
      · rw [← HL.out 8 rfl]
      · exact (hbw.trans (below_of_grown hgr (by omega) (by omega))).trans (below_of_grown hg5 (by omega) (by have := hgr.size; omega))
end Go.Proofs.YtngnbflkiiehmaaGreatDoor
namespace Go.Proofs.Sha
open Go Go.RowKit

/-- n bytes of the size from place 56 on. -/
def lb (k : List UInt8) (N : Nat) : Nat → List UInt8
  | 0 => k
  | n + 1 => (lb k N n).set (56 + n) (lenByte (8 * N) (7 - n))
def fin (h : List UInt32) (k : List UInt8) (held N : Nat) : List UInt32 :=
  if held + 1 ≤ 56 then comp h (lb (zf (k.set held 128) (held + 1) (56 - (held + 1))) N 8)
  else comp (comp h (zf (k.set held 128) (held + 1) (64 - (held + 1)))) (lb (zf (zf (k.set held 128) (held + 1) (64 - (held + 1))) 0 (56 - 0)) N 8)

theorem grownBy_new {w a c : World} {b g : Nat} (h : w.grownBy a (some b)) (k : a.grownBy c (some g)) (hg : w.heap.size ≤ g) : w.grownBy c (some b) :=
  ⟨k.os.trans h.os, k.tape.trans h.tape, k.output.trans h.output, Nat.le_trans h.size k.size, fun i hi hn => (k.block i (Nat.lt_of_lt_of_le hi h.size) (by simp; omega)).trans (h.block i hi hn)⟩
theorem grownBy_belowR {w a c : World} {b : Nat} (h : w.grownBy a (some b)) (k : Below a.heap.size a c) : w.grownBy c (some b) := grownBy_trans h (grownBy_of_below k _)
theorem lenByte_wrap (n i : Nat) : IntKind.u8.wrap ((n : Int) * 8 / 2 ^ (8 * i)) = ((lenByte (8 * n) i).toNat : Int) := by rw [IntKind.wrap_u8']; exact lenByte_form n i

end Go.Proofs.Sha
namespace Go.Proofs.YtngnbflkiiehmaaGreatDoor
open Go.RowKit Go.Proofs.Sha

theorem mix_h (b : Nat) (h : List UInt32) (kb : List UInt8) (held size : Nat) (w : World) (H : Hsh w b h kb held size) (hb0 : b ≠ 0)
    (hK : ∀ j, j < 64 → w.cell? ⟨0, j, none⟩ = some (.int .u32 ((kTab.getD j 0).toNat : Int))) :
    Calls Tryz.prog 58 #[.pointer (some ⟨b, 0, none⟩)] w fun e w' => e = .returned (.tuple #[]) ∧ Hsh w' b (comp h kb) kb 0 size ∧ w.grownBy w' (some b) := by
  obtain ⟨x0, x1, x2, x3, x4, x5, x6, x7, rfl⟩ := list8 h H.hl
  exact mix_any b x0 x1 x2 x3 x4 x5 x6 x7 kb held size w H hb0 hK

theorem fill_i (b : Nat) (h : List UInt32) (kb : List UInt8) (held size n : Nat) (m : Int) (hm : m = (n : Int)) (w : World) (H : Hsh w b h kb held size) (h1 : held ≤ n) (h2 : n ≤ 64) :
    Calls Tryz.prog 59 #[.pointer (some ⟨b, 0, none⟩), .int .i64 m] w fun e w' => e = .returned (.tuple #[]) ∧ Hsh w' b h (zf kb held (n - held)) n size ∧ w.grownBy w' (some b) := by
  subst hm; exact fill_any b h kb held size n w H h1 h2

set_option maxRecDepth 100000 in
set_option maxHeartbeats 1600000 in
/-- The last part of finish: the size, the last block, the bytes. -/
theorem finish_any (b : Nat) (h : List UInt32) (kb : List UInt8) (held size : Nat) (w : World) (H : Hsh w b h kb held size) (hh : held < 64) (hsz : size ≤ 2000000) (hb0 : b ≠ 0)
    (hK : ∀ j, j < 64 → w.cell? ⟨0, j, none⟩ = some (.int .u32 ((kTab.getD j 0).toNat : Int))) :
    Calls Tryz.prog 55 #[.pointer (some ⟨b, 0, none⟩)] w fun e w' => e = .returned (.agg ((outTo (fin h kb held size) 8).map B).toArray) ∧ w.grownBy w' (some b) := by
  have hl0 : 0 < w.heap.size := by have := H.lt; omega
  have HK : Hid (∀ w' : World, w.grownBy w' (some b) → ∀ j, j < 64 → w'.cell? ⟨0, j, none⟩ = some (.int .u32 ((kTab.getD j 0).toNat : Int))) := fun w' hg j hj => (hg.cell_far _ hl0 (by simp; omega)).trans (hK j hj)
  clear hK
  have hkl := H.kl
  go_enter Tryz.func55, Tryz.ntmps55
  go_wp2_with (refine wpList_alloc_row _ rfl (some 2) rfl 74 74 rfl (zeros8.map B) alloc32 ?_; intro g2 w2 hr2 hb2)
  have hr2' : Row w2 w.heap.size g2 32 32 (zeros8.map B) := hr2
  have H2 := H.below hb2
  have hg2 : w.grownBy w2 (some b) := grownBy_of_below hb2 _
  have hge := hr2.ge
  have hbl := H.lt
  have hs2 := hb2.size
  clear hr2 hb2 H
  have cd := H2.hd
  have cb := H2.ks held hh
  have cf := H2.fr (8 + held) (by omega)
  have cf2 := H2.fr 72 (by omega)
  have q0 : (0 : Int) ≤ (held : Int) := by omega
  have q1 : (held : Int) < 64 := by omega
  go_region_held3 (fun w' => w'.cell? ⟨b, 72, none⟩ = some (.int .i64 (held : Int))) (first | exact cd | exact (cell_set_ne _ _ _ _ _ (by omega)).trans cd) (fail)
  obtain ⟨w3, hw3⟩ : ∃ w3, w3 = (w2.setCell ⟨b, 8 + held, none⟩ (.int .u8 128)).drew := ⟨_, rfl⟩
  rw [← hw3]
  have H3 : Hsh w3 b h (kb.set held 128) held size := by rw [hw3]; exact (H2.setByte held hh 128).drew
  have hg3 : w2.grownBy w3 (some b) := by rw [hw3]; exact grownBy_drewR (grownBy_setCell _ _ _ _)
  clear hw3 cd cb cf cf2 H2
  have cd := H3.hd
  have cf2 := H3.fr 72 (by omega)
  by_cases hbig : held + 1 ≤ 56
  · have HF : Hid (fin h kb held size = comp h (lb (zf (kb.set held 128) (held + 1) (56 - (held + 1))) size 8)) := by
      show fin h kb held size = _
      rw [fin, if_pos hbig]
    go_wp2_with fail
    obtain ⟨wA, hwA⟩ : ∃ wA, wA = w3.setCell ⟨b, 72, none⟩ (.int .i64 ((held : Int) + 1)) := ⟨_, rfl⟩
    rw [← hwA]
    have HA : Hsh wA b h (kb.set held 128) (held + 1) size := by rw [hwA]; exact H3.setHeld (held + 1)
    have hgA : w2.grownBy wA (some b) := by rw [hwA]; exact grownBy_trans hg3 (grownBy_setCell _ _ _ _)
    clear hwA H3 hg3 cd cf2
    refine (fill_i b h (kb.set held 128) (held + 1) size 56 56 rfl wA HA (by omega) (by omega)).mono ?_
    rintro e w4 ⟨rfl, H4, hg4⟩
    have hgw4 := grownBy_trans hgA hg4
    have cs := H4.sz
    clear HA hg4 hgA
    obtain ⟨k4, hk4⟩ : ∃ k4, zf (kb.set held 128) (held + 1) (56 - (held + 1)) = k4 := ⟨_, rfl⟩
    rw [hk4] at H4
    have HK4 : Hid (zf (kb.set held 128) (held + 1) (56 - (held + 1)) = k4) := hk4
    clear hk4
    go_wp2_with fail
    go_loopw [4] (fun t wr => ∃ i p : Nat, i ≤ 8 ∧ p = 56 + i ∧ t = .int .i64 (p : Int) ∧ Hsh wr b h (lb k4 size i) 56 size ∧ w2.grownBy wr (some b)) (fun t _ => 64 - (intOf t).toNat)
    case atStart => exact ⟨0, 56, by omega, rfl, rfl, H4, hgw4⟩
    case round =>
      clear H4 hgw4 cs
      obtain ⟨i, p, hi, hp, rfl, H5, hg5⟩ := hrel
      by_cases hlt : i < 8
      · have HP : Hid (p = 56 + i) := hp
        have cb := H5.ks p (by omega)
        have cf := H5.fr (8 + p) (by omega)
        have q0 : (0 : Int) ≤ (p : Int) := by omega
        have q1 : (p : Int) < 64 := by omega
        have q2 : 56 ≤ p := by omega
        clear hp
        go_wp2_with fail
        go_region
        go_wp2
        go_roundw
        case rel =>
          have HPo := HP.out
          have e0 : 63 - p = 7 - i := by omega
          have e1 : lb k4 size (i + 1) = (lb k4 size i).set p (lenByte (8 * size) (7 - i)) := by rw [lb, HPo]
          simp only [e0, lenByte_form]
          refine ⟨i + 1, p + 1, by omega, by omega, by go_num, ?_, grownBy_drewR (grownBy_trans hg5 (grownBy_setCell _ _ _ _))⟩
          rw [e1]
          exact (H5.setByte p (by omega) _).drew
        case measure => simp [intOf]; omega
      · obtain rfl : i = 8 := by omega
        obtain rfl : p = 64 := by omega
        clear hp
        go_wp2_with fail
        refine (mix_h b h (lb k4 size 8) 56 size wr H5 hb0 (HK.out wr (grownBy_trans hg2 hg5))).mono ?_
        rintro e w6 ⟨rfl, H6, hg6⟩
        have hgw6 := grownBy_trans hg5 hg6
        have HFF : Hid (comp h (lb k4 size 8) = fin h kb held size) := by
          show comp h (lb k4 size 8) = _
          rw [HF.out, HK4.out]
        rw [HFF.out] at H6
        clear HFF HF HK4 H5 hg5 hg6 HK
        obtain ⟨hZ, ehZ⟩ : ∃ hZ, fin h kb held size = hZ := ⟨_, rfl⟩
        rw [ehZ] at H6
        have HZ : Hid (fin h kb held size = hZ) := ehZ
        clear ehZ
        go_wp2_with fail
        refine (bytes_any b hZ _ _ _ w6 H6).mono ?_
        rintro e w7 ⟨rfl, hb7⟩
        have hgw7 := grownBy_belowR hgw6 hb7
        have hR7 : Row w7 w.heap.size g2 32 32 (zeros8.map B) := hr2'.kept hgw7 (by simp; omega)
        have hln : ((outTo hZ 8).map B).length = 32 := by rw [List.length_map, outTo_length]
        have h1c : ∀ v ∈ (outTo hZ 8).map B, v.oneCell' = true := by
          intro v hv
          obtain ⟨x, _, rfl⟩ := List.mem_map.1 hv
          rfl
        obtain ⟨L, hL⟩ : ∃ L, (outTo hZ 8).map B = L := ⟨_, rfl⟩
        rw [hL] at hln h1c
        rw [hL]
        have HL : Hid (∀ N, N = 8 → (outTo hZ N).map B = L) := fun N hN => by rw [hN]; exact hL
        clear hL
        go_wp2_with (refine wpList_store_whole _ rfl rfl 74 (.tmp 2) (.tmp 54) rfl w.heap.size g2 32 (zeros8.map B) L rfl rfl hR7 hln size32 h1c ?_; intro w8 hR8 hg8)
        refine ret_row _ (p := 2) (ty := 74) rfl w.heap.size g2 32 32 L 5 rfl hR8 Tryz.underlying74 size32 rfl ?_
        refine ⟨?_, ?_⟩
        · rw [HZ.out, HL.out 8 rfl]
        · exact grownBy_new (grownBy_trans hg2 hgw7) hg8 hge
  · go_wp2_with fail
    obtain ⟨wB, hwB⟩ : ∃ wB, wB = w3.setCell ⟨b, 72, none⟩ (.int .i64 ((held : Int) + 1)) := ⟨_, rfl⟩
    rw [← hwB]
    have HB : Hsh wB b h (kb.set held 128) (held + 1) size := by rw [hwB]; exact H3.setHeld (held + 1)
    have hgB : w2.grownBy wB (some b) := by rw [hwB]; exact grownBy_trans hg3 (grownBy_setCell _ _ _ _)
    clear hwB H3 hg3 cd cf2
    refine (fill_i b h (kb.set held 128) (held + 1) size 64 64 rfl wB HB (by omega) (by omega)).mono ?_
    rintro e wC ⟨rfl, HC, hgC⟩
    obtain ⟨k2, hk2⟩ : ∃ k2, zf (kb.set held 128) (held + 1) (64 - (held + 1)) = k2 := ⟨_, rfl⟩
    rw [hk2] at HC
    have hgC2 := grownBy_trans hgB hgC
    clear HB hgB hgC
    go_wp2_with fail
    refine (mix_h b h k2 64 size wC HC hb0 (HK.out wC (grownBy_trans hg2 hgC2))).mono ?_
    rintro e wA ⟨rfl, HA, hgA0⟩
    obtain ⟨hA, ehA⟩ : ∃ hA, comp h k2 = hA := ⟨_, rfl⟩
    rw [ehA] at HA
    have HF : Hid (fin h kb held size = comp hA (lb (zf k2 0 (56 - 0)) size 8)) := by
      show fin h kb held size = _
      rw [fin, if_neg hbig, hk2, ehA]
    have hgA := grownBy_trans hgC2 hgA0
    clear hk2 ehA hgA0 hgC2 HC
    go_wp2_with fail
    refine (fill_i b hA k2 0 size 56 56 rfl wA HA (by omega) (by omega)).mono ?_
    rintro e w4 ⟨rfl, H4, hg4⟩
    have hgw4 := grownBy_trans hgA hg4
    have cs := H4.sz
    clear HA hg4 hgA
    obtain ⟨k4, hk4⟩ : ∃ k4, zf k2 0 (56 - 0) = k4 := ⟨_, rfl⟩
    rw [hk4] at H4
    have HK4 : Hid (zf k2 0 (56 - 0) = k4) := hk4
    clear hk4
    go_wp2_with fail
    go_loopw [4] (fun t wr => ∃ i p : Nat, i ≤ 8 ∧ p = 56 + i ∧ t = .int .i64 (p : Int) ∧ Hsh wr b hA (lb k4 size i) 56 size ∧ w2.grownBy wr (some b)) (fun t _ => 64 - (intOf t).toNat)
    case atStart => exact ⟨0, 56, by omega, rfl, rfl, H4, hgw4⟩
    case round =>
      clear H4 hgw4 cs
      obtain ⟨i, p, hi, hp, rfl, H5, hg5⟩ := hrel
      by_cases hlt : i < 8
      · have HP : Hid (p = 56 + i) := hp
        have cb := H5.ks p (by omega)
        have cf := H5.fr (8 + p) (by omega)
        have q0 : (0 : Int) ≤ (p : Int) := by omega
        have q1 : (p : Int) < 64 := by omega
        have q2 : 56 ≤ p := by omega
        clear hp
        go_wp2_with fail
        go_region
        go_wp2
        go_roundw
        case rel =>
          have HPo := HP.out
          have e0 : 63 - p = 7 - i := by omega
          have e1 : lb k4 size (i + 1) = (lb k4 size i).set p (lenByte (8 * size) (7 - i)) := by rw [lb, HPo]
          simp only [e0, lenByte_form]
          refine ⟨i + 1, p + 1, by omega, by omega, by go_num, ?_, grownBy_drewR (grownBy_trans hg5 (grownBy_setCell _ _ _ _))⟩
          rw [e1]
          exact (H5.setByte p (by omega) _).drew
        case measure => simp [intOf]; omega
      · obtain rfl : i = 8 := by omega
        obtain rfl : p = 64 := by omega
        clear hp
        go_wp2_with fail
        refine (mix_h b hA (lb k4 size 8) 56 size wr H5 hb0 (HK.out wr (grownBy_trans hg2 hg5))).mono ?_
        rintro e w6 ⟨rfl, H6, hg6⟩
        have hgw6 := grownBy_trans hg5 hg6
        have HFF : Hid (comp hA (lb k4 size 8) = fin h kb held size) := by
          show comp hA (lb k4 size 8) = _
          rw [HF.out, HK4.out]
        rw [HFF.out] at H6
        clear HFF HF HK4 H5 hg5 hg6 HK
        obtain ⟨hZ, ehZ⟩ : ∃ hZ, fin h kb held size = hZ := ⟨_, rfl⟩
        rw [ehZ] at H6
        have HZ : Hid (fin h kb held size = hZ) := ehZ
        clear ehZ
        go_wp2_with fail
        refine (bytes_any b hZ _ _ _ w6 H6).mono ?_
        rintro e w7 ⟨rfl, hb7⟩
        have hgw7 := grownBy_belowR hgw6 hb7
        have hR7 : Row w7 w.heap.size g2 32 32 (zeros8.map B) := hr2'.kept hgw7 (by simp; omega)
        have hln : ((outTo hZ 8).map B).length = 32 := by rw [List.length_map, outTo_length]
        have h1c : ∀ v ∈ (outTo hZ 8).map B, v.oneCell' = true := by
          intro v hv
          obtain ⟨x, _, rfl⟩ := List.mem_map.1 hv
          rfl
        obtain ⟨L, hL⟩ : ∃ L, (outTo hZ 8).map B = L := ⟨_, rfl⟩
        rw [hL] at hln h1c
        rw [hL]
        have HL : Hid (∀ N, N = 8 → (outTo hZ N).map B = L) := fun N hN => by rw [hN]; exact hL
        clear hL
        go_wp2_with (refine wpList_store_whole _ rfl rfl 74 (.tmp 2) (.tmp 54) rfl w.heap.size g2 32 (zeros8.map B) L rfl rfl hR7 hln size32 h1c ?_; intro w8 hR8 hg8)
        refine ret_row _ (p := 2) (ty := 74) rfl w.heap.size g2 32 32 L 5 rfl hR8 Tryz.underlying74 size32 rfl ?_
        refine ⟨?_, ?_⟩
        · rw [HZ.out, HL.out 8 rfl]
        · exact grownBy_new (grownBy_trans hg2 hgw7) hg8 hge
end Go.Proofs.YtngnbflkiiehmaaGreatDoor
namespace Go.Proofs.YtngnbflkiiehmaaGreatDoor
open Go.RowKit Go.Proofs.Sha

def newCells : List Value := hTab.map U ++ (List.replicate 64 (0 : UInt8)).map B ++ [.int .i64 0, .int .u64 0]
theorem hsh_new (w : World) : Hsh (w.alloc (.cells newCells.toArray 102)) w.heap.size hTab (List.replicate 64 0) 0 0 := by
  have hc : ∀ j, (w.alloc (.cells newCells.toArray 102)).cell? ⟨w.heap.size, j, none⟩ = newCells[j]? := fun j => by
    rw [cell_of_row _ _ _ _ _ _ (heap_alloc_new w (.cells newCells.toArray 102))]; simp
  refine ⟨rfl, rfl, fun j hj => ?_, fun j hj => ?_, ?_, ?_, fun j hj => ?_⟩
  · rw [hc]
    have : j = 0 ∨ j = 1 ∨ j = 2 ∨ j = 3 ∨ j = 4 ∨ j = 5 ∨ j = 6 ∨ j = 7 := by omega
    rcases this with h | h | h | h | h | h | h | h <;> subst h <;> rfl
  · rw [hc]
    have e : (List.replicate 64 (0 : UInt8)).getD j 0 = 0 := by
      rw [List.getD_eq_getElem?_getD, List.getElem?_replicate, if_pos hj]; rfl
    rw [e]
    unfold newCells
    rw [List.getElem?_append_left (by rw [List.length_append, List.length_map, List.length_map, List.length_replicate]; show 8 + j < 8 + 64; omega),
      List.getElem?_append_right (by rw [List.length_map]; show 8 ≤ 8 + j; omega), List.length_map]
    show (List.map B (List.replicate 64 0))[8 + j - 8]? = _
    rw [Nat.add_sub_cancel_left, List.getElem?_map, List.getElem?_replicate, if_pos hj]; rfl
  · rw [hc]; rfl
  · rw [hc]; rfl
  · have := heap_alloc_new w (.cells newCells.toArray 102)
    simp only [World.frozen?, this]; simp

set_option maxRecDepth 100000 in
set_option maxHeartbeats 800000 in
theorem new_any (w : World) :
    Calls Tryz.prog 53 #[] w fun e w' => e = .returned (.pointer (some ⟨w.heap.size, 0, none⟩)) ∧ w' = w.alloc (.cells newCells.toArray 102) := by
  go_enter Tryz.func53, Tryz.ntmps53
  go_wp2_with (first | (refine Go.Great.wpList_runTo rfl (some 1) rfl (.agg (hTab.map U).toArray) w (by kernel_rfl) ?_) | (refine Go.Great.wpList_runTo rfl (some 2) rfl (.agg newCells.toArray) w (by kernel_rfl) ?_) | (refine Go.Great.wpList_runTo rfl (some 3) rfl (.pointer (some ⟨w.heap.size, 0, none⟩)) (w.alloc (.cells newCells.toArray 102)) (by kernel_rfl) ?_))
  go_ret
  exact ⟨rfl, rfl⟩
end Go.Proofs.YtngnbflkiiehmaaGreatDoor
