import Derived.Test.YtdnbhejacpjgfaaGreatDoorZj
import Derived.Test.YtdnbhejacpjgfaaGreatDoorZn
import Derived.Test.YtdnbhejacpjgfaaGreatDoorZi
import Derived.Test.YtdnbhejacpjgfaaGreatDoorZe
import Derived.Test.YtdnbhejacpjgfaaGreatDoorZf
import Derived.Test.YtdnbhejacpjgfaaGreatDoorZm
import Derived.WalkSpells
import Derived.WalkLawsBesides
import Derived.Deep.RegionHeld3
import Derived.Test.YtdnbhejacpjgfaaGreatDoorZa
namespace Go.Proofs.YtdnbhejacpjgfaaGreatDoor
open Go.RowKit Go.Proofs.Sha

theorem own2_set3 {w : World} {base gw n : Nat} {v : Value} {xs : List Value} (h : w.ownsRow base 53 2 v n xs) (hg : gw < base) (x y z : Value) : (((w.setCell ⟨gw, 0, none⟩ x).setCell ⟨gw, 1, none⟩ y).setCell ⟨gw, 2, none⟩ z).ownsRow base 53 2 v n xs :=
  own2_kept h (fun q hv _ => by
    have := (own2_cells h hv).1
    rw [Below.heap_setCell _ _ _ _ (by show q ≠ gw; omega), Below.heap_setCell _ _ _ _ (by show q ≠ gw; omega), Below.heap_setCell _ _ _ _ (by show q ≠ gw; omega)])

set_option maxRecDepth 100000 in
set_option maxHeartbeats 4000000 in
theorem srange_yes (HD : Hid DigSaid) (D : Dec) (wd : Nat) (HDd : Hid (DecSaid 42 wd D)) (hdo : DecOk wd D) (a : Option Addr) (ss : List ByteArray) (c : Nat) (root lo hi : ByteArray) (w : World) (h : SArg a ss w) (hq : Hid (∀ j, (ss.getD j ⟨#[]⟩).size ≤ 1048575)) (h1 : 1 ≤ wd) (h2 : wd ≤ 32)
    (hr : root.size ≤ 1048576) (hlo : lo.size ≤ 1048576) (hhi : hi.size ≤ 1048576) (hp : poolOk (wd : Int) ss.length = true) (hk : hashOk root.size (wd : Int) = true) (hR0 : (goF (fndD D wd ss) hgW lo hi 501 root ⟨#[]⟩ ⟨#[]⟩ ⟨#[]⟩ 0).1 = 0) :
    Calls Tryz.prog 5 #[.agg #[.int .i64 (wd : Int), .slice a ss.length c], .string root, .string lo, .string hi] w (RangeAt (rangeM (fndD D wd ss) (wd : Int) ss.length root lo hi) w) := by
  have HP := fun w' => poolOk_any (wd : Int) a ss.length c w' h.le
  have HH := fun w' => hashOk_any root (wd : Int) w' hr
  rw [hp] at HP
  rw [hk] at HH
  have hS := SR.mk0 w (wd : Int) a ss.length c
  obtain ⟨R, hR⟩ : ∃ R, goF (fndD D wd ss) hgW lo hi 501 root ⟨#[]⟩ ⟨#[]⟩ ⟨#[]⟩ 0 = R := ⟨_, rfl⟩
  rw [hR] at hR0
  have hRM := rangeM_ok (lo := lo) (hi := hi) (by rw [hp, hk]; rfl : (poolOk (wd : Int) ss.length && hashOk root.size (wd : Int)) = true) hR
  obtain ⟨Z, hZ⟩ : ∃ Z, rangeM (fndD D wd ss) (wd : Int) ss.length root lo hi = Z := ⟨_, rfl⟩
  rw [hZ] at hRM ⊢
  obtain ⟨N, hN⟩ : ∃ N, ss.length = N := ⟨_, rfl⟩
  have HHS : Hid (∀ w', Below w.heap.size w w' → Calls Tryz.prog 17 #[.agg #[.int .i64 (wd : Int), .slice a N c]] w' fun e w'' => ∃ g c', e = .returned (.slice (some ⟨g, 0, none⟩) N c') ∧ (∀ W, Below w''.heap.size w'' W → Calls Tryz.prog 16 #[.agg #[.int .i64 (wd : Int), .slice a N c], .slice (some ⟨g, 0, none⟩) N c', .string root, .string ⟨#[]⟩, .agg #[.string ⟨#[]⟩, .string ⟨#[]⟩], .string lo, .string hi, .int .i64 0] W (GoPost R W)) ∧ Below w'.heap.size w' w'') := by
    intro w' hb
    have hA := h.below hb
    rw [← hN]
    refine (hashes_any HD wd a ss c w' hA hq h1 h2).mono ?_
    rintro e w'' ⟨g, c', rfl, hrow, hb2⟩
    refine ⟨g, c', rfl, fun W hW => ?_, hb2⟩
    have hA2 := hA.below hb2
    rw [← hR]
    refine go_all (fndD D wd ss) wd (fndD_ok D wd ss hdo) a ss.length c g c' lo hi hlo hhi w'' (fun w3 hash hb3 => ?_) 501 root ⟨#[]⟩ ⟨#[]⟩ ⟨#[]⟩ 0 W (by omega) (by omega) hW (by decide) (by decide) (by decide)
    have := lfind_any D wd HDd a ss c g c' (ss.map (hashT wd)) hash w3 (hA2.below hb3) (by rw [List.length_map]) (Nat.lt_of_lt_of_le hrow.lt hb3.size) (fun j hj => by
      have e := (hrow.below hb3).cell j hj
      rw [e, List.getElem?_map, List.getD_eq_getElem?_getD, List.getElem?_eq_getElem (by rw [List.length_map]; exact hj)]
      rfl)
    rw [first_hash] at this
    exact this
  have hRMH : Hid (Z = if R.1 = 0 then (R.2.2, 0) else ([], R.1)) := hRM
  rw [hN] at HP hS ⊢
  clear h hq hN hR hRM hZ hp hk
  go_enter Tryz.func5, Tryz.ntmps5
  go_upto_region 2 with fail
  generalize (w.alloc (.cells #[.int .i64 (wd : Int), .slice a N c] 29)).alloc (.cells #[] 53) = W at hS ⊢
  obtain ⟨gz, hgz⟩ : ∃ x, w.heap.size + 1 = x := ⟨_, rfl⟩
  rw [hgz] at hS ⊢
  obtain ⟨ga, hga⟩ : ∃ x, w.heap.size = x := ⟨_, rfl⟩
  rw [show SR w w.heap.size = SR w ga by rw [hga]] at hS
  rw [hga]
  clear hga hgz
  have k0 := Lib.cell_of_heap hS.na 0
  have k1 := Lib.cell_of_heap hS.na 1
  go_upto_region 4 with (first | (go_at_call 14; refine (HP _).mono ?_; rintro e w1 ⟨rfl, hb1⟩; have hS1 := hS.below hb1; clear k0 k1; have k0 := Lib.cell_of_heap hS1.na 0; have k1 := Lib.cell_of_heap hS1.na 1) | (go_at_call 15; refine (HH _).mono ?_; rintro e w2 ⟨rfl, rfl⟩))
  clear HP HH hb1 hS k0 k1
  have k0 : w1.cell? ⟨ga, 0, none⟩ = some (.int .i64 (wd : Int)) := Lib.cell_of_heap hS1.na 0
  have k1 : w1.cell? ⟨ga, 1, none⟩ = some (.slice a N c) := Lib.cell_of_heap hS1.na 1
  have hbd : Below w1.heap.size w1 w1.drew := (Below.refl _ _).drew
  have HC : Hid (∀ W : World, W.heap[ga]? = some (.cells #[.int .i64 (wd : Int), .slice a N c] 29) → W.cell? ⟨ga, 0, none⟩ = some (.int .i64 (wd : Int)) ∧ W.cell? ⟨ga, 1, none⟩ = some (.slice a N c)) := fun W hW => ⟨Lib.cell_of_heap hW 0, Lib.cell_of_heap hW 1⟩
  have hna := hS1.na
  have hbw := hS1.bl
  obtain ⟨Rc, Rn, Rp⟩ := R
  obtain rfl : Rc = 0 := hR0
  obtain ⟨m1, hm1⟩ : ∃ m1, Rp.length = m1 := ⟨_, rfl⟩
  have hZ : Hid (Z = (Rp, 0)) := by show _ = _; rw [hRMH.out, if_pos rfl]
  have hm1h : Hid (Rp.length = m1) := hm1
  have HG : Hid (∀ g c' W, Calls Tryz.prog 16 #[.agg #[.int .i64 (wd : Int), .slice a N c], .slice (some ⟨g, 0, none⟩) N c', .string root, .string ⟨#[]⟩, .agg #[.string ⟨#[]⟩, .string ⟨#[]⟩], .string lo, .string hi, .int .i64 0] W (GoPost (0, Rn, Rp) W) → Calls Tryz.prog 16 #[.agg #[.int .i64 (wd : Int), .slice a N c], .slice (some ⟨g, 0, none⟩) N c', .string root, .string ⟨#[]⟩, .agg #[.string ⟨#[]⟩, .string ⟨#[]⟩], .string lo, .string hi, .int .i64 0] W fun e w' => (∃ a1 d1, e = .returned (.agg #[.slice a1 m1 d1, .int .i64 (Rn : Int), .int .i64 0]) ∧ w'.ownsRow W.heap.size 53 2 (.slice a1 m1 d1) m1 (flatP Rp)) ∧ Below W.heap.size W w') := fun g c' W hc => hc.mono fun e w' h => ⟨by rw [← hm1]; exact h.1 rfl, h.2.2⟩
  clear hm1 hRMH
  have hlt1 := hS1.lt
  go_region_held3 (fun W => W.cell? ⟨ga, 0, none⟩ = some (.int .i64 (wd : Int)) ∧ W.cell? ⟨ga, 1, none⟩ = some (.slice a N c)) (first | exact HC.out _ hna | exact HC.out _ (hS1.below ((Below.refl _ w1).drew.alloc (Nat.le_refl _) _)).na | exact HC.out _ hS2.na | exact HC.out _ (hS2.below ((Below.refl _ _).alloc (Nat.le_refl _) _)).na | exact HC.out _ hS3.na | exact HC.out _ (hS3.below ((Below.refl _ _).alloc (Nat.le_refl _) _)).na | exact HC.out _ (hS3.set3 hlt1 _ _ _).na | exact HC.out _ (hS3.set3 hlt2 _ _ _).na)
    (first
      | (go_at_call 17; refine (HHS.out (w1.drew.alloc (.cells #[.slice none 0 0, .int .i64 0, .int .i64 0] 40)) (hbw.drew.alloc hbw.size _)).mono ?_; rintro e w2 ⟨g, c', rfl, HGG, hb2⟩; have hS2 := (hS1.below ((Below.refl _ w1).drew.alloc (Nat.le_refl _) (.cells #[.slice none 0 0, .int .i64 0, .int .i64 0] 40))).below hb2; have hlt2 := hS2.lt; have n2 : WB w1.heap.size (.slice none 0 0) (.int .i64 0) (.int .i64 0) w2 := WB.below (show WB w1.heap.size (.slice none 0 0) (.int .i64 0) (.int .i64 0) (w1.drew.alloc (.cells #[.slice none 0 0, .int .i64 0, .int .i64 0] 40)) from heap_alloc_new w1.drew _) hb2; clear hb2)
      | (go_at_call 17; refine (HHS.out w1.drew hbw.drew).mono ?_; rintro e w2 ⟨g, c', rfl, HGG, hb2⟩; have hS2 := hS1.below ((Below.refl w1.heap.size w1).drew.trans hb2); have hlt2 := hS2.lt; clear hb2)
      | (go_at_call 16; refine (HG.out g c' (w2.alloc (.cells #[.slice none 0 0, .int .i64 0, .int .i64 0] 40)) (HGG _ ((Below.refl _ w2).alloc (Nat.le_refl _) _))).mono ?_; rintro e w3 ⟨⟨a1, d1, rfl, ho3⟩, hb3⟩; have hS3 := (hS2.below ((Below.refl _ w2).alloc (Nat.le_refl _) (.cells #[.slice none 0 0, .int .i64 0, .int .i64 0] 40))).below hb3; have n3 : WB w2.heap.size (.slice none 0 0) (.int .i64 0) (.int .i64 0) w3 := WB.below (show WB w2.heap.size (.slice none 0 0) (.int .i64 0) (.int .i64 0) (w2.alloc (.cells #[.slice none 0 0, .int .i64 0, .int .i64 0] 40)) from heap_alloc_new w2 _) hb3; clear hb3; obtain ⟨x0, x1, x2, y0, y1, y2⟩ := n3.at)
      | (go_at_call 16; refine (HG.out g c' w2 (HGG _ (Below.refl _ w2))).mono ?_; rintro e w3 ⟨⟨a1, d1, rfl, ho3⟩, hb3⟩; have hS3 := hS2.below hb3; have n3 := n2.below hb3; clear hb3; obtain ⟨x0, x1, x2, y0, y1, y2⟩ := n3.at)
      | (go_at_call 16; refine (HG.out g c' w2 (HGG _ (Below.refl _ w2))).mono ?_; rintro e w3 ⟨⟨a1, d1, rfl, ho3⟩, hb3⟩; have hS3 := hS2.below hb3; clear hb3))
  · have hS4 := hS3.below ((Below.refl w3.heap.size w3).alloc (Nat.le_refl _) (.cells #[.slice a1 m1 d1, .int .i64 (Rn : Int), .int .i64 0] 40))
    have n4 : WB w3.heap.size (.slice a1 m1 d1) (.int .i64 (Rn : Int)) (.int .i64 0) (w3.alloc (.cells #[.slice a1 m1 d1, .int .i64 (Rn : Int), .int .i64 0] 40)) := heap_alloc_new w3 _
    have ho4 := own2_mono (ho3.alloc (.cells #[.slice a1 m1 d1, .int .i64 (Rn : Int), .int .i64 0] 40)) hS2.bl.size
    generalize w3.alloc (.cells #[.slice a1 m1 d1, .int .i64 (Rn : Int), .int .i64 0] 40) = W4 at hS4 n4 ho4 ⊢
    generalize w3.heap.size = gw at n4 ⊢
    obtain ⟨u0, u1, u2, _, _, _⟩ := n4.at
    have hbl := hS4.bl
    have hfin : RangeAt (Rp, 0) w (.returned (.tuple #[.slice a1 m1 d1, .int .i64 0])) W4 := ⟨⟨a1, d1, by rw [hm1h.out], by rw [hm1h.out]; exact ho4⟩, hbl⟩
    rw [← hZ.out] at hfin
    clear k0 k1 hna hbd HGG hZ hS3 n4 ho4 hS4
    go_wp2_with fail
    go_ret2
    exact hfin
  · have hS4 := hS3.set3 hlt2 (.slice a1 m1 d1) (.int .i64 (Rn : Int)) (.int .i64 0)
    have n4 := n3.set3 (.slice a1 m1 d1) (.int .i64 (Rn : Int)) (.int .i64 0)
    have ho4 := own2_mono (own2_set3 ho3 (gw := w2.heap.size) (by simp) (.slice a1 m1 d1) (.int .i64 (Rn : Int)) (.int .i64 0)) (base' := w.heap.size) (by have := hS2.bl.size; simp; omega)
    generalize ((w3.setCell ⟨w2.heap.size, 0, none⟩ (.slice a1 m1 d1)).setCell ⟨w2.heap.size, 1, none⟩ (.int .i64 (Rn : Int))).setCell ⟨w2.heap.size, 2, none⟩ (.int .i64 0) = W4 at hS4 n4 ho4 ⊢
    clear n3 x0 x1 x2 y0 y1 y2 ho3
    generalize w2.heap.size = gw at n4 ⊢
    obtain ⟨u0, u1, u2, _, _, _⟩ := n4.at
    have hbl := hS4.bl
    have hfin : RangeAt (Rp, 0) w (.returned (.tuple #[.slice a1 m1 d1, .int .i64 0])) W4 := ⟨⟨a1, d1, by rw [hm1h.out], by rw [hm1h.out]; exact ho4⟩, hbl⟩
    rw [← hZ.out] at hfin
    clear k0 k1 hna hbd HGG hZ hS3 n4 ho4 hS4
    go_wp2_with fail
    go_ret2
    exact hfin
  · have hS4 := hS3.set3 hlt1 (.slice a1 m1 d1) (.int .i64 (Rn : Int)) (.int .i64 0)
    have n4 := n3.set3 (.slice a1 m1 d1) (.int .i64 (Rn : Int)) (.int .i64 0)
    have ho4 := own2_mono (own2_set3 ho3 (gw := w1.heap.size) (Array.getElem?_eq_some_iff.1 n2).1 (.slice a1 m1 d1) (.int .i64 (Rn : Int)) (.int .i64 0)) (base' := w.heap.size) hS2.bl.size
    generalize ((w3.setCell ⟨w1.heap.size, 0, none⟩ (.slice a1 m1 d1)).setCell ⟨w1.heap.size, 1, none⟩ (.int .i64 (Rn : Int))).setCell ⟨w1.heap.size, 2, none⟩ (.int .i64 0) = W4 at hS4 n4 ho4 ⊢
    clear n2 n3 x0 x1 x2 y0 y1 y2 ho3
    generalize w1.heap.size = gw at n4 ⊢
    obtain ⟨u0, u1, u2, _, _, _⟩ := n4.at
    have hbl := hS4.bl
    have hfin : RangeAt (Rp, 0) w (.returned (.tuple #[.slice a1 m1 d1, .int .i64 0])) W4 := ⟨⟨a1, d1, by rw [hm1h.out], by rw [hm1h.out]; exact ho4⟩, hbl⟩
    rw [← hZ.out] at hfin
    clear k0 k1 hna hbd HGG hZ hS3 n4 ho4 hS4
    go_wp2_with fail
    go_ret2
    exact hfin
end Go.Proofs.YtdnbhejacpjgfaaGreatDoor
namespace Go.Proofs.YtdnbhejacpjgfaaGreatDoor
open Go.RowKit Go.Proofs.Sha

/-- The model's Range, where the pool and the root are good. -/
theorem srange_good (HD : Hid DigSaid) (D : Dec) (wd : Nat) (HDd : Hid (DecSaid 42 wd D)) (hdo : DecOk wd D) (a : Option Addr) (ss : List ByteArray) (c : Nat) (root lo hi : ByteArray) (w : World) (h : SArg a ss w) (hq : Hid (∀ j, (ss.getD j ⟨#[]⟩).size ≤ 1048575)) (h1 : 1 ≤ wd) (h2 : wd ≤ 32)
    (hr : root.size ≤ 1048576) (hlo : lo.size ≤ 1048576) (hhi : hi.size ≤ 1048576) (hp : poolOk (wd : Int) ss.length = true) (hk : hashOk root.size (wd : Int) = true) :
    Calls Tryz.prog 5 #[.agg #[.int .i64 (wd : Int), .slice a ss.length c], .string root, .string lo, .string hi] w (RangeAt (rangeM (fndD D wd ss) (wd : Int) ss.length root lo hi) w) := by
  by_cases hR0 : (goF (fndD D wd ss) hgW lo hi 501 root ⟨#[]⟩ ⟨#[]⟩ ⟨#[]⟩ 0).1 = 0
  · exact srange_yes HD D wd HDd hdo a ss c root lo hi w h hq h1 h2 hr hlo hhi hp hk hR0
  · exact srange_err HD D wd HDd hdo a ss c root lo hi w h hq h1 h2 hr hlo hhi hp hk hR0
end Go.Proofs.YtdnbhejacpjgfaaGreatDoor
namespace Go.Proofs.YtdnbhejacpjgfaaGreatDoor
open Go.RowKit Go.Proofs.Sha

end Go.Proofs.YtdnbhejacpjgfaaGreatDoor
namespace Go.Proofs.YtdnbhejacpjgfaaGreatDoor
open Go.RowKit Go.Proofs.Sha

theorem sha_len (l : List UInt8) : (sha l).length = 32 := by unfold sha; rw [outTo_length]
theorem extract_take (M : List UInt8) (n : Nat) : (⟨M.toArray⟩ : ByteArray).extract 0 n = ⟨(M.take n).toArray⟩ := by
  apply ByteArray.ext
  rw [ByteArray.data_extract]
  apply Array.ext'
  rw [Array.toList_extract, List.extract_eq_take_drop]
  simp

set_option maxRecDepth 100000 in
set_option maxHeartbeats 400000 in
theorem sdig_no (s : ByteArray) (k : Int) (w : World) (h : k < 1 ∨ 32 < k) :
    Calls Tryz.prog 32 #[.string s, .int .i64 k] w fun e w' => e = .returned (.string ⟨#[]⟩) ∧ Below w.heap.size w w' := by
  rcases h with h | h
  · have h1 : decide (1 ≤ k) = false := by simpa using h
    go_enter Tryz.func32, Tryz.ntmps32
    go_wp2
    go_ret
    exact ⟨rfl, Below.refl _ _⟩
  · have h1 : 1 ≤ k := by omega
    have h2 : decide (k ≤ 32) = false := by simpa using h
    go_enter Tryz.func32, Tryz.ntmps32
    go_wp2
    go_ret
    exact ⟨rfl, Below.refl _ _⟩

set_option maxRecDepth 100000 in
set_option maxHeartbeats 400000 in
theorem sdig_yes (s : ByteArray) (k : Nat) (w : World) (hs : s.size ≤ 1048576) (h1 : 1 ≤ k) (h2 : k ≤ 32) :
    Calls Tryz.prog 32 #[.string s, .int .i64 (k : Int)] w fun e w' => e = .returned (.string ⟨((sha s.data.toList).take k).toArray⟩) ∧ Below w.heap.size w w' := by
  have hl := sha_len s.data.toList
  have hx := extract_take (sha s.data.toList) k
  have hsp := spec_any s w hs
  obtain ⟨X, hX⟩ : ∃ X : ByteArray, X = ⟨(sha s.data.toList).toArray⟩ := ⟨_, rfl⟩
  have hXs : X.size = 32 := by rw [hX]; exact hl
  rw [← hX] at hx hsp
  have HX : Hid (X.extract 0 k = ⟨((sha s.data.toList).take k).toArray⟩) := hx
  clear hX hx hl
  have q1 : (1 : Int) ≤ (k : Int) := by omega
  have q2 : (k : Int) ≤ 32 := by omega
  go_enter Tryz.func32, Tryz.ntmps32
  go_wp2_with (first | (go_at_call 43; refine hsp.mono ?_; rintro e w' ⟨rfl, hb⟩) | go_in)
  go_ret
  rw [← HX.out]
  exact ⟨rfl, hb⟩
end Go.Proofs.YtdnbhejacpjgfaaGreatDoor
namespace Go.Proofs.YtdnbhejacpjgfaaGreatDoor
open Go.RowKit Go.Proofs.Sha

end Go.Proofs.YtdnbhejacpjgfaaGreatDoor
namespace Go.Proofs.YtdnbhejacpjgfaaGreatDoor
open Go.RowKit Go.Proofs.Sha

/-- What NodeHash answers. -/
def hashS (k v l r : ByteArray) (n : Int) : ByteArray := if (encS k v l r n).size = 0 then ⟨#[]⟩ else ⟨((sha (78 :: (encS k v l r n).data.toList)).take n.toNat).toArray⟩

theorem encS_size (k v l r : ByteArray) (n : Int) : (encS k v l r n).size ≤ 10000 ∧ (¬ (encS k v l r n).size = 0 → 1 ≤ n ∧ n ≤ 32) := by
  unfold encS
  split
  · rename_i h
    have ho := nodeOk_out h
    rw [T_size]
    unfold encL
    simp only [List.length_append, sized_length, List.length_cons, List.length_nil]
    have e1 : k.data.toList.length = k.size := rfl
    have e2 : v.data.toList.length = v.size := rfl
    have e3 : l.data.toList.length = l.size := rfl
    have e4 : r.data.toList.length = r.size := rfl
    omega
  · exact ⟨Nat.zero_le _, fun h => absurd rfl h⟩

theorem text_any (e : ByteArray) (w : World) (he : e.size ≤ 10000) :
    Calls Tryz.prog 33 #[.string e] w fun x w' => ∃ t : ByteArray, x = .returned (.string t) ∧ t.size ≤ 10001 ∧ Hid (t.data.toList = 78 :: e.data.toList) ∧ w = w' := by
  have z : ¬ (9223372036854775807 < (⟨#[78]⟩ : ByteArray).size + e.size) := by show ¬ _ < 1 + e.size; omega
  have z' : ¬ (9223372036854775807 < 1 + e.size) := by omega
  go_enter Tryz.func33, Tryz.ntmps33
  go_wp2
  go_ret
  refine ⟨_, rfl, ?_, ?_, rfl⟩
  · rw [ByteArray.size_append]; show 1 + e.size ≤ _; omega
  · show (_ : List UInt8) = _
    rw [ByteArray.data_append]
    simp

end Go.Proofs.YtdnbhejacpjgfaaGreatDoor
namespace Go.Proofs.YtdnbhejacpjgfaaGreatDoor
open Go.RowKit Go.Proofs.Sha

theorem row_take {w : World} {base g n cap : Nat} {xs : List Value} (h : Row w base g n cap xs) (k : Nat) (hk : k ≤ n) : Row w base g k cap (xs.take k) :=
  ⟨h.ge, h.lt, by rw [List.length_take, h.len]; exact Nat.min_eq_left hk, Nat.le_trans hk h.le, fun j hj => by rw [h.cell j (by omega), List.getElem?_take, if_pos hj], h.room, h.free⟩

set_option maxRecDepth 100000 in
set_option maxHeartbeats 800000 in
theorem ehash_any (s : ByteArray) (w : World) (hs : s.size ≤ 1048576)
    (hK : ∀ j, j < 64 → w.cell? ⟨0, j, none⟩ = some (.int .u32 ((kTab.getD j 0).toNat : Int))) :
    Calls Tryz.prog 58 #[.string s] w fun e w' => e = .returned (.agg ((sha (78 :: s.data.toList)).map B).toArray) ∧ Below w.heap.size w w' := by
  have hl0 : 0 < w.heap.size := World.block_lt_of_cell? w _ (hK 0 (by omega))
  have HK : Hid (∀ w' : World, Below w.heap.size w w' → ∀ j, j < 64 → w'.cell? ⟨0, j, none⟩ = some (.int .u32 ((kTab.getD j 0).toNat : Int))) := fun w' hb j hj => (hb.cell (by exact hl0)).trans (hK j hj)
  clear hK
  have hsl : (78 :: s.data.toList).length = 1 + s.size := by rw [List.length_cons]; show s.size + 1 = _; omega
  go_enter Tryz.func58, Tryz.ntmps58
  go_wp2_with (refine wpList_alloc_row _ rfl (some 2) rfl 110 110 rfl (zeros8.map B) alloc32 ?_; intro g2 w2 hr2 hb2)
  have hr2' : Row w2 w.heap.size g2 32 32 (zeros8.map B) := hr2
  have hge := hr2.ge
  have hlt := hr2.lt
  have hs2 := hb2.size
  clear hr2
  refine (new_any w2).mono ?_
  rintro e w3 ⟨rfl, hw3⟩
  have F3 : Fed w3 w2.heap.size [] (List.replicate 64 0) 0 := by rw [hw3]; exact fed_new w2
  have hb3 : Below w2.heap.size w2 w3 := by rw [hw3]; exact (Below.refl _ _).alloc (Nat.le_refl _) _
  clear hw3
  obtain ⟨b, hb⟩ : ∃ b, w2.heap.size = b := ⟨_, rfl⟩
  rw [hb] at F3
  rw [hb]
  have hs3 := hb3.size
  have hbw3 : Below w.heap.size w w3 := hb2.trans (hb3.mono hs2)
  have hR3 : Row w3 w.heap.size g2 32 32 (zeros8.map B) := hr2'.below hb3
  have hb0 : b ≠ 0 := by omega
  have hgb : g2 < b := by omega
  have hwb : w.heap.size ≤ b := by omega
  clear hr2' hb3 hb2
  go_wp2_with fail
  refine (feed_any b [] (List.replicate 64 0) ⟨#[78]⟩ w3 F3 (by simp; show 1 ≤ _; omega) hb0 (HK.out w3 hbw3)).mono ?_
  rintro e w3' ⟨rfl, ⟨k3, F3'⟩, hg3⟩
  have hs3' := hg3.size
  have hbw3' : Below w.heap.size w w3' := hbw3.trans (below_of_grown hg3 hwb (by omega))
  have hR3' : Row w3' w.heap.size g2 32 32 (zeros8.map B) := hR3.kept hg3 (by simp; omega)
  have F3n : Fed w3' b [78] k3 [78].length := F3'
  clear F3 F3' hg3 hR3 hbw3
  go_wp2_with fail
  refine (feed_any b [78] k3 s w3' F3n (by simp; omega) hb0 (HK.out w3' hbw3')).mono ?_
  rintro e w4 ⟨rfl, ⟨k4, F4⟩, hg4⟩
  have hs4 := hg4.size
  have hbw4 : Below w.heap.size w w4 := hbw3'.trans (below_of_grown hg4 hwb (by omega))
  have hR4 : Row w4 w.heap.size g2 32 32 (zeros8.map B) := hR3'.kept hg4 (by simp; omega)
  have F4n : Fed w4 b (78 :: s.data.toList) k4 (1 + s.size) := F4
  clear F3n F4 hg4 hR3' hbw3'
  have hfs := fin_sha (78 :: s.data.toList) k4 F4n.H.kl F4n.tk
  have H4 := F4n.H
  rw [hsl] at H4 hfs
  clear F4n
  go_wp2_with fail
  refine (finish_any b _ k4 _ (1 + s.size) w4 H4 (by omega) (by omega) hb0 (HK.out w4 hbw4)).mono ?_
  rintro e w5 ⟨rfl, hg5⟩
  rw [hfs]
  clear hfs H4
  have hbw5 : Below w.heap.size w w5 := hbw4.trans (below_of_grown hg5 hwb (by omega))
  have hR5 : Row w5 w.heap.size g2 32 32 (zeros8.map B) := hR4.kept hg5 (by simp; omega)
  have hln : ((sha (78 :: s.data.toList)).map B).length = 32 := by rw [List.length_map]; unfold sha; rw [outTo_length]
  have h1c : ∀ v ∈ (sha (78 :: s.data.toList)).map B, v.oneCell' = true := by
    intro v hv
    obtain ⟨x, _, rfl⟩ := List.mem_map.1 hv
    rfl
  obtain ⟨L, hL⟩ : ∃ L, (sha (78 :: s.data.toList)).map B = L := ⟨_, rfl⟩
  rw [hL] at hln h1c
  rw [hL]
  have HL : Hid ((sha (78 :: s.data.toList)).map B = L) := hL
  clear hL
  go_wp2_with (refine wpList_store_whole _ rfl rfl 110 (.tmp 2) (.tmp 11) rfl w.heap.size g2 32 (zeros8.map B) L rfl rfl hR5 hln size32 h1c ?_; intro w8 hR8 hg8)
  refine ret_row _ (p := 2) (ty := 110) rfl w.heap.size g2 32 32 L 5 rfl hR8 Tryz.underlying110 size32 rfl ?_
  refine ⟨?_, ?_⟩
  · rw [HL.out]
  · exact hbw5.trans (below_of_grown hg8 hge (by have := hbw5.size; omega))
end Go.Proofs.YtdnbhejacpjgfaaGreatDoor
namespace Go.Proofs.YtdnbhejacpjgfaaGreatDoor
open Go.RowKit Go.Proofs.Sha

/-- The reader in block r. -/
def Rd (r : Nat) (s : ByteArray) (a : Nat) (f : Bool) (w : World) : Prop := w.heap[r]? = some (.cells #[.string s, .int .i64 (a : Int), .bool f] 144)
/-- Of what was there only block r may have turned. -/
structure Mv (r : Nat) (w w' : World) : Prop where
  os : w'.os = w.os
  tape : w'.tape = w.tape
  output : w'.output = w.output
  size : w.heap.size ≤ w'.heap.size
  block : ∀ k, k < w.heap.size → k ≠ r → w'.heap[k]? = w.heap[k]?
theorem Mv.refl (r : Nat) (w : World) : Mv r w w := ⟨rfl, rfl, rfl, Nat.le_refl _, fun _ _ _ => rfl⟩
theorem Mv.trans {r : Nat} {a b c : World} (h : Mv r a b) (k : Mv r b c) : Mv r a c :=
  ⟨k.os.trans h.os, k.tape.trans h.tape, k.output.trans h.output, Nat.le_trans h.size k.size, fun i hi hr => (k.block i (Nat.lt_of_lt_of_le hi h.size) hr).trans (h.block i hi hr)⟩
theorem Mv.of_below {w w' : World} (r : Nat) (h : Below w.heap.size w w') : Mv r w w' := ⟨h.os, h.tape, h.output, h.size, fun k hk _ => h.block k hk⟩
theorem Mv.to_below {r B : Nat} {w w' : World} (h : Mv r w w') (hB : B ≤ w.heap.size) (hr : B ≤ r) : Below B w w' := ⟨h.os, h.tape, h.output, h.size, fun k hk => h.block k (Nat.lt_of_lt_of_le hk hB) (by omega)⟩
theorem Mv.alloc {r : Nat} {a w : World} (h : Mv r a w) (o : Obj) : Mv r a (w.alloc o) := h.trans (Mv.of_below r ((Below.refl _ _).alloc (Nat.le_refl _) _))
theorem Mv.drew {r : Nat} {a w : World} (h : Mv r a w) : Mv r a w.drew := ⟨h.os, h.tape, h.output, h.size, h.block⟩
theorem Mv.setCell {r : Nat} {a w : World} (h : Mv r a w) (i : Nat) (v : Value) : Mv r a (w.setCell ⟨r, i, none⟩ v) :=
  ⟨h.os, h.tape, h.output, by rw [show (w.setCell ⟨r, i, none⟩ v).heap.size = w.heap.size by simp [World.setCell]]; exact h.size, fun k hk hr => (heap_setCell_other w ⟨r, i, none⟩ k v hr).trans (h.block k hk hr)⟩
theorem Mv.cells {r k : Nat} {w w' : World} {o : Obj} (h : Mv r w w') (hk : w.heap[k]? = some o) (hr : k ≠ r) : w'.heap[k]? = some o :=
  (h.block k (Array.getElem?_eq_some_iff.1 hk).1 hr).trans hk
theorem Rd.lt {r : Nat} {s : ByteArray} {a : Nat} {f : Bool} {w : World} (h : Rd r s a f w) : r < w.heap.size := (Array.getElem?_eq_some_iff.1 h).1
theorem Rd.below {r : Nat} {s : ByteArray} {a : Nat} {f : Bool} {w w' : World} (h : Rd r s a f w) (hb : Below w.heap.size w w') : Rd r s a f w' := below_cells hb h
theorem Rd.alloc {r : Nat} {s : ByteArray} {a : Nat} {f : Bool} {w : World} (h : Rd r s a f w) (o : Obj) : Rd r s a f (w.alloc o) := h.below ((Below.refl _ _).alloc (Nat.le_refl _) _)
theorem Rd.drew {r : Nat} {s : ByteArray} {a : Nat} {f : Bool} {w : World} (h : Rd r s a f w) : Rd r s a f w.drew := h
theorem Rd.setF {r : Nat} {s : ByteArray} {a : Nat} {f : Bool} {w : World} (h : Rd r s a f w) (g : Bool) : Rd r s a g (w.setCell ⟨r, 2, none⟩ (.bool g)) := heap_setCell_same w r 2 _ 144 _ h
theorem Rd.setA {r : Nat} {s : ByteArray} {a : Nat} {f : Bool} {w : World} (h : Rd r s a f w) (b : Nat) : Rd r s b f (w.setCell ⟨r, 1, none⟩ (.int .i64 (b : Int))) := heap_setCell_same w r 1 _ 144 _ h
theorem frozen_of_heap {w : World} {k j : Nat} {cs : Array Value} {t : TypeId} (h : w.heap[k]? = some (.cells cs t)) : w.frozen? ⟨k, j, none⟩ = false := by rw [World.frozen?, h]; rfl

theorem fail_any (r : Nat) (s : ByteArray) (a : Nat) (f : Bool) (w : World) (h : Rd r s a f w) :
    Calls Tryz.prog 108 #[.pointer (some ⟨r, 0, none⟩)] w fun e w' => e = .returned (.tuple #[]) ∧ Rd r s a true w' ∧ Mv r w w' := by
  have c2 : w.cell? ⟨r, 2, none⟩ = some (.bool f) := Lib.cell_of_heap h 2
  have f2 : w.frozen? ⟨r, 2, none⟩ = false := frozen_of_heap h
  go_enter Tryz.func108, Tryz.ntmps108
  go_wp2
  go_end0
  exact ⟨rfl, h.setF true, (Mv.refl r w).setCell 2 _⟩

/-- What 'next' answers and leaves. -/
def NX (s : ByteArray) (a : Nat) (f : Bool) (n : Nat) (t : ByteArray) (a' : Nat) (f' : Bool) : Prop :=
  (f = false ∧ a + n ≤ s.size ∧ t = s.extract a (a + n) ∧ a' = a + n ∧ f' = false) ∨ ((f = true ∨ ¬ a + n ≤ s.size) ∧ t = ⟨#[]⟩ ∧ a' = a ∧ f' = true)

end Go.Proofs.YtdnbhejacpjgfaaGreatDoor
namespace Go.Proofs.YtdnbhejacpjgfaaGreatDoor
open Go.RowKit Go.Proofs.Sha
set_option maxRecDepth 100000 in
theorem next_any (r : Nat) (s : ByteArray) (a : Nat) (f : Bool) (n : Nat) (w : World) (h : Rd r s a f w) (ha : a ≤ s.size) (hs : s.size ≤ 1048576) (hn : n ≤ 4294967296) :
    Calls Tryz.prog 114 #[.pointer (some ⟨r, 0, none⟩), .int .i64 (n : Int)] w fun e w' => ∃ t a' f', e = .returned (.string t) ∧ Hid (NX s a f n t a' f') ∧ a' ≤ s.size ∧ t.size ≤ s.size ∧ Rd r s a' f' w' ∧ Mv r w w' := by
  have c0 : w.cell? ⟨r, 0, none⟩ = some (.string s) := Lib.cell_of_heap h 0
  have c1 : w.cell? ⟨r, 1, none⟩ = some (.int .i64 (a : Int)) := Lib.cell_of_heap h 1
  have c2 : w.cell? ⟨r, 2, none⟩ = some (.bool f) := Lib.cell_of_heap h 2
  have f1 : w.frozen? ⟨r, 1, none⟩ = false := frozen_of_heap h
  cases f
  · by_cases h1 : a + n ≤ s.size
    · have z1 : decide ((s.size : Int) - (a : Int) < (n : Int)) = false := by simp; omega
      have z2 : IntKind.i64.wrap ((s.size : Int) - (a : Int)) = (s.size : Int) - (a : Int) := wrap_i64_in _ (by omega) (by omega)
      go_enter Tryz.func114, Tryz.ntmps114
      go_wp2_with fail
      go_region_held3 (fun W => W.cell? ⟨r, 0, none⟩ = some (.string s) ∧ W.cell? ⟨r, 1, none⟩ = some (.int .i64 (a : Int)) ∧ W.cell? ⟨r, 2, none⟩ = some (.bool false)) (exact ⟨c0, c1, c2⟩) (fail)
      go_wp2_with fail
      have z3 : IntKind.i64.wrap ((a : Int) + (n : Int)) = (a : Int) + (n : Int) := wrap_i64_in _ (by omega) (by omega)
      have y1 : (0 : Int) ≤ (a : Int) := by omega
      have y2 : (a : Int) ≤ (a : Int) + (n : Int) := by omega
      have y3 : (a : Int) + (n : Int) ≤ (s.size : Int) := by omega
      go_region_held3 (fun W => W.cell? ⟨r, 0, none⟩ = some (.string s) ∧ W.cell? ⟨r, 1, none⟩ = some (.int .i64 (a : Int))) (exact ⟨c0, c1⟩) (fail)
      go_wp2
      go_ret
      have e1 : ((a : Int) + (n : Int)).toNat = a + n := by omega
      have e2 : ((a : Int) + (n : Int)) = ((a + n : Nat) : Int) := by omega
      rw [e1, e2]
      refine ⟨_, a + n, false, rfl, .inl ⟨rfl, h1, rfl, rfl, rfl⟩, h1, ?_, h.setA (a + n), ((Mv.refl r w).setCell 1 _).drew.drew⟩
      rw [ByteArray.size_extract]; omega
    · have z1 : decide ((s.size : Int) - (a : Int) < (n : Int)) = true := by simp; omega
      have z2 : IntKind.i64.wrap ((s.size : Int) - (a : Int)) = (s.size : Int) - (a : Int) := wrap_i64_in _ (by omega) (by omega)
      go_enter Tryz.func114, Tryz.ntmps114
      go_wp2_with fail
      go_region_held3 (fun W => W.cell? ⟨r, 0, none⟩ = some (.string s) ∧ W.cell? ⟨r, 1, none⟩ = some (.int .i64 (a : Int)) ∧ W.cell? ⟨r, 2, none⟩ = some (.bool false)) (exact ⟨c0, c1, c2⟩) (fail)
      go_wp2_with (first | (go_at_call 108; refine (fail_any r s a false _ h.drew).mono ?_; rintro e w2 ⟨rfl, hr2, hm2⟩))
      go_ret
      exact ⟨_, _, _, rfl, .inr ⟨.inr h1, rfl, rfl, rfl⟩, ha, Nat.zero_le _, hr2, (Mv.refl r w).drew.trans hm2⟩
  · go_enter Tryz.func114, Tryz.ntmps114
    go_wp2_with fail
    go_region
    go_wp2_with (first | (go_at_call 108; refine (fail_any r s a true _ h.drew).mono ?_; rintro e w2 ⟨rfl, hr2, hm2⟩))
    go_ret
    exact ⟨_, _, _, rfl, .inr ⟨.inl rfl, rfl, rfl, rfl⟩, ha, Nat.zero_le _, hr2, (Mv.refl r w).drew.trans hm2⟩
end Go.Proofs.YtdnbhejacpjgfaaGreatDoor
namespace Go.Proofs.YtdnbhejacpjgfaaGreatDoor
open Go.RowKit Go.Proofs.Sha

theorem i64_or_nat (a b : Nat) (ha : a < 4294967296) (hb : b < 4294967296) : bits .or .i64 (a : Int) (b : Int) = ((a ||| b : Nat) : Int) := by
  have hx : a ||| b < 2 ^ 32 := Nat.or_lt_two_pow (by omega) (by omega)
  show IntKind.i64.wrap ((BitVec.ofInt 64 (a : Int) ||| BitVec.ofInt 64 (b : Int)).toNat : Int) = _
  rw [BitVec.toNat_or, ofInt_u64 a (by omega), ofInt_u64 b (by omega)]
  exact wrap_i64_in _ (by omega) (by omega)
theorem i64_and_nat (a b : Nat) (ha : a < 4294967296) (hb : b < 4294967296) : bits .and .i64 (a : Int) (b : Int) = ((a &&& b : Nat) : Int) := by
  have hx : a &&& b < 2 ^ 32 := Nat.and_lt_two_pow _ (by omega)
  show IntKind.i64.wrap ((BitVec.ofInt 64 (a : Int) &&& BitVec.ofInt 64 (b : Int)).toNat : Int) = _
  rw [BitVec.toNat_and, ofInt_u64 a (by omega), ofInt_u64 b (by omega)]
  exact wrap_i64_in _ (by omega) (by omega)

/-- The number of the first i bytes of a text. -/
def valTo (z : Nat) (low : Bool) (b : Nat → Nat) : Nat → Nat
  | 0 => 0
  | i + 1 => valTo z low b i ||| b i * 2 ^ (8 * (if low then i else z - 1 - i))
theorem piece_lt (m k : Nat) (hm : m < 256) (hk : k ≤ 24) : m * 2 ^ k < 4294967296 := by
  have h1 : 2 ^ k ≤ 2 ^ 24 := Nat.pow_le_pow_right (by omega) hk
  have h2 : m * 2 ^ k ≤ 255 * 2 ^ 24 := Nat.mul_le_mul (by omega) h1
  have h3 : 255 * 2 ^ 24 < 4294967296 := by decide
  omega
theorem valTo_lt (z : Nat) (low : Bool) (b : Nat → Nat) (hb : ∀ i, b i < 256) (hz : z ≤ 4) : ∀ i, i ≤ z → valTo z low b i < 4294967296
  | 0, _ => by rw [valTo]; omega
  | i + 1, hi => by
    rw [valTo]
    have h1 := valTo_lt z low b hb hz i (by omega)
    have h2 := piece_lt (b i) (8 * (if low then i else z - 1 - i)) (hb i) (by split <;> omega)
    have := Nat.or_lt_two_pow (n := 32) (x := valTo z low b i) (y := b i * 2 ^ (8 * (if low then i else z - 1 - i))) (by omega) (by omega)
    omega
/-- The bytes of a text, zeros behind it. -/
def byteAt (t : ByteArray) (i : Nat) : Nat := (t.data.toList.getD i 0).toNat
theorem byteAt_lt (t : ByteArray) (i : Nat) : byteAt t i < 256 := UInt8.toNat_lt _

set_option maxRecDepth 100000 in
set_option maxHeartbeats 1000000 in
theorem ntake (z : Nat) (low : Bool) (r : Nat) (s : ByteArray) (a : Nat) (f : Bool) (w : World) (h : Rd r s a f w) (ha : a ≤ s.size) (hs : s.size ≤ 1048576) (hz : 0 < z) (hz4 : z ≤ 4) :
    Calls Tryz.prog 113 #[.agg #[.int .i64 (z : Int), .bool low], .pointer (some ⟨r, 0, none⟩)] w fun e w' => ∃ (v : Nat) (t : ByteArray) (a' : Nat) (f' : Bool), e = .returned (.int .i64 (v : Int)) ∧ Hid (NX s a f z t a' f') ∧ Hid (v = valTo z low (byteAt t) t.size) ∧ a' ≤ s.size ∧ v < 4294967296 ∧ Rd r s a' f' w' ∧ Mv r w w' := by
  have hlt := h.lt
  have HN : Hid (∀ w', Rd r s a f w' → Calls Tryz.prog 114 #[.pointer (some ⟨r, 0, none⟩), .int .i64 (z : Int)] w' fun e w'' => ∃ t a' f', e = .returned (.string t) ∧ Hid (NX s a f z t a' f') ∧ a' ≤ s.size ∧ t.size ≤ s.size ∧ Rd r s a' f' w'' ∧ Mv r w' w'') := fun w' h' => next_any r s a f z w' h' ha hs (by omega)
  go_enter Tryz.func113, Tryz.ntmps113
  go_wp2_with (first | (go_at_call 114; refine (HN.out _ (h.alloc _)).mono ?_; rintro e w1 ⟨t, a', f', rfl, HX, ha', ht, hr1, hm1⟩) | (refine wpList_bytes_row _ rfl (.tmp 11) 9 80 5 rfl t rfl Tryz.underlying9 Tryz.underlying80 Tryz.underlying5 ?_; intro g cap w2 hrow hb2))
  have hn1 := hm1.cells (heap_alloc_new w (.cells #[.int .i64 (z : Int), .bool low] 166)) (by omega)
  have hn2 := below_cells hb2 hn1
  have hr2 := hr1.below hb2
  have hm2 : Mv r w w2 := (((Mv.refl r w).alloc _).trans hm1).trans (Mv.of_below r hb2)
  have htz : t.size ≤ z := by
    rcases HX.out with ⟨_, h2, h3, _⟩ | ⟨_, h3, _⟩
    · rw [h3, ByteArray.size_extract]; omega
    · rw [h3]; exact Nat.zero_le _
  have HB := byteAt_lt t
  have HVL : Hid (∀ i, i ≤ z → valTo z low (byteAt t) i < 4294967296) := fun i hi => valTo_lt z low (byteAt t) HB hz4 i hi
  have HRow : Hid (∀ W, Below w2.heap.size w2 W → ∀ i, i < t.size → W.cell? ⟨g, i, none⟩ = some (.int .u8 (byteAt t i : Int))) := by
    intro W hW i hi
    rw [(hrow.below hW).cell i hi, List.getElem?_map, List.getElem?_eq_getElem (by exact hi)]
    unfold byteAt
    rw [List.getD_eq_getElem?_getD, List.getElem?_eq_getElem (by exact hi)]
    rfl
  clear hb2 hrow hn1 hm1 hr1 HN
  go_loopw [5, 14] (fun t5 t14 wr => ∃ i v : Nat, i ≤ t.size ∧ t5 = .int .i64 (v : Int) ∧ t14 = .int .i64 (i : Int) ∧ Hid (v = valTo z low (byteAt t) i) ∧ Below w2.heap.size w2 wr) (fun _ t14 _ => t.size - (intOf t14).toNat)
  case atStart => exact ⟨0, 0, Nat.zero_le _, rfl, rfl, rfl, Below.refl _ _⟩
  case round =>
    obtain ⟨i, v, hi, rfl, rfl, HV, hb⟩ := hrel
    by_cases h1 : i < t.size
    · have z1 : decide ((i : Int) < (t.size : Int)) = true := by simp; omega
      have y1 : (0 : Int) ≤ (i : Int) := by omega
      have y2 : (i : Int) < (t.size : Int) := by omega
      have cb := HRow.out wr hb i h1
      have hn := below_cells hb hn2
      have c0 : wr.cell? ⟨w.heap.size, 0, none⟩ = some (.int .i64 (z : Int)) := Lib.cell_of_heap hn 0
      have c1 : wr.cell? ⟨w.heap.size, 1, none⟩ = some (.bool low) := Lib.cell_of_heap hn 1
      obtain ⟨k, hk, hk24, hkb⟩ : ∃ k : Nat, sh z low i = (k : Int) ∧ k ≤ 24 ∧ k = 8 * (if low then i else z - 1 - i) := by
        unfold sh
        cases low
        · exact ⟨8 * (z - 1 - i), by simp only [Bool.false_eq_true, if_false]; omega, by omega, rfl⟩
        · exact ⟨8 * i, by simp only [if_true]; omega, by omega, rfl⟩
      have HC : Hid (∀ w', Calls Tryz.prog 112 #[.agg #[.int .i64 (z : Int), .bool low], .int .i64 (i : Int)] w' fun e w'' => e = .returned (.int .i64 (k : Int)) ∧ Below w'.heap.size w' w'') := fun w' => by rw [← hk]; exact shift_any _ _ _ w' (by omega) (by omega) (by omega) (by omega)
      have k0 : (0 : Int) ≤ (k : Int) := by omega
      obtain ⟨m, hm⟩ : ∃ m, byteAt t i = m := ⟨_, rfl⟩
      have hm256 : m < 256 := by rw [← hm]; exact HB i
      obtain ⟨q, hq⟩ : ∃ q, m * 2 ^ k = q := ⟨_, rfl⟩
      have hq32 : q < 4294967296 := by rw [← hq]; exact piece_lt m k hm256 hk24
      have hv32 : v < 4294967296 := by rw [HV.out]; exact HVL.out i (by omega)
      have hw : IntKind.i64.wrap ((m : Int) * 2 ^ k) = (q : Int) := by
        rw [← hq, wrap_i64_in]
        · rw [Int.natCast_mul, Int.natCast_pow]; rfl
        · have : (0 : Int) ≤ (m : Int) * 2 ^ k := Int.mul_nonneg (by omega) (Int.pow_nonneg (by omega))
          omega
        · have e : (m : Int) * 2 ^ k = (q : Int) := by rw [← hq, Int.natCast_mul, Int.natCast_pow]; rfl
          omega
      obtain ⟨v', hv'⟩ : ∃ v', v ||| q = v' := ⟨_, rfl⟩
      have hor : bits .or .i64 (v : Int) (q : Int) = (v' : Int) := by rw [← hv']; exact i64_or_nat v q hv32 hq32
      have HV' : Hid (v' = valTo z low (byteAt t) (i + 1)) := by show _ = _; rw [valTo, ← HV.out, hm, ← hkb, hq, hv']
      rw [hm] at cb
      clear hv' hq hkb hk hm
      go_wp2_with (first | (go_at_call 112; refine (HC.out _).mono ?_; rintro e w3 ⟨rfl, hb3⟩))
      refine ⟨⟨i + 1, v', by omega, rfl, congrArg (Value.int .i64) (by omega), HV', hb.trans (hb3.mono hb.size)⟩, ?_⟩
      show t.size - ((i : Int) + 1).toNat < t.size - ((i : Int)).toNat
      omega
    · have e : i = t.size := by omega
      have z1 : decide ((i : Int) < (t.size : Int)) = false := by simp; omega
      go_wp2_with fail
      go_ret
      have hv32 : v < 4294967296 := by rw [HV.out]; exact HVL.out i (by omega)
      subst e
      exact ⟨v, t, a', f', rfl, HX, HV, ha', hv32, hr2.below hb, hm2.trans (Mv.of_below r hb)⟩
end Go.Proofs.YtdnbhejacpjgfaaGreatDoor
namespace Go.Proofs.YtdnbhejacpjgfaaGreatDoor
open Go.RowKit Go.Proofs.Sha

theorem NX.fault {s : ByteArray} {a : Nat} {f : Bool} {n : Nat} {t : ByteArray} {a' : Nat} (h : NX s a f n t a' true) : t = ⟨#[]⟩ := by
  rcases h with ⟨_, _, _, _, h⟩ | ⟨_, h, _⟩
  · cases h
  · exact h

set_option maxRecDepth 100000 in
theorem rint (z : Nat) (low : Bool) (r : Nat) (s : ByteArray) (a : Nat) (f : Bool) (w : World) (h : Rd r s a f w) (ha : a ≤ s.size) (hs : s.size ≤ 1048576) (hz : 0 < z) (hz4 : z ≤ 4) :
    Calls Tryz.prog 106 #[.pointer (some ⟨r, 0, none⟩), .iface 166 (.agg #[.int .i64 (z : Int), .bool low])] w fun e w' => ∃ (v : Nat) (t : ByteArray) (a' : Nat) (f' : Bool), e = .returned (.int .i64 (v : Int)) ∧ Hid (NX s a f z t a' f') ∧ Hid (v = valTo z low (byteAt t) t.size) ∧ a' ≤ s.size ∧ v < 4294967296 ∧ Rd r s a' f' w' ∧ Mv r w w' := by
  have hmt : ∀ w : World, (method 287 166 (.agg #[.int .i64 (z : Int), .bool low]) "loop.example/s03048/impl.take").run Tryz.prog w = .ok (113, .agg #[.int .i64 (z : Int), .bool low]) w := fun _ => by kernel_rfl
  have HC := ntake z low r s a f w h ha hs hz hz4
  have HCh : Hid (Calls Tryz.prog 113 #[.agg #[.int .i64 (z : Int), .bool low], .pointer (some ⟨r, 0, none⟩)] w fun e w' => ∃ (v : Nat) (t : ByteArray) (a' : Nat) (f' : Bool), e = .returned (.int .i64 (v : Int)) ∧ Hid (NX s a f z t a' f') ∧ Hid (v = valTo z low (byteAt t) t.size) ∧ a' ≤ s.size ∧ v < 4294967296 ∧ Rd r s a' f' w' ∧ Mv r w w') := HC
  clear HC
  go_enter Tryz.func106, Tryz.ntmps106
  go_wp2_with (first | (go_at_call 113; refine HCh.out.mono ?_; rintro e w1 ⟨v, t, a', f', rfl, HX, HV, ha', hv, hr1, hm1⟩; have c2 : w1.cell? ⟨r, 2, none⟩ = some (.bool f') := Lib.cell_of_heap hr1 2))
  · rename_i hf
    go_ret
    subst hf
    have e := NX.fault HX.out
    exact ⟨0, t, a', true, rfl, HX, by show 0 = valTo z low (byteAt t) t.size; rw [e]; rfl, ha', by omega, hr1, hm1⟩
  · go_ret
    exact ⟨v, t, a', f', rfl, HX, HV, ha', hv, hr1, hm1⟩

theorem clone_any (t : ByteArray) (w : World) (ht : t.size ≤ 1048576) :
    Calls Tryz.prog 119 #[.string t] w fun e w' => e = .returned (.string t) ∧ Below w.heap.size w w' := by
  have HC : Hid (Calls Tryz.prog 120 #[.string t] w fun e w' => e = .returned (.string t) ∧ Below w.heap.size w w') := Tryz.stringslite_Clone t w (by omega)
  go_enter Tryz.func119, Tryz.ntmps119
  go_wp2_with (first | (go_at_call 120; refine HC.out.mono ?_; rintro e w1 ⟨rfl, hb1⟩))
  go_ret
  exact ⟨rfl, hb1⟩

set_option maxRecDepth 100000 in
theorem ptake (n : Nat) (r : Nat) (s : ByteArray) (a : Nat) (f : Bool) (w : World) (h : Rd r s a f w) (ha : a ≤ s.size) (hs : s.size ≤ 1048576) (hn : n ≤ 4294967296) :
    Calls Tryz.prog 118 #[.agg #[.int .i64 (n : Int)], .pointer (some ⟨r, 0, none⟩)] w fun e w' => ∃ (t : ByteArray) (a' : Nat) (f' : Bool), e = .returned (.string t) ∧ Hid (NX s a f n t a' f') ∧ a' ≤ s.size ∧ t.size ≤ s.size ∧ Rd r s a' f' w' ∧ Mv r w w' := by
  have HN : Hid (∀ w', Rd r s a f w' → Calls Tryz.prog 114 #[.pointer (some ⟨r, 0, none⟩), .int .i64 (n : Int)] w' fun e w'' => ∃ t a' f', e = .returned (.string t) ∧ Hid (NX s a f n t a' f') ∧ a' ≤ s.size ∧ t.size ≤ s.size ∧ Rd r s a' f' w'' ∧ Mv r w' w'') := fun w' h' => next_any r s a f n w' h' ha hs hn
  go_enter Tryz.func118, Tryz.ntmps118
  go_wp2_with (first | (go_at_call 114; refine (HN.out _ (h.alloc _)).mono ?_; rintro e w1 ⟨t, a', f', rfl, HX, ha', ht, hr1, hm1⟩) | (go_at_call 119; refine (clone_any t _ (by omega)).mono ?_; rintro e w2 ⟨rfl, hb2⟩))
  go_ret
  exact ⟨t, a', f', rfl, HX, ha', ht, hr1.below hb2, (((Mv.refl r w).alloc _).trans hm1).trans (Mv.of_below r hb2)⟩

set_option maxRecDepth 100000 in
theorem rplain (n : Nat) (r : Nat) (s : ByteArray) (a : Nat) (f : Bool) (w : World) (h : Rd r s a f w) (ha : a ≤ s.size) (hs : s.size ≤ 1048576) (hn : n ≤ 4294967296) :
    Calls Tryz.prog 104 #[.pointer (some ⟨r, 0, none⟩), .iface 172 (.agg #[.int .i64 (n : Int)])] w fun e w' => ∃ (t : ByteArray) (a' : Nat) (f' : Bool), e = .returned (.string t) ∧ Hid (NX s a f n t a' f') ∧ a' ≤ s.size ∧ t.size ≤ s.size ∧ Rd r s a' f' w' ∧ Mv r w w' := by
  have hmt : ∀ w : World, (method 287 172 (.agg #[.int .i64 (n : Int)]) "loop.example/s03048/impl.take").run Tryz.prog w = .ok (118, .agg #[.int .i64 (n : Int)]) w := fun _ => by kernel_rfl
  have HCh : Hid (Calls Tryz.prog 118 #[.agg #[.int .i64 (n : Int)], .pointer (some ⟨r, 0, none⟩)] w fun e w' => ∃ (t : ByteArray) (a' : Nat) (f' : Bool), e = .returned (.string t) ∧ Hid (NX s a f n t a' f') ∧ a' ≤ s.size ∧ t.size ≤ s.size ∧ Rd r s a' f' w' ∧ Mv r w w') := ptake n r s a f w h ha hs hn
  go_enter Tryz.func104, Tryz.ntmps104
  go_wp2_with (first | (go_at_call 118; refine HCh.out.mono ?_; rintro e w1 ⟨t, a', f', rfl, HX, ha', ht, hr1, hm1⟩; have c2 : w1.cell? ⟨r, 2, none⟩ = some (.bool f') := Lib.cell_of_heap hr1 2))
  · rename_i hf
    go_ret
    subst hf
    exact ⟨⟨#[]⟩, a', true, rfl, by rw [← NX.fault HX.out]; exact HX, ha', Nat.zero_le _, hr1, hm1⟩
  · go_ret
    exact ⟨t, a', f', rfl, HX, ha', ht, hr1, hm1⟩

/-- What a text with its size ahead answers and leaves. -/
def SX (z : Nat) (low : Bool) (s : ByteArray) (a : Nat) (f : Bool) (t : ByteArray) (a' : Nat) (f' : Bool) : Prop :=
  ∃ (t1 : ByteArray) (a1 : Nat) (f1 : Bool), NX s a f z t1 a1 f1 ∧ NX s a1 f1 (valTo z low (byteAt t1) t1.size) t a' f'

set_option maxRecDepth 100000 in
theorem stake (z : Nat) (low : Bool) (r : Nat) (s : ByteArray) (a : Nat) (f : Bool) (w : World) (h : Rd r s a f w) (ha : a ≤ s.size) (hs : s.size ≤ 1048576) (hz : 0 < z) (hz4 : z ≤ 4) :
    Calls Tryz.prog 116 #[.agg #[.int .i64 (z : Int), .bool low], .pointer (some ⟨r, 0, none⟩)] w fun e w' => ∃ (t : ByteArray) (a' : Nat) (f' : Bool), e = .returned (.string t) ∧ Hid (SX z low s a f t a' f') ∧ a' ≤ s.size ∧ t.size ≤ s.size ∧ Rd r s a' f' w' ∧ Mv r w w' := by
  have HI : Hid (∀ w', Rd r s a f w' → Calls Tryz.prog 106 #[.pointer (some ⟨r, 0, none⟩), .iface 166 (.agg #[.int .i64 (z : Int), .bool low])] w' fun e w'' => ∃ (v : Nat) (t : ByteArray) (a' : Nat) (f' : Bool), e = .returned (.int .i64 (v : Int)) ∧ Hid (NX s a f z t a' f') ∧ Hid (v = valTo z low (byteAt t) t.size) ∧ a' ≤ s.size ∧ v < 4294967296 ∧ Rd r s a' f' w'' ∧ Mv r w' w'') := fun w' h' => rint z low r s a f w' h' ha hs hz hz4
  go_enter Tryz.func116, Tryz.ntmps116
  go_wp2_with (first | (go_at_call 106; refine (HI.out _ (h.alloc _)).mono ?_; rintro e w1 ⟨v, t1, a1, f1, rfl, HX, HV, ha1, hv, hr1, hm1⟩) | (go_at_call 104; refine (rplain v r s a1 f1 _ hr1 ha1 hs (by omega)).mono ?_; rintro e w2 ⟨t, a', f', rfl, HY, ha', ht, hr2, hm2⟩))
  go_ret
  refine ⟨t, a', f', rfl, ⟨t1, a1, f1, HX.out, ?_⟩, ha', ht, hr2, (((Mv.refl r w).alloc _).trans hm1).trans hm2⟩
  rw [← HV.out]
  exact HY.out

set_option maxRecDepth 100000 in
theorem rsized (z : Nat) (low : Bool) (r : Nat) (s : ByteArray) (a : Nat) (f : Bool) (w : World) (h : Rd r s a f w) (ha : a ≤ s.size) (hs : s.size ≤ 1048576) (hz : 0 < z) (hz4 : z ≤ 4) :
    Calls Tryz.prog 104 #[.pointer (some ⟨r, 0, none⟩), .iface 168 (.agg #[.int .i64 (z : Int), .bool low])] w fun e w' => ∃ (t : ByteArray) (a' : Nat) (f' : Bool), e = .returned (.string t) ∧ Hid (SX z low s a f t a' f') ∧ a' ≤ s.size ∧ t.size ≤ s.size ∧ Rd r s a' f' w' ∧ Mv r w w' := by
  have hmt : ∀ w : World, (method 287 168 (.agg #[.int .i64 (z : Int), .bool low]) "loop.example/s03048/impl.take").run Tryz.prog w = .ok (116, .agg #[.int .i64 (z : Int), .bool low]) w := fun _ => by kernel_rfl
  have HCh : Hid (Calls Tryz.prog 116 #[.agg #[.int .i64 (z : Int), .bool low], .pointer (some ⟨r, 0, none⟩)] w fun e w' => ∃ (t : ByteArray) (a' : Nat) (f' : Bool), e = .returned (.string t) ∧ Hid (SX z low s a f t a' f') ∧ a' ≤ s.size ∧ t.size ≤ s.size ∧ Rd r s a' f' w' ∧ Mv r w w') := stake z low r s a f w h ha hs hz hz4
  go_enter Tryz.func104, Tryz.ntmps104
  go_wp2_with (first | (go_at_call 116; refine HCh.out.mono ?_; rintro e w1 ⟨t, a', f', rfl, HX, ha', ht, hr1, hm1⟩; have c2 : w1.cell? ⟨r, 2, none⟩ = some (.bool f') := Lib.cell_of_heap hr1 2))
  · rename_i hf
    go_ret
    subst hf
    obtain ⟨t1, a1, f1, h1, h2⟩ := HX.out
    exact ⟨⟨#[]⟩, a', true, rfl, ⟨t1, a1, f1, h1, by rw [← NX.fault h2]; exact h2⟩, ha', Nat.zero_le _, hr1, hm1⟩
  · go_ret
    exact ⟨t, a', f', rfl, HX, ha', ht, hr1, hm1⟩
end Go.Proofs.YtdnbhejacpjgfaaGreatDoor
