import Derived.Test.YtmoajibmbppkjaeGreatDoorZbd
import Derived.Test.YtmoajibmbppkjaeGreatDoorZbq
import Derived.Test.YtmoajibmbppkjaeGreatDoorZba
import Derived.Test.YtmoajibmbppkjaeGreatDoorZbp
import Derived.Test.YtmoajibmbppkjaeGreatDoorZan
import Derived.Test.YtmoajibmbppkjaeGreatDoorZas
import Derived.Test.YtmoajibmbppkjaeGreatDoorZat
import Derived.Test.YtmoajibmbppkjaeGreatDoorZbm
namespace Go.Proofs.YtmoajibmbppkjaeGreatDoor
open Go.RowKit Go.Proofs.Sha

theorem own2_set3 {w : World} {base gw n : Nat} {v : Value} {xs : List Value} (h : w.ownsRow base 46 2 v n xs) (hg : gw < base) (x y z : Value) : (((w.setCell ⟨gw, 0, none⟩ x).setCell ⟨gw, 1, none⟩ y).setCell ⟨gw, 2, none⟩ z).ownsRow base 46 2 v n xs :=
  own2_kept h (fun q hv _ => by
    have := (own2_cells h hv).1
    rw [Below.heap_setCell _ _ _ _ (by show q ≠ gw; omega), Below.heap_setCell _ _ _ _ (by show q ≠ gw; omega), Below.heap_setCell _ _ _ _ (by show q ≠ gw; omega)])

set_option maxRecDepth 100000 in
set_option maxHeartbeats 4000000 in
theorem srange_yes (HD : Hid DigSaid) (D : Dec) (wd : Nat) (HDd : Hid (DecSaid 176 wd D)) (hdo : DecOk wd D) (a : Option Addr) (ss : List ByteArray) (c : Nat) (root lo hi : ByteArray) (w : World) (h : SArg a ss w) (hq : Hid (∀ j, (ss.getD j ⟨#[]⟩).size ≤ 1048575)) (h1 : 1 ≤ wd) (h2 : wd ≤ 32)
    (hr : root.size ≤ 1048576) (hlo : lo.size ≤ 1048576) (hhi : hi.size ≤ 1048576) (hp : poolOk (wd : Int) ss.length = true) (hk : hashOk root.size (wd : Int) = true) (hR0 : (goF (fndD D wd ss) hgW lo hi 501 root ⟨#[]⟩ ⟨#[]⟩ ⟨#[]⟩ 0).1 = 0) :
    Calls Tryz.prog 49 #[.agg #[.int .i64 (wd : Int), .slice a ss.length c], .string root, .string lo, .string hi] w (RangeAt (rangeM (fndD D wd ss) (wd : Int) ss.length root lo hi) w) := by
  have HP := fun w' => poolOk_any (wd : Int) a ss.length c w' h.le
  have HH := fun w' => hashOk_any root (wd : Int) w' hr
  rw [hp] at HP
  rw [hk] at HH
  have hS := SR.mk0 w (wd : Int) a ss.length c
  obtain ⟨R, hR⟩ : ∃ R, goF (fndD D wd ss) hgW lo hi 501 root ⟨#[]⟩ ⟨#[]⟩ ⟨#[]⟩ 0 = R := ⟨_, rfl⟩
  rw [hR] at hR0
  have hRM := rangeM_ok (lo := lo) (hi := hi) (by rw [hp, hk]; rfl : (poolOk (wd : Int) ss.length && hashOk root.size (wd : Int)) = true) hR
  obtain ⟨Z, hZ⟩ : ∃ Z, rangeM (fndD D wd ss) (wd : Int) ss.length root lo hi = Z := ⟨_, rfl⟩
  rw [hZ] at hRM ⊢
  obtain ⟨N, hN⟩ : ∃ N, ss.length = N := ⟨_, rfl⟩
  have HHS : Hid (∀ w', Below w.heap.size w w' → Calls Tryz.prog 102 #[.agg #[.int .i64 (wd : Int), .slice a N c]] w' fun e w'' => ∃ g c', e = .returned (.slice (some ⟨g, 0, none⟩) N c') ∧ (∀ W, Below w''.heap.size w'' W → Calls Tryz.prog 107 #[.agg #[.int .i64 (wd : Int), .slice a N c], .slice (some ⟨g, 0, none⟩) N c', .string root, .string ⟨#[]⟩, .agg #[.string ⟨#[]⟩, .string ⟨#[]⟩], .string lo, .string hi, .int .i64 0] W (GoPost R W)) ∧ Below w'.heap.size w' w'') := by
    intro w' hb
    have hA := h.below hb
    rw [← hN]
    refine (hashes_any HD wd a ss c w' hA hq h1 h2).mono ?_
    rintro e w'' ⟨g, c', rfl, hrow, hb2⟩
    refine ⟨g, c', rfl, fun W hW => ?_, hb2⟩
    have hA2 := hA.below hb2
    rw [← hR]
    refine go_all (fndD D wd ss) wd (fndD_ok D wd ss hdo) a ss.length c g c' lo hi hlo hhi w'' (fun w3 hash hb3 => ?_) 501 root ⟨#[]⟩ ⟨#[]⟩ ⟨#[]⟩ 0 W (by omega) (by omega) hW (by decide) (by decide) (by decide)
    have := lfind_any D wd HDd a ss c g c' (ss.map (hashT wd)) hash w3 (hA2.below hb3) (by rw [List.length_map]) (Nat.lt_of_lt_of_le hrow.lt hb3.size) (fun j hj => by
      have e := (hrow.below hb3).cell j hj
      rw [e, List.getElem?_map, List.getD_eq_getElem?_getD, List.getElem?_eq_getElem (by rw [List.length_map]; exact hj)]
      rfl)
    rw [first_hash] at this
    exact this
  have hRMH : Hid (Z = if R.1 = 0 then (R.2.2, 0) else ([], R.1)) := hRM
  rw [hN] at HP hS ⊢
  clear h hq hN hR hRM hZ hp hk
  go_enter Tryz.func49, Tryz.ntmps49
  go_upto_region 2 with fail
  generalize (w.alloc (.cells #[.int .i64 (wd : Int), .slice a N c] 29)).alloc (.cells #[] 46) = W at hS ⊢
  obtain ⟨gz, hgz⟩ : ∃ x, w.heap.size + 1 = x := ⟨_, rfl⟩
  rw [hgz] at hS ⊢
  obtain ⟨ga, hga⟩ : ∃ x, w.heap.size = x := ⟨_, rfl⟩
  rw [show SR w w.heap.size = SR w ga by rw [hga]] at hS
  rw [hga]
  clear hga hgz
  have k0 := Lib.cell_of_heap hS.na 0
  have k1 := Lib.cell_of_heap hS.na 1
  go_upto_region 4 with (first | (go_at_call 100; refine (HP _).mono ?_; rintro e w1 ⟨rfl, hb1⟩; have hS1 := hS.below hb1; clear k0 k1; have k0 := Lib.cell_of_heap hS1.na 0; have k1 := Lib.cell_of_heap hS1.na 1) | (go_at_call 106; refine (HH _).mono ?_; rintro e w2 ⟨rfl, rfl⟩))
  clear HP HH hb1 hS k0 k1
  have k0 : w1.cell? ⟨ga, 0, none⟩ = some (.int .i64 (wd : Int)) := Lib.cell_of_heap hS1.na 0
  have k1 : w1.cell? ⟨ga, 1, none⟩ = some (.slice a N c) := Lib.cell_of_heap hS1.na 1
  have hbd : Below w1.heap.size w1 w1.drew := (Below.refl _ _).drew
  have HC : Hid (∀ W : World, W.heap[ga]? = some (.cells #[.int .i64 (wd : Int), .slice a N c] 29) → W.cell? ⟨ga, 0, none⟩ = some (.int .i64 (wd : Int)) ∧ W.cell? ⟨ga, 1, none⟩ = some (.slice a N c)) := fun W hW => ⟨Lib.cell_of_heap hW 0, Lib.cell_of_heap hW 1⟩
  have hna := hS1.na
  have hbw := hS1.bl
  obtain ⟨Rc, Rn, Rp⟩ := R
  obtain rfl : Rc = 0 := hR0
  obtain ⟨m1, hm1⟩ : ∃ m1, Rp.length = m1 := ⟨_, rfl⟩
  have hZ : Hid (Z = (Rp, 0)) := by show _ = _; rw [hRMH.out, if_pos rfl]
  have hm1h : Hid (Rp.length = m1) := hm1
  have HG : Hid (∀ g c' W, Calls Tryz.prog 107 #[.agg #[.int .i64 (wd : Int), .slice a N c], .slice (some ⟨g, 0, none⟩) N c', .string root, .string ⟨#[]⟩, .agg #[.string ⟨#[]⟩, .string ⟨#[]⟩], .string lo, .string hi, .int .i64 0] W (GoPost (0, Rn, Rp) W) → Calls Tryz.prog 107 #[.agg #[.int .i64 (wd : Int), .slice a N c], .slice (some ⟨g, 0, none⟩) N c', .string root, .string ⟨#[]⟩, .agg #[.string ⟨#[]⟩, .string ⟨#[]⟩], .string lo, .string hi, .int .i64 0] W fun e w' => (∃ a1 d1, e = .returned (.agg #[.slice a1 m1 d1, .int .i64 (Rn : Int), .int .i64 0]) ∧ w'.ownsRow W.heap.size 46 2 (.slice a1 m1 d1) m1 (flatP Rp)) ∧ Below W.heap.size W w') := fun g c' W hc => hc.mono fun e w' h => ⟨by rw [← hm1]; exact h.1 rfl, h.2.2⟩
  clear hm1 hRMH
  have hlt1 := hS1.lt
  go_region_held3 (fun W => W.cell? ⟨ga, 0, none⟩ = some (.int .i64 (wd : Int)) ∧ W.cell? ⟨ga, 1, none⟩ = some (.slice a N c)) (first | exact HC.out _ hna | exact HC.out _ (hS1.below ((Below.refl _ w1).drew.alloc (Nat.le_refl _) _)).na | exact HC.out _ hS2.na | exact HC.out _ (hS2.below ((Below.refl _ _).alloc (Nat.le_refl _) _)).na | exact HC.out _ hS3.na | exact HC.out _ (hS3.below ((Below.refl _ _).alloc (Nat.le_refl _) _)).na | exact HC.out _ (hS3.set3 hlt1 _ _ _).na | exact HC.out _ (hS3.set3 hlt2 _ _ _).na)
    (first
      | (go_at_call 102; refine (HHS.out (w1.drew.alloc (.cells #[.slice none 0 0, .int .i64 0, .int .i64 0] 146)) (hbw.drew.alloc hbw.size _)).mono ?_; rintro e w2 ⟨g, c', rfl, HGG, hb2⟩; have hS2 := (hS1.below ((Below.refl _ w1).drew.alloc (Nat.le_refl _) (.cells #[.slice none 0 0, .int .i64 0, .int .i64 0] 146))).below hb2; have hlt2 := hS2.lt; have n2 : WB w1.heap.size (.slice none 0 0) (.int .i64 0) (.int .i64 0) w2 := WB.below (show WB w1.heap.size (.slice none 0 0) (.int .i64 0) (.int .i64 0) (w1.drew.alloc (.cells #[.slice none 0 0, .int .i64 0, .int .i64 0] 146)) from heap_alloc_new w1.drew _) hb2; clear hb2)
      | (go_at_call 102; refine (HHS.out w1.drew hbw.drew).mono ?_; rintro e w2 ⟨g, c', rfl, HGG, hb2⟩; have hS2 := hS1.below ((Below.refl w1.heap.size w1).drew.trans hb2); have hlt2 := hS2.lt; clear hb2)
      | (go_at_call 107; refine (HG.out g c' (w2.alloc (.cells #[.slice none 0 0, .int .i64 0, .int .i64 0] 146)) (HGG _ ((Below.refl _ w2).alloc (Nat.le_refl _) _))).mono ?_; rintro e w3 ⟨⟨a1, d1, rfl, ho3⟩, hb3⟩; have hS3 := (hS2.below ((Below.refl _ w2).alloc (Nat.le_refl _) (.cells #[.slice none 0 0, .int .i64 0, .int .i64 0] 146))).below hb3; have n3 : WB w2.heap.size (.slice none 0 0) (.int .i64 0) (.int .i64 0) w3 := WB.below (show WB w2.heap.size (.slice none 0 0) (.int .i64 0) (.int .i64 0) (w2.alloc (.cells #[.slice none 0 0, .int .i64 0, .int .i64 0] 146)) from heap_alloc_new w2 _) hb3; clear hb3; obtain ⟨x0, x1, x2, y0, y1, y2⟩ := n3.at)
      | (go_at_call 107; refine (HG.out g c' w2 (HGG _ (Below.refl _ w2))).mono ?_; rintro e w3 ⟨⟨a1, d1, rfl, ho3⟩, hb3⟩; have hS3 := hS2.below hb3; have n3 := n2.below hb3; clear hb3; obtain ⟨x0, x1, x2, y0, y1, y2⟩ := n3.at)
      | (go_at_call 107; refine (HG.out g c' w2 (HGG _ (Below.refl _ w2))).mono ?_; rintro e w3 ⟨⟨a1, d1, rfl, ho3⟩, hb3⟩; have hS3 := hS2.below hb3; clear hb3))
  · have hS4 := hS3.below ((Below.refl w3.heap.size w3).alloc (Nat.le_refl _) (.cells #[.slice a1 m1 d1, .int .i64 (Rn : Int), .int .i64 0] 146))
    have n4 : WB w3.heap.size (.slice a1 m1 d1) (.int .i64 (Rn : Int)) (.int .i64 0) (w3.alloc (.cells #[.slice a1 m1 d1, .int .i64 (Rn : Int), .int .i64 0] 146)) := heap_alloc_new w3 _
    have ho4 := own2_mono (ho3.alloc (.cells #[.slice a1 m1 d1, .int .i64 (Rn : Int), .int .i64 0] 146)) hS2.bl.size
    generalize w3.alloc (.cells #[.slice a1 m1 d1, .int .i64 (Rn : Int), .int .i64 0] 146) = W4 at hS4 n4 ho4 ⊢
    generalize w3.heap.size = gw at n4 ⊢
    obtain ⟨u0, u1, u2, _, _, _⟩ := n4.at
    have hbl := hS4.bl
    have hfin : RangeAt (Rp, 0) w (.returned (.tuple #[.slice a1 m1 d1, .int .i64 0])) W4 := ⟨⟨a1, d1, by rw [hm1h.out], by rw [hm1h.out]; exact ho4⟩, hbl⟩
    rw [← hZ.out] at hfin
    clear k0 k1 hna hbd HGG hZ hS3 n4 ho4 hS4
    go_wp2_with fail
    go_ret2
    exact hfin
  · have hS4 := hS3.set3 hlt2 (.slice a1 m1 d1) (.int .i64 (Rn : Int)) (.int .i64 0)
    have n4 := n3.set3 (.slice a1 m1 d1) (.int .i64 (Rn : Int)) (.int .i64 0)
    have ho4 := own2_mono (own2_set3 ho3 (gw := w2.heap.size) (by simp) (.slice a1 m1 d1) (.int .i64 (Rn : Int)) (.int .i64 0)) (base' := w.heap.size) (by have := hS2.bl.size; simp; omega)
    generalize ((w3.setCell ⟨w2.heap.size, 0, none⟩ (.slice a1 m1 d1)).setCell ⟨w2.heap.size, 1, none⟩ (.int .i64 (Rn : Int))).setCell ⟨w2.heap.size, 2, none⟩ (.int .i64 0) = W4 at hS4 n4 ho4 ⊢
    clear n3 x0 x1 x2 y0 y1 y2 ho3
    generalize w2.heap.size = gw at n4 ⊢
    obtain ⟨u0, u1, u2, _, _, _⟩ := n4.at
    have hbl := hS4.bl
    have hfin : RangeAt (Rp, 0) w (.returned (.tuple #[.slice a1 m1 d1, .int .i64 0])) W4 := ⟨⟨a1, d1, by rw [hm1h.out], by rw [hm1h.out]; exact ho4⟩, hbl⟩
    rw [← hZ.out] at hfin
    clear k0 k1 hna hbd HGG hZ hS3 n4 ho4 hS4
    go_wp2_with fail
    go_ret2
    exact hfin
  · have hS4 := hS3.set3 hlt1 (.slice a1 m1 d1) (.int .i64 (Rn : Int)) (.int .i64 0)
    have n4 := n3.set3 (.slice a1 m1 d1) (.int .i64 (Rn : Int)) (.int .i64 0)
    have ho4 := own2_mono (own2_set3 ho3 (gw := w1.heap.size) (Array.getElem?_eq_some_iff.1 n2).1 (.slice a1 m1 d1) (.int .i64 (Rn : Int)) (.int .i64 0)) (base' := w.heap.size) hS2.bl.size
    generalize ((w3.setCell ⟨w1.heap.size, 0, none⟩ (.slice a1 m1 d1)).setCell ⟨w1.heap.size, 1, none⟩ (.int .i64 (Rn : Int))).setCell ⟨w1.heap.size, 2, none⟩ (.int .i64 0) = W4 at hS4 n4 ho4 ⊢
    clear n2 n3 x0 x1 x2 y0 y1 y2 ho3
    generalize w1.heap.size = gw at n4 ⊢
    obtain ⟨u0, u1, u2, _, _, _⟩ := n4.at
    have hbl := hS4.bl
    have hfin : RangeAt (Rp, 0) w (.returned (.tuple #[.slice a1 m1 d1, .int .i64 0])) W4 := ⟨⟨a1, d1, by rw [hm1h.out], by rw [hm1h.out]; exact ho4⟩, hbl⟩
    rw [← hZ.out] at hfin
    clear k0 k1 hna hbd HGG hZ hS3 n4 ho4 hS4
    go_wp2_with fail
    go_ret2
    exact hfin
end Go.Proofs.YtmoajibmbppkjaeGreatDoor
namespace Go.Proofs.YtmoajibmbppkjaeGreatDoor
open Go.RowKit Go.Proofs.Sha

/-- The model's Range, where the pool and the root are good. -/
theorem srange_good (HD : Hid DigSaid) (D : Dec) (wd : Nat) (HDd : Hid (DecSaid 176 wd D)) (hdo : DecOk wd D) (a : Option Addr) (ss : List ByteArray) (c : Nat) (root lo hi : ByteArray) (w : World) (h : SArg a ss w) (hq : Hid (∀ j, (ss.getD j ⟨#[]⟩).size ≤ 1048575)) (h1 : 1 ≤ wd) (h2 : wd ≤ 32)
    (hr : root.size ≤ 1048576) (hlo : lo.size ≤ 1048576) (hhi : hi.size ≤ 1048576) (hp : poolOk (wd : Int) ss.length = true) (hk : hashOk root.size (wd : Int) = true) :
    Calls Tryz.prog 49 #[.agg #[.int .i64 (wd : Int), .slice a ss.length c], .string root, .string lo, .string hi] w (RangeAt (rangeM (fndD D wd ss) (wd : Int) ss.length root lo hi) w) := by
  by_cases hR0 : (goF (fndD D wd ss) hgW lo hi 501 root ⟨#[]⟩ ⟨#[]⟩ ⟨#[]⟩ 0).1 = 0
  · exact srange_yes HD D wd HDd hdo a ss c root lo hi w h hq h1 h2 hr hlo hhi hp hk hR0
  · exact srange_err HD D wd HDd hdo a ss c root lo hi w h hq h1 h2 hr hlo hhi hp hk hR0
end Go.Proofs.YtmoajibmbppkjaeGreatDoor
namespace Go.Proofs.YtmoajibmbppkjaeGreatDoor
open Go.RowKit Go.Proofs.Sha

end Go.Proofs.YtmoajibmbppkjaeGreatDoor
namespace Go.Proofs.YtmoajibmbppkjaeGreatDoor
open Go.RowKit Go.Proofs.Sha

theorem sha_len (l : List UInt8) : (sha l).length = 32 := by unfold sha; rw [outTo_length]
theorem extract_take (M : List UInt8) (n : Nat) : (⟨M.toArray⟩ : ByteArray).extract 0 n = ⟨(M.take n).toArray⟩ := by
  apply ByteArray.ext
  rw [ByteArray.data_extract]
  apply Array.ext'
  rw [Array.toList_extract, List.extract_eq_take_drop]
  simp

set_option maxRecDepth 100000 in
set_option maxHeartbeats 400000 in
theorem sdig_no (s : ByteArray) (k : Int) (w : World) (h : k < 1 ∨ 32 < k) :
    Calls Tryz.prog 23 #[.string s, .int .i64 k] w fun e w' => e = .returned (.string ⟨#[]⟩) ∧ Below w.heap.size w w' := by
  rcases h with h | h
  · have h1 : decide (1 ≤ k) = false := by simpa using h
    go_enter Tryz.func23, Tryz.ntmps23
    go_wp2
    go_ret
    exact ⟨rfl, Below.refl _ _⟩
  · have h1 : 1 ≤ k := by omega
    have h2 : decide (k ≤ 32) = false := by simpa using h
    go_enter Tryz.func23, Tryz.ntmps23
    go_wp2
    go_ret
    exact ⟨rfl, Below.refl _ _⟩

set_option maxRecDepth 100000 in
set_option maxHeartbeats 400000 in
theorem sdig_yes (s : ByteArray) (k : Nat) (w : World) (hs : s.size ≤ 1048576) (h1 : 1 ≤ k) (h2 : k ≤ 32) :
    Calls Tryz.prog 23 #[.string s, .int .i64 (k : Int)] w fun e w' => e = .returned (.string ⟨((sha s.data.toList).take k).toArray⟩) ∧ Below w.heap.size w w' := by
  have hl := sha_len s.data.toList
  have hx := extract_take (sha s.data.toList) k
  have hsp := spec_any s w hs
  obtain ⟨X, hX⟩ : ∃ X : ByteArray, X = ⟨(sha s.data.toList).toArray⟩ := ⟨_, rfl⟩
  have hXs : X.size = 32 := by rw [hX]; exact hl
  rw [← hX] at hx hsp
  have HX : Hid (X.extract 0 k = ⟨((sha s.data.toList).take k).toArray⟩) := hx
  clear hX hx hl
  have q1 : (1 : Int) ≤ (k : Int) := by omega
  have q2 : (k : Int) ≤ 32 := by omega
  go_enter Tryz.func23, Tryz.ntmps23
  go_wp2_with (first | (go_at_call 76; refine hsp.mono ?_; rintro e w' ⟨rfl, hb⟩) | go_in)
  go_ret
  rw [← HX.out]
  exact ⟨rfl, hb⟩
end Go.Proofs.YtmoajibmbppkjaeGreatDoor
namespace Go.Proofs.YtmoajibmbppkjaeGreatDoor
open Go.RowKit Go.Proofs.Sha

end Go.Proofs.YtmoajibmbppkjaeGreatDoor
namespace Go.Proofs.YtmoajibmbppkjaeGreatDoor
open Go.RowKit Go.Proofs.Sha

/-- What NodeHash answers. -/
def hashS (k v l r : ByteArray) (n : Int) : ByteArray := if (encS k v l r n).size = 0 then ⟨#[]⟩ else ⟨((sha (78 :: (encS k v l r n).data.toList)).take n.toNat).toArray⟩

theorem encS_size (k v l r : ByteArray) (n : Int) : (encS k v l r n).size ≤ 10000 ∧ (¬ (encS k v l r n).size = 0 → 1 ≤ n ∧ n ≤ 32) := by
  unfold encS
  split
  · rename_i h
    have ho := nodeOk_out h
    rw [T_size]
    unfold encL
    simp only [List.length_append, sized_length, List.length_cons, List.length_nil]
    have e1 : k.data.toList.length = k.size := rfl
    have e2 : v.data.toList.length = v.size := rfl
    have e3 : l.data.toList.length = l.size := rfl
    have e4 : r.data.toList.length = r.size := rfl
    omega
  · exact ⟨Nat.zero_le _, fun h => absurd rfl h⟩

theorem text_any (e : ByteArray) (w : World) (he : e.size ≤ 10000) :
    Calls Tryz.prog 67 #[.string e] w fun x w' => ∃ t : ByteArray, x = .returned (.string t) ∧ t.size ≤ 10001 ∧ Hid (t.data.toList = 78 :: e.data.toList) ∧ w = w' := by
  have z : ¬ (9223372036854775807 < (⟨#[78]⟩ : ByteArray).size + e.size) := by show ¬ _ < 1 + e.size; omega
  have z' : ¬ (9223372036854775807 < 1 + e.size) := by omega
  go_enter Tryz.func67, Tryz.ntmps67
  go_wp2
  go_ret
  refine ⟨_, rfl, ?_, ?_, rfl⟩
  · rw [ByteArray.size_append]; show 1 + e.size ≤ _; omega
  · show (_ : List UInt8) = _
    rw [ByteArray.data_append]
    simp

end Go.Proofs.YtmoajibmbppkjaeGreatDoor
