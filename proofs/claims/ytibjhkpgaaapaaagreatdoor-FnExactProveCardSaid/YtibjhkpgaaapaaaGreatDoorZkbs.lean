import Derived.Test.YtibjhkpgaaapaaaGreatDoorZkbq
namespace Go.Proofs.YtibjhkpgaaapaaaGreatDoor
open Go.RowKit Go.Proofs.Sha

set_option maxRecDepth 100000 in
set_option maxHeartbeats 4000000 in
theorem srange_err (HD : Hid DigSaid) (D : Dec) (wd : Nat) (HDd : Hid (DecSaid 146 wd D)) (hdo : DecOk wd D) (a : Option Addr) (ss : List ByteArray) (c : Nat) (root lo hi : ByteArray) (w : World) (h : SArg a ss w) (hq : Hid (∀ j, (ss.getD j ⟨#[]⟩).size ≤ 1048575)) (h1 : 1 ≤ wd) (h2 : wd ≤ 32)
    (hr : root.size ≤ 1048576) (hlo : lo.size ≤ 1048576) (hhi : hi.size ≤ 1048576) (hp : poolOk (wd : Int) ss.length = true) (hk : hashOk root.size (wd : Int) = true) (hR0 : (goF (fndD D wd ss) hgW lo hi 501 root ⟨#[]⟩ ⟨#[]⟩ ⟨#[]⟩ 0).1 ≠ 0) :
    Calls Tryz.prog 48 #[.agg #[.int .i64 (wd : Int), .slice a ss.length c], .string root, .string lo, .string hi] w (RangeAt (rangeM (fndD D wd ss) (wd : Int) ss.length root lo hi) w) := by
  have HP := fun w' => poolOk_any (wd : Int) a ss.length c w' h.le
  have HH := fun w' => hashOk_any root (wd : Int) w' hr
  rw [hp] at HP
  rw [hk] at HH
  have hS := SR.mk0 w (wd : Int) a ss.length c
  obtain ⟨R, hR⟩ : ∃ R, goF (fndD D wd ss) hgW lo hi 501 root ⟨#[]⟩ ⟨#[]⟩ ⟨#[]⟩ 0 = R := ⟨_, rfl⟩
  rw [hR] at hR0
  have hRM := rangeM_ok (lo := lo) (hi := hi) (by rw [hp, hk]; rfl : (poolOk (wd : Int) ss.length && hashOk root.size (wd : Int)) = true) hR
  obtain ⟨Z, hZ⟩ : ∃ Z, rangeM (fndD D wd ss) (wd : Int) ss.length root lo hi = Z := ⟨_, rfl⟩
  rw [hZ] at hRM ⊢
  obtain ⟨N, hN⟩ : ∃ N, ss.length = N := ⟨_, rfl⟩
  have HHS : Hid (∀ w', Below w.heap.size w w' → Calls Tryz.prog 50 #[.agg #[.int .i64 (wd : Int), .slice a N c]] w' fun e w'' => ∃ g c', e = .returned (.slice (some ⟨g, 0, none⟩) N c') ∧ (∀ W, Below w''.heap.size w'' W → Calls Tryz.prog 105 #[.agg #[.int .i64 (wd : Int), .slice a N c], .slice (some ⟨g, 0, none⟩) N c', .string root, .string ⟨#[]⟩, .agg #[.string ⟨#[]⟩, .string ⟨#[]⟩], .string lo, .string hi, .int .i64 0] W (GoPost R W)) ∧ Below w'.heap.size w' w'') := by
    intro w' hb
    have hA := h.below hb
    rw [← hN]
    refine (hashes_any HD wd a ss c w' hA hq h1 h2).mono ?_
    rintro e w'' ⟨g, c', rfl, hrow, hb2⟩
    refine ⟨g, c', rfl, fun W hW => ?_, hb2⟩
    have hA2 := hA.below hb2
    rw [← hR]
    refine go_all (fndD D wd ss) wd (fndD_ok D wd ss hdo) a ss.length c g c' lo hi hlo hhi w'' (fun w3 hash hb3 => ?_) 501 root ⟨#[]⟩ ⟨#[]⟩ ⟨#[]⟩ 0 W (by omega) (by omega) hW (by decide) (by decide) (by decide)
    have := lfind_any D wd HDd a ss c g c' (ss.map (hashT wd)) hash w3 (hA2.below hb3) (by rw [List.length_map]) (Nat.lt_of_lt_of_le hrow.lt hb3.size) (fun j hj => by
      have e := (hrow.below hb3).cell j hj
      rw [e, List.getElem?_map, List.getD_eq_getElem?_getD, List.getElem?_eq_getElem (by rw [List.length_map]; exact hj)]
      rfl)
    rw [first_hash] at this
    exact this
  have hRMH : Hid (Z = if R.1 = 0 then (R.2.2, 0) else ([], R.1)) := hRM
  rw [hN] at HP hS ⊢
  clear h hq hN hR hRM hZ hp hk
  go_enter Tryz.func48, Tryz.ntmps48
  go_upto_region 2 with fail
  generalize (w.alloc (.cells #[.int .i64 (wd : Int), .slice a N c] 31)).alloc (.cells #[] 81) = W at hS ⊢
  obtain ⟨gz, hgz⟩ : ∃ x, w.heap.size + 1 = x := ⟨_, rfl⟩
  rw [hgz] at hS ⊢
  obtain ⟨ga, hga⟩ : ∃ x, w.heap.size = x := ⟨_, rfl⟩
  rw [show SR w w.heap.size = SR w ga by rw [hga]] at hS
  rw [hga]
  clear hga hgz
  have k0 := Lib.cell_of_heap hS.na 0
  have k1 := Lib.cell_of_heap hS.na 1
  go_upto_region 4 with (first | (go_at_call 79; refine (HP _).mono ?_; rintro e w1 ⟨rfl, hb1⟩; have hS1 := hS.below hb1; clear k0 k1; have k0 := Lib.cell_of_heap hS1.na 0; have k1 := Lib.cell_of_heap hS1.na 1) | (go_at_call 82; refine (HH _).mono ?_; rintro e w2 ⟨rfl, rfl⟩))
  clear HP HH hb1 hS k0 k1
  have k0 : w1.cell? ⟨ga, 0, none⟩ = some (.int .i64 (wd : Int)) := Lib.cell_of_heap hS1.na 0
  have k1 : w1.cell? ⟨ga, 1, none⟩ = some (.slice a N c) := Lib.cell_of_heap hS1.na 1
  have hbd : Below w1.heap.size w1 w1.drew := (Below.refl _ _).drew
  have HC : Hid (∀ W : World, W.heap[ga]? = some (.cells #[.int .i64 (wd : Int), .slice a N c] 31) → W.cell? ⟨ga, 0, none⟩ = some (.int .i64 (wd : Int)) ∧ W.cell? ⟨ga, 1, none⟩ = some (.slice a N c)) := fun W hW => ⟨Lib.cell_of_heap hW 0, Lib.cell_of_heap hW 1⟩
  have hna := hS1.na
  have hbw := hS1.bl
  obtain ⟨i, hie⟩ : ∃ i, R.1 = i := ⟨_, rfl⟩
  have hZ : Hid (Z = ([], i)) := by show _ = _; rw [hRMH.out, if_neg hR0, hie]
  have HG : Hid (∀ g c' W, Calls Tryz.prog 105 #[.agg #[.int .i64 (wd : Int), .slice a N c], .slice (some ⟨g, 0, none⟩) N c', .string root, .string ⟨#[]⟩, .agg #[.string ⟨#[]⟩, .string ⟨#[]⟩], .string lo, .string hi, .int .i64 0] W (GoPost R W) → Calls Tryz.prog 105 #[.agg #[.int .i64 (wd : Int), .slice a N c], .slice (some ⟨g, 0, none⟩) N c', .string root, .string ⟨#[]⟩, .agg #[.string ⟨#[]⟩, .string ⟨#[]⟩], .string lo, .string hi, .int .i64 0] W fun e w' => e = .returned (.agg #[.slice none 0 0, .int .i64 0, .int .i64 i]) ∧ Below W.heap.size W w') := fun g c' W hc => hc.mono fun e w' h => ⟨by rw [← hie]; exact h.2.1 hR0, h.2.2⟩
  rw [hie] at hR0
  have hbi : (i == 0) = false := beq_eq_false_iff_ne.2 hR0
  clear hie hRMH
  have hlt1 := hS1.lt
  go_region_held3 (fun W => W.cell? ⟨ga, 0, none⟩ = some (.int .i64 (wd : Int)) ∧ W.cell? ⟨ga, 1, none⟩ = some (.slice a N c)) (first | exact HC.out _ hna | exact HC.out _ (hS1.below ((Below.refl _ w1).drew.alloc (Nat.le_refl _) _)).na | exact HC.out _ hS2.na | exact HC.out _ (hS2.below ((Below.refl _ _).alloc (Nat.le_refl _) _)).na | exact HC.out _ hS3.na | exact HC.out _ (hS3.below ((Below.refl _ _).alloc (Nat.le_refl _) _)).na | exact HC.out _ (hS3.set3 hlt1 _ _ _).na | exact HC.out _ (hS3.set3 hlt2 _ _ _).na)
    (first
      | (go_at_call 50; refine (HHS.out (w1.drew.alloc (.cells #[.slice none 0 0, .int .i64 0, .int .i64 0] 158)) (hbw.drew.alloc hbw.size _)).mono ?_; rintro e w2 ⟨g, c', rfl, HGG, hb2⟩; have hS2 := (hS1.below ((Below.refl _ w1).drew.alloc (Nat.le_refl _) (.cells #[.slice none 0 0, .int .i64 0, .int .i64 0] 158))).below hb2; have hlt2 := hS2.lt; have n2 : WB w1.heap.size (.slice none 0 0) (.int .i64 0) (.int .i64 0) w2 := WB.below (show WB w1.heap.size (.slice none 0 0) (.int .i64 0) (.int .i64 0) (w1.drew.alloc (.cells #[.slice none 0 0, .int .i64 0, .int .i64 0] 158)) from heap_alloc_new w1.drew _) hb2; clear hb2)
      | (go_at_call 50; refine (HHS.out w1.drew hbw.drew).mono ?_; rintro e w2 ⟨g, c', rfl, HGG, hb2⟩; have hS2 := hS1.below ((Below.refl w1.heap.size w1).drew.trans hb2); have hlt2 := hS2.lt; clear hb2)
      | (go_at_call 105; refine (HG.out g c' (w2.alloc (.cells #[.slice none 0 0, .int .i64 0, .int .i64 0] 158)) (HGG _ ((Below.refl _ w2).alloc (Nat.le_refl _) _))).mono ?_; rintro e w3 ⟨rfl, hb3⟩; have hS3 := (hS2.below ((Below.refl _ w2).alloc (Nat.le_refl _) (.cells #[.slice none 0 0, .int .i64 0, .int .i64 0] 158))).below hb3; have n3 : WB w2.heap.size (.slice none 0 0) (.int .i64 0) (.int .i64 0) w3 := WB.below (show WB w2.heap.size (.slice none 0 0) (.int .i64 0) (.int .i64 0) (w2.alloc (.cells #[.slice none 0 0, .int .i64 0, .int .i64 0] 158)) from heap_alloc_new w2 _) hb3; clear hb3; obtain ⟨x0, x1, x2, y0, y1, y2⟩ := n3.at)
      | (go_at_call 105; refine (HG.out g c' w2 (HGG _ (Below.refl _ w2))).mono ?_; rintro e w3 ⟨rfl, hb3⟩; have hS3 := hS2.below hb3; have n3 := n2.below hb3; clear hb3; obtain ⟨x0, x1, x2, y0, y1, y2⟩ := n3.at)
      | (go_at_call 105; refine (HG.out g c' w2 (HGG _ (Below.refl _ w2))).mono ?_; rintro e w3 ⟨rfl, hb3⟩; have hS3 := hS2.below hb3; clear hb3))
  · have hS4 := hS3.below ((Below.refl w3.heap.size w3).alloc (Nat.le_refl _) (.cells #[.slice none 0 0, .int .i64 0, .int .i64 i] 158))
    have n4 : WB w3.heap.size (.slice none 0 0) (.int .i64 0) (.int .i64 i) (w3.alloc (.cells #[.slice none 0 0, .int .i64 0, .int .i64 i] 158)) := heap_alloc_new w3 _
    generalize w3.alloc (.cells #[.slice none 0 0, .int .i64 0, .int .i64 i] 158) = W4 at hS4 n4 ⊢
    generalize w3.heap.size = gw at n4 ⊢
    obtain ⟨u0, u1, u2, _, _, _⟩ := n4.at
    have hS5 := hS4.below (Below.refl W4.heap.size W4).drew
    have hfin := hS5.nil i
    rw [← hZ.out] at hfin
    clear k0 k1 hna hbd HGG hZ hS3 n4
    go_wp2_with fail
    go_region
    go_wp2_with fail
    go_ret2
    exact hfin
  · have hS4 := hS3.set3 hlt2 (.slice none 0 0) (.int .i64 0) (.int .i64 i)
    have n4 := n3.set3 (.slice none 0 0) (.int .i64 0) (.int .i64 i)
    generalize ((w3.setCell ⟨w2.heap.size, 0, none⟩ (.slice none 0 0)).setCell ⟨w2.heap.size, 1, none⟩ (.int .i64 0)).setCell ⟨w2.heap.size, 2, none⟩ (.int .i64 i) = W4 at hS4 n4 ⊢
    clear n3 x0 x1 x2 y0 y1 y2
    generalize w2.heap.size = gw at n4 ⊢
    obtain ⟨u0, u1, u2, _, _, _⟩ := n4.at
    have hS5 := hS4.below (Below.refl W4.heap.size W4).drew
    have hfin := hS5.nil i
    rw [← hZ.out] at hfin
    clear k0 k1 hna hbd HGG hZ hS3 n4
    go_wp2_with fail
    go_region
    go_wp2_with fail
    go_ret2
    exact hfin
  · have hS4 := hS3.set3 hlt1 (.slice none 0 0) (.int .i64 0) (.int .i64 i)
    have n4 := n3.set3 (.slice none 0 0) (.int .i64 0) (.int .i64 i)
    generalize ((w3.setCell ⟨w1.heap.size, 0, none⟩ (.slice none 0 0)).setCell ⟨w1.heap.size, 1, none⟩ (.int .i64 0)).setCell ⟨w1.heap.size, 2, none⟩ (.int .i64 i) = W4 at hS4 n4 ⊢
    clear n2 n3 x0 x1 x2 y0 y1 y2
    generalize w1.heap.size = gw at n4 ⊢
    obtain ⟨u0, u1, u2, _, _, _⟩ := n4.at
    have hS5 := hS4.below (Below.refl W4.heap.size W4).drew
    have hfin := hS5.nil i
    rw [← hZ.out] at hfin
    clear k0 k1 hna hbd HGG hZ hS3 n4
    go_wp2_with fail
    go_region
    go_wp2_with fail
    go_ret2
    exact hfin
end Go.Proofs.YtibjhkpgaaapaaaGreatDoor
