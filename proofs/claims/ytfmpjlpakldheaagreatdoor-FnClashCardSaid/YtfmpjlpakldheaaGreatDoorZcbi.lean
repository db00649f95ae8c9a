import Derived.Test.YtfmpjlpakldheaaGreatDoorZcbh
namespace Go.Proofs.YtfmpjlpakldheaaGreatDoor
open Go.RowKit Go.Proofs.Sha

/-- Two lists of pairs and a width. -/
def CGot (ps qs : List PairT) (n : Nat) (w : World) (e : Ending) (w' : World) : Prop := ∃ a1 c1 a2 c2, e = .returned (.tuple #[.slice a1 ps.length c1, .slice a2 qs.length c2, .int .i64 (n : Int)]) ∧ PArg a1 ps w' ∧ ps.length ≤ c1 ∧ PArg a2 qs w' ∧ qs.length ≤ c2 ∧ Below w.heap.size w w'
set_option maxRecDepth 100000 in
set_option maxHeartbeats 4000000 in
theorem dcl_a (a : Option Addr) (xs : List Nat) (cap x wd z y : Nat) (ps qs : List PairT) (_hpl : ps.length ≤ 15)
    (HT : ∀ w, BL a xs w → Calls Tryz.prog 41 #[.slice a xs.length cap, .int .i64 0, .int .i64 16] w fun e w' => e = .returned (.tuple #[.int .i64 (x : Int), .int .i64 1]) ∧ Below w.heap.size w w')
    (HD : ∀ w, BL a xs w → Calls Tryz.prog 42 #[.slice a xs.length cap, .int .i64 1] w fun e w' => e = .returned (.tuple #[.int .i64 (wd : Int), .int .i64 2]) ∧ Below w.heap.size w w')
    (HM : ∀ w, BL a xs w → Calls Tryz.prog 43 #[.slice a xs.length cap, .int .i64 2] w (MGot ps z w))
    (HN : ∀ a3 c3 w, BL a xs w → PArg a3 ps w → ps.length ≤ c3 → Calls Tryz.prog 44 #[.slice a xs.length cap, .int .i64 (z : Int), .slice a3 ps.length c3] w (PGot qs ps y a3 w)) (hx : 13 ≤ x) :
    ∀ w, BL a xs w → Calls Tryz.prog 9 #[.slice a xs.length cap] w (CGot ps qs wd w) := by
  intro w hB
  have HT' : Hid (∀ w', Below w.heap.size w w' → Calls Tryz.prog 41 #[.slice a xs.length cap, .int .i64 0, .int .i64 16] w' fun e w'' => e = .returned (.tuple #[.int .i64 (x : Int), .int .i64 1]) ∧ Below w'.heap.size w' w'') := fun w' hb => HT w' (hB.below hb)
  have HD' : Hid (∀ w', Below w.heap.size w w' → Calls Tryz.prog 42 #[.slice a xs.length cap, .int .i64 1] w' fun e w'' => e = .returned (.tuple #[.int .i64 (wd : Int), .int .i64 2]) ∧ Below w'.heap.size w' w'') := fun w' hb => HD w' (hB.below hb)
  have HM' : Hid (∀ w', Below w.heap.size w w' → Calls Tryz.prog 43 #[.slice a xs.length cap, .int .i64 2] w' (MGot ps z w')) := fun w' hb => HM w' (hB.below hb)
  have HN' : Hid (∀ a3 c3 w', Below w.heap.size w w' → PArg a3 ps w' → ps.length ≤ c3 → Calls Tryz.prog 44 #[.slice a xs.length cap, .int .i64 (z : Int), .slice a3 ps.length c3] w' (PGot qs ps y a3 w')) := fun a3 c3 w' hb h1 h2 => HN a3 c3 w' (hB.below hb) h1 h2
  unfold MGot at HM'
  unfold PGot at HN'
  clear HT HD HM HN hB
  obtain ⟨L, hLL⟩ : ∃ L, xs.length = L := ⟨_, rfl⟩
  rw [hLL] at HT' HD' HM' HN' ⊢
  clear hLL
  obtain ⟨N, hN⟩ : ∃ N, ps.length = N := ⟨_, rfl⟩
  have hNl : Hid (ps.length = N) := hN
  obtain ⟨M, hM⟩ : ∃ N, qs.length = N := ⟨_, rfl⟩
  rw [hN] at HM' HN'
  rw [hM] at HN'
  go_enter Tryz.func9, Tryz.ntmps9
  go_upto_region 2 with (first | (go_at_call 41; refine (HT'.out _ (Below.refl _ _)).mono ?_; rintro e w1 ⟨rfl, hb1⟩))
  go_upto_region 3 with (first | (go_at_call 42; refine (HD'.out _ hb1).mono ?_; rintro e w2 ⟨rfl, hb2'⟩; have hb2 := hb1.trans (hb2'.mono hb1.size)))
  clear hb1 hb2'
  go_upto_region 4 with (first | (go_at_call 43; refine (HM'.out _ hb2).mono ?_; rintro e w3 ⟨a3, c3, rfl, hP3, hc3, hb3'⟩; have hb3 := hb2.trans (hb3'.mono hb2.size)))
  clear hb2 hb3'
  go_upto_region 5 with (first | (go_at_call 44; refine (HN'.out a3 c3 _ hb3 hP3 hc3).mono ?_; rintro e w4 ⟨a4, c4, rfl, hQ4, hc4, _, hb4'⟩; have hb4 := hb3.trans (hb4'.mono hb3.size); have hP4 := hP3.below hb4'))
  clear hb3 hb4' hP3 HT' HD' HM' HN'
  have z13 : decide ((13 : Int) ≤ (x : Int)) = true := by simp; omega
  have z13' : decide (13 ≤ x) = true := by simp; omega
  clear hx
  go_wp2_with fail
  go_ret3
  exact ⟨a3, c3, a4, c4, by rw [hNl.out, hM]; rfl, hP4, by rw [hNl.out]; exact hc3, hQ4, by rw [hM]; exact hc4, hb4⟩
set_option maxRecDepth 100000 in
set_option maxHeartbeats 4000000 in
theorem dcl_b (a : Option Addr) (xs : List Nat) (cap x wd z y : Nat) (ps qs : List PairT) (_hpl : ps.length ≤ 15)
    (HT : ∀ w, BL a xs w → Calls Tryz.prog 41 #[.slice a xs.length cap, .int .i64 0, .int .i64 16] w fun e w' => e = .returned (.tuple #[.int .i64 (x : Int), .int .i64 1]) ∧ Below w.heap.size w w')
    (HD : ∀ w, BL a xs w → Calls Tryz.prog 42 #[.slice a xs.length cap, .int .i64 1] w fun e w' => e = .returned (.tuple #[.int .i64 (wd : Int), .int .i64 2]) ∧ Below w.heap.size w w')
    (HM : ∀ w, BL a xs w → Calls Tryz.prog 43 #[.slice a xs.length cap, .int .i64 2] w (MGot ps z w))
    (HN : ∀ a3 c3 w, BL a xs w → PArg a3 ps w → ps.length ≤ c3 → Calls Tryz.prog 44 #[.slice a xs.length cap, .int .i64 (z : Int), .slice a3 ps.length c3] w (PGot qs ps y a3 w)) (hx : x < 13) (hm : isMapT ps = false) :
    ∀ w, BL a xs w → Calls Tryz.prog 9 #[.slice a xs.length cap] w (CGot ps qs wd w) := by
  intro w hB
  have HT' : Hid (∀ w', Below w.heap.size w w' → Calls Tryz.prog 41 #[.slice a xs.length cap, .int .i64 0, .int .i64 16] w' fun e w'' => e = .returned (.tuple #[.int .i64 (x : Int), .int .i64 1]) ∧ Below w'.heap.size w' w'') := fun w' hb => HT w' (hB.below hb)
  have HD' : Hid (∀ w', Below w.heap.size w w' → Calls Tryz.prog 42 #[.slice a xs.length cap, .int .i64 1] w' fun e w'' => e = .returned (.tuple #[.int .i64 (wd : Int), .int .i64 2]) ∧ Below w'.heap.size w' w'') := fun w' hb => HD w' (hB.below hb)
  have HM' : Hid (∀ w', Below w.heap.size w w' → Calls Tryz.prog 43 #[.slice a xs.length cap, .int .i64 2] w' (MGot ps z w')) := fun w' hb => HM w' (hB.below hb)
  have HN' : Hid (∀ a3 c3 w', Below w.heap.size w w' → PArg a3 ps w' → ps.length ≤ c3 → Calls Tryz.prog 44 #[.slice a xs.length cap, .int .i64 (z : Int), .slice a3 ps.length c3] w' (PGot qs ps y a3 w')) := fun a3 c3 w' hb h1 h2 => HN a3 c3 w' (hB.below hb) h1 h2
  unfold MGot at HM'
  unfold PGot at HN'
  clear HT HD HM HN hB
  obtain ⟨L, hLL⟩ : ∃ L, xs.length = L := ⟨_, rfl⟩
  rw [hLL] at HT' HD' HM' HN' ⊢
  clear hLL
  obtain ⟨N, hN⟩ : ∃ N, ps.length = N := ⟨_, rfl⟩
  have hNl : Hid (ps.length = N) := hN
  obtain ⟨M, hM⟩ : ∃ N, qs.length = N := ⟨_, rfl⟩
  rw [hN] at HM' HN'
  rw [hM] at HN'
  go_enter Tryz.func9, Tryz.ntmps9
  go_upto_region 2 with (first | (go_at_call 41; refine (HT'.out _ (Below.refl _ _)).mono ?_; rintro e w1 ⟨rfl, hb1⟩))
  go_upto_region 3 with (first | (go_at_call 42; refine (HD'.out _ hb1).mono ?_; rintro e w2 ⟨rfl, hb2'⟩; have hb2 := hb1.trans (hb2'.mono hb1.size)))
  clear hb1 hb2'
  go_upto_region 4 with (first | (go_at_call 43; refine (HM'.out _ hb2).mono ?_; rintro e w3 ⟨a3, c3, rfl, hP3, hc3, hb3'⟩; have hb3 := hb2.trans (hb3'.mono hb2.size)))
  clear hb2 hb3'
  go_upto_region 5 with (first | (go_at_call 44; refine (HN'.out a3 c3 _ hb3 hP3 hc3).mono ?_; rintro e w4 ⟨a4, c4, rfl, hQ4, hc4, _, hb4'⟩; have hb4 := hb3.trans (hb4'.mono hb3.size); have hP4 := hP3.below hb4'))
  clear hb3 hb4' hP3 HT' HD' HM' HN'
  have z13 : decide ((13 : Int) ≤ (x : Int)) = false := by simp; omega
  have z13' : decide (13 ≤ x) = false := by simp; omega
  have HOk := mapOk_any a3 ps c3 w4 hP4
  rw [hNl.out, hm] at HOk
  have HOk' : Hid (Calls Tryz.prog 45 #[.slice a3 N c3] w4 fun e w' => e = .returned (.bool false) ∧ Below w4.heap.size w4 w') := HOk
  clear HOk
  clear hx hm
  go_wp2_with (first | (go_at_call 45; refine HOk'.out.mono ?_; rintro e w5 ⟨rfl, hb5'⟩; have hb5 := hb4.trans (hb5'.mono hb4.size); have hP5 := hP4.below hb5'; have hQ5 := hQ4.below hb5'))
  go_ret3
  exact ⟨a3, c3, a4, c4, by rw [hNl.out, hM]; rfl, hP5, by rw [hNl.out]; exact hc3, hQ5, by rw [hM]; exact hc4, hb5⟩
set_option maxRecDepth 100000 in
set_option maxHeartbeats 4000000 in
theorem dcl_c (a : Option Addr) (xs : List Nat) (cap x wd z y : Nat) (ps qs : List PairT) (_hpl : ps.length ≤ 15)
    (HT : ∀ w, BL a xs w → Calls Tryz.prog 41 #[.slice a xs.length cap, .int .i64 0, .int .i64 16] w fun e w' => e = .returned (.tuple #[.int .i64 (x : Int), .int .i64 1]) ∧ Below w.heap.size w w')
    (HD : ∀ w, BL a xs w → Calls Tryz.prog 42 #[.slice a xs.length cap, .int .i64 1] w fun e w' => e = .returned (.tuple #[.int .i64 (wd : Int), .int .i64 2]) ∧ Below w.heap.size w w')
    (HM : ∀ w, BL a xs w → Calls Tryz.prog 43 #[.slice a xs.length cap, .int .i64 2] w (MGot ps z w))
    (HN : ∀ a3 c3 w, BL a xs w → PArg a3 ps w → ps.length ≤ c3 → Calls Tryz.prog 44 #[.slice a xs.length cap, .int .i64 (z : Int), .slice a3 ps.length c3] w (PGot qs ps y a3 w)) (hx : x < 13) (hm : isMapT ps = true) (h0 : ps.length = 0) :
    ∀ w, BL a xs w → Calls Tryz.prog 9 #[.slice a xs.length cap] w (CGot ps qs wd w) := by
  intro w hB
  have HT' : Hid (∀ w', Below w.heap.size w w' → Calls Tryz.prog 41 #[.slice a xs.length cap, .int .i64 0, .int .i64 16] w' fun e w'' => e = .returned (.tuple #[.int .i64 (x : Int), .int .i64 1]) ∧ Below w'.heap.size w' w'') := fun w' hb => HT w' (hB.below hb)
  have HD' : Hid (∀ w', Below w.heap.size w w' → Calls Tryz.prog 42 #[.slice a xs.length cap, .int .i64 1] w' fun e w'' => e = .returned (.tuple #[.int .i64 (wd : Int), .int .i64 2]) ∧ Below w'.heap.size w' w'') := fun w' hb => HD w' (hB.below hb)
  have HM' : Hid (∀ w', Below w.heap.size w w' → Calls Tryz.prog 43 #[.slice a xs.length cap, .int .i64 2] w' (MGot ps z w')) := fun w' hb => HM w' (hB.below hb)
  have HN' : Hid (∀ a3 c3 w', Below w.heap.size w w' → PArg a3 ps w' → ps.length ≤ c3 → Calls Tryz.prog 44 #[.slice a xs.length cap, .int .i64 (z : Int), .slice a3 ps.length c3] w' (PGot qs ps y a3 w')) := fun a3 c3 w' hb h1 h2 => HN a3 c3 w' (hB.below hb) h1 h2
  unfold MGot at HM'
  unfold PGot at HN'
  clear HT HD HM HN hB
  obtain ⟨L, hLL⟩ : ∃ L, xs.length = L := ⟨_, rfl⟩
  rw [hLL] at HT' HD' HM' HN' ⊢
  clear hLL
  obtain ⟨N, hN⟩ : ∃ N, ps.length = N := ⟨_, rfl⟩
  have hNl : Hid (ps.length = N) := hN
  obtain ⟨M, hM⟩ : ∃ N, qs.length = N := ⟨_, rfl⟩
  rw [hN] at HM' HN'
  rw [hM] at HN'
  go_enter Tryz.func9, Tryz.ntmps9
  go_upto_region 2 with (first | (go_at_call 41; refine (HT'.out _ (Below.refl _ _)).mono ?_; rintro e w1 ⟨rfl, hb1⟩))
  go_upto_region 3 with (first | (go_at_call 42; refine (HD'.out _ hb1).mono ?_; rintro e w2 ⟨rfl, hb2'⟩; have hb2 := hb1.trans (hb2'.mono hb1.size)))
  clear hb1 hb2'
  go_upto_region 4 with (first | (go_at_call 43; refine (HM'.out _ hb2).mono ?_; rintro e w3 ⟨a3, c3, rfl, hP3, hc3, hb3'⟩; have hb3 := hb2.trans (hb3'.mono hb2.size)))
  clear hb2 hb3'
  go_upto_region 5 with (first | (go_at_call 44; refine (HN'.out a3 c3 _ hb3 hP3 hc3).mono ?_; rintro e w4 ⟨a4, c4, rfl, hQ4, hc4, _, hb4'⟩; have hb4 := hb3.trans (hb4'.mono hb3.size); have hP4 := hP3.below hb4'))
  clear hb3 hb4' hP3 HT' HD' HM' HN'
  have z13 : decide ((13 : Int) ≤ (x : Int)) = false := by simp; omega
  have z13' : decide (13 ≤ x) = false := by simp; omega
  have HOk := mapOk_any a3 ps c3 w4 hP4
  rw [hNl.out, hm] at HOk
  have HOk' : Hid (Calls Tryz.prog 45 #[.slice a3 N c3] w4 fun e w' => e = .returned (.bool true) ∧ Below w4.heap.size w4 w') := HOk
  clear HOk
  have z0 : ((N : Int) == 0) = true := by simp; omega
  have hN0 : Hid (N = 0) := (by show _ = _; omega)
  clear hx hm h0 hN
  go_wp2_with (first | (go_at_call 45; refine HOk'.out.mono ?_; rintro e w5 ⟨rfl, hb5'⟩; have hb5 := hb4.trans (hb5'.mono hb4.size); have hP5 := hP4.below hb5'; have hQ5 := hQ4.below hb5'))
  go_ret3
  exact ⟨a3, c3, a4, c4, by rw [hNl.out, hM]; rfl, hP5, by rw [hNl.out]; exact hc3, hQ5, by rw [hM]; exact hc4, hb5⟩
set_option maxRecDepth 100000 in
set_option maxHeartbeats 4000000 in
theorem dcl_d (a : Option Addr) (xs : List Nat) (cap x wd z y : Nat) (ps qs : List PairT) (hpl : ps.length ≤ 15)
    (HT : ∀ w, BL a xs w → Calls Tryz.prog 41 #[.slice a xs.length cap, .int .i64 0, .int .i64 16] w fun e w' => e = .returned (.tuple #[.int .i64 (x : Int), .int .i64 1]) ∧ Below w.heap.size w w')
    (HD : ∀ w, BL a xs w → Calls Tryz.prog 42 #[.slice a xs.length cap, .int .i64 1] w fun e w' => e = .returned (.tuple #[.int .i64 (wd : Int), .int .i64 2]) ∧ Below w.heap.size w w')
    (HM : ∀ w, BL a xs w → Calls Tryz.prog 43 #[.slice a xs.length cap, .int .i64 2] w (MGot ps z w))
    (HN : ∀ a3 c3 w, BL a xs w → PArg a3 ps w → ps.length ≤ c3 → Calls Tryz.prog 44 #[.slice a xs.length cap, .int .i64 (z : Int), .slice a3 ps.length c3] w (PGot qs ps y a3 w)) (T : Nat) (hT : T < ps.length) (HA : ∀ w, BL a xs w → Calls Tryz.prog 41 #[.slice a xs.length cap, .int .i64 (y : Int), .int .i64 (ps.length : Int)] w fun e w' => e = .returned (.tuple #[.int .i64 (T : Int), .int .i64 ((y + 1 : Nat) : Int)]) ∧ Below w.heap.size w w') (hx : x < 13) (hm : isMapT ps = true) :
    ∀ w, BL a xs w → Calls Tryz.prog 9 #[.slice a xs.length cap] w (CGot ps (twL ps (ps.getD T noPair).1 (twR ps T)) 1 w) := by
  intro w hB
  have HT' : Hid (∀ w', Below w.heap.size w w' → Calls Tryz.prog 41 #[.slice a xs.length cap, .int .i64 0, .int .i64 16] w' fun e w'' => e = .returned (.tuple #[.int .i64 (x : Int), .int .i64 1]) ∧ Below w'.heap.size w' w'') := fun w' hb => HT w' (hB.below hb)
  have HD' : Hid (∀ w', Below w.heap.size w w' → Calls Tryz.prog 42 #[.slice a xs.length cap, .int .i64 1] w' fun e w'' => e = .returned (.tuple #[.int .i64 (wd : Int), .int .i64 2]) ∧ Below w'.heap.size w' w'') := fun w' hb => HD w' (hB.below hb)
  have HM' : Hid (∀ w', Below w.heap.size w w' → Calls Tryz.prog 43 #[.slice a xs.length cap, .int .i64 2] w' (MGot ps z w')) := fun w' hb => HM w' (hB.below hb)
  have HN' : Hid (∀ a3 c3 w', Below w.heap.size w w' → PArg a3 ps w' → ps.length ≤ c3 → Calls Tryz.prog 44 #[.slice a xs.length cap, .int .i64 (z : Int), .slice a3 ps.length c3] w' (PGot qs ps y a3 w')) := fun a3 c3 w' hb h1 h2 => HN a3 c3 w' (hB.below hb) h1 h2
  have HA' : Hid (∀ w', Below w.heap.size w w' → Calls Tryz.prog 41 #[.slice a xs.length cap, .int .i64 (y : Int), .int .i64 (ps.length : Int)] w' fun e w'' => e = .returned (.tuple #[.int .i64 (T : Int), .int .i64 ((y + 1 : Nat) : Int)]) ∧ Below w'.heap.size w' w'') := fun w' hb => HA w' (hB.below hb)
  clear HA
  obtain ⟨q9, hq9⟩ : ∃ q, y + 1 = q := ⟨_, rfl⟩
  rw [hq9] at HA'
  clear hq9
  unfold MGot at HM'
  unfold PGot at HN'
  clear HT HD HM HN hB
  obtain ⟨L, hLL⟩ : ∃ L, xs.length = L := ⟨_, rfl⟩
  rw [hLL] at HT' HD' HM' HN' HA' ⊢
  clear hLL
  obtain ⟨N, hN⟩ : ∃ N, ps.length = N := ⟨_, rfl⟩
  have hNl : Hid (ps.length = N) := hN
  obtain ⟨M, hM⟩ : ∃ N, qs.length = N := ⟨_, rfl⟩
  rw [hN] at HM' HN' HA' hpl
  rw [hM] at HN'
  go_enter Tryz.func9, Tryz.ntmps9
  go_upto_region 2 with (first | (go_at_call 41; refine (HT'.out _ (Below.refl _ _)).mono ?_; rintro e w1 ⟨rfl, hb1⟩))
  go_upto_region 3 with (first | (go_at_call 42; refine (HD'.out _ hb1).mono ?_; rintro e w2 ⟨rfl, hb2'⟩; have hb2 := hb1.trans (hb2'.mono hb1.size)))
  clear hb1 hb2'
  go_upto_region 4 with (first | (go_at_call 43; refine (HM'.out _ hb2).mono ?_; rintro e w3 ⟨a3, c3, rfl, hP3, hc3, hb3'⟩; have hb3 := hb2.trans (hb3'.mono hb2.size)))
  clear hb2 hb3'
  go_upto_region 5 with (first | (go_at_call 44; refine (HN'.out a3 c3 _ hb3 hP3 hc3).mono ?_; rintro e w4 ⟨a4, c4, rfl, hQ4, hc4, _, hb4'⟩; have hb4 := hb3.trans (hb4'.mono hb3.size); have hP4 := hP3.below hb4'))
  clear hb3 hb4' hP3 HT' HD' HM' HN'
  have z13 : decide ((13 : Int) ≤ (x : Int)) = false := by simp; omega
  have z13' : decide (13 ≤ x) = false := by simp; omega
  have HOk := mapOk_any a3 ps c3 w4 hP4
  rw [hNl.out, hm] at HOk
  have HOk' : Hid (Calls Tryz.prog 45 #[.slice a3 N c3] w4 fun e w' => e = .returned (.bool true) ∧ Below w4.heap.size w4 w') := HOk
  clear HOk
  have z0 : ((N : Int) == 0) = false := by simp; omega
  obtain ⟨b1, off1, rfl, hbl1, _⟩ := hP4.at_ (by omega)
  have HTw : Hid (∀ w', Below w4.heap.size w4 w' → Calls Tryz.prog 46 #[.slice (some ⟨b1, off1, none⟩) N c3, .int .i64 1, .int .i64 (T : Int)] w' (TwGot (twL ps (ps.getD T noPair).1 (twR ps T)) (twR ps T).isSome w')) := fun w' hb => by
    have := twin_any b1 off1 ps c3 T w' (hP4.below hb) (by rw [hNl.out]; exact hc3) hT (by omega)
    rw [hNl.out] at this
    exact this
  unfold TwGot at HTw
  obtain ⟨QS, hQS⟩ : ∃ q, twL ps (ps.getD T noPair).1 (twR ps T) = q := ⟨_, rfl⟩
  rw [hQS] at HTw
  obtain ⟨M2, hM2⟩ : ∃ N, QS.length = N := ⟨_, rfl⟩
  rw [hM2] at HTw
  clear hx hm hT hN
  go_upto_region 7 with (first | (go_at_call 45; refine HOk'.out.mono ?_; rintro e w5 ⟨rfl, hb5'⟩; have hb5 := hb4.trans (hb5'.mono hb4.size); have hP5 := hP4.below hb5'; have hQ5 := hQ4.below hb5'))
  have hb45 := hb5'
  go_upto_region 8 with (first | (go_at_call 41; refine (HA'.out _ hb5).mono ?_; rintro e w6 ⟨rfl, hb6'⟩; have hb6 := hb5.trans (hb6'.mono hb5.size); have hb46 := hb45.trans (hb6'.mono hb45.size); have hP6 := hP5.below hb6'))
  go_wp2_with (first | (go_at_call 46; refine (HTw.out _ hb46).mono ?_; rintro e w7 ⟨a7, c7, rfl, hQ7, hc7, hb7'⟩; have hb7 := hb6.trans (hb7'.mono hb6.size); have hP7 := hP6.below hb7'))
  go_ret3
  try rw [hQS]
  exact ⟨_, c3, a7, c7, by rw [hNl.out, hM2]; rfl, hP7, by rw [hNl.out]; exact hc3, hQ7, by rw [hM2]; exact hc7, hb7⟩
end Go.Proofs.YtfmpjlpakldheaaGreatDoor
