import Derived.Test.YtibjhkpgaaapaaaGreatDoorZgbj
import Derived.Test.YtibjhkpgaaapaaaGreatDoorZgbt
import Derived.Test.YtibjhkpgaaapaaaGreatDoorZgbu
import Derived.Test.YtibjhkpgaaapaaaGreatDoorZgbv
set_option maxRecDepth 100000
set_option maxHeartbeats 4000000
namespace Go.Proofs.YtibjhkpgaaapaaaGreatDoor
open Go.RowKit Go.Proofs.Sha

/-- What the draw of two proofs gives. -/
def DxG (w : World) (e : Ending) (w' : World) : Prop := ∃ (n : Int) (root lo hi one two : ByteArray), e = .returned (.tuple #[.int .i64 n, .string root, .string lo, .string hi, .string one, .string two]) ∧ root.size ≤ 1048576 ∧ lo.size ≤ 1048576 ∧ hi.size ≤ 1048576 ∧ one.size ≤ 1048576 ∧ two.size ≤ 1048576 ∧ Below w.heap.size w w'
theorem twL_sm {ps : List PairT} {T : Nat} (h : SmR ps 14) (hT : T < ps.length) (R : Option Nat) : (twL ps (ps.getD T noPair).1 R).length ≤ 15 ∧ ∀ x ∈ twL ps (ps.getD T noPair).1 R, x.1.size ≤ 256 ∧ x.2.size ≤ 2000 := by
  have hl := h.len
  have hx : ps.getD T noPair ∈ ps := by rw [getD_lt _ _ hT]; exact List.getElem_mem _
  have hk := (h.sz _ hx).1
  cases R with
  | none => exact ⟨by show ps.length ≤ _; omega, fun x hm => by have := h.sz x hm; omega⟩
  | some i =>
    refine ⟨by show (wth _ _ _).length ≤ _; have := wthLen ps (ps.getD T noPair).1 (tvD i); omega, fun x hm => ?_⟩
    rcases wth_mem hm with rfl | hm
    · have hs : (tvD i).size = 3 := by unfold tvD; rw [ByteArray.size_append, ByteArray.size_append]; rfl
      exact ⟨by show (ps.getD T noPair).1.size ≤ _; omega, by show (tvD i).size ≤ _; omega⟩
    · have := h.sz x hm
      omega
theorem dext_spoil (a : Option Addr) (xs : List Nat) (cap x : Nat) (hX : Code8 xs) (w : World) (hB : BL a xs w) (HDg : Hid DigSaid) (hx : x = 13)
    (HT' : ∀ w, BL a xs w → Calls Tryz.prog 58 #[.slice a xs.length cap, .int .i64 ((0 : Nat) : Int), .int .i64 ((16 : Nat) : Int)] w fun e w' => e = .returned (.tuple #[.int .i64 (x : Int), .int .i64 ((0 + 1 : Nat) : Int)]) ∧ Below w.heap.size w w') : Calls Tryz.prog 21 #[.slice a xs.length cap] w (DxG w) := by
  have HT : Hid (∀ w', Below w.heap.size w w' → Calls Tryz.prog 58 #[.slice a xs.length cap, .int .i64 0, .int .i64 16] w' fun e w'' => e = .returned (.tuple #[.int .i64 (x : Int), .int .i64 1]) ∧ Below w'.heap.size w' w'') := fun w' hb => HT' w' (hB.below hb)
  have HP : Hid (∀ w', Below w.heap.size w w' → Calls Tryz.prog 59 #[.slice a xs.length cap, .int .i64 1] w' (DpG w')) := fun w' hb => dproof_any a xs cap 1 hX (by omega) w' (hB.below hb) HDg
  have HSp : Hid (∀ (q : Nat) (s : ByteArray), q ≤ 80000 → s.size ≤ 50000 → ∃ t : ByteArray, t.size ≤ s.size + 1 ∧ ∀ w', Below w.heap.size w w' → Calls Tryz.prog 60 #[.slice a xs.length cap, .int .i64 (q : Int), .string s] w' fun e w'' => e = .returned (.string t) ∧ Below w'.heap.size w' w'') := fun q s h1 h2 => by
    obtain ⟨t, ht, H⟩ := spoil_det a xs cap q s hX h1 h2
    exact ⟨t, ht, fun w' hb => H w' (hB.below hb)⟩
  have HTk : Hid (∀ q m : Nat, q ≤ 1000 → 1 ≤ m → m ≤ 1000 → ∃ T : Nat, T < m ∧ ∀ w', Below w.heap.size w w' → Calls Tryz.prog 58 #[.slice a xs.length cap, .int .i64 (q : Int), .int .i64 (m : Int)] w' fun e w'' => e = .returned (.tuple #[.int .i64 (T : Int), .int .i64 ((q + 1 : Nat) : Int)]) ∧ Below w'.heap.size w' w'') := fun q m h1 h2 h3 => by
    obtain ⟨T, ht, H⟩ := take_det a xs cap q m hX (by omega) h2 (by omega)
    exact ⟨T, ht, fun w' hb => H w' (hB.below hb)⟩
  unfold DpG at HP
  clear HT' HDg
  obtain ⟨L, hL⟩ : ∃ L, xs.length = L := ⟨_, rfl⟩
  rw [hL] at HT HP HSp HTk ⊢
  clear hL hB hX
  subst hx
  go_enter Tryz.func21, Tryz.ntmps21
  go_upto_region 2 with (first | (go_at_call 58; refine (HT.out _ (Below.refl _ _)).mono ?_; rintro e w1 ⟨rfl, hb1⟩))
  go_upto_region 3 with (first | (go_at_call 59; refine (HP.out _ hb1).mono ?_; rintro e w2 ⟨wd, root, lo, hi, pf, ps, a1, c1, q, rfl, hwd, hroot, hlo, hhi, hpf, hR, hPa, hc1, hq, hb2'⟩))
  have hb2 := hb1.trans (hb2'.mono hb1.size)
  have hRl := hR.len
  clear HT HP hb2' hb1
  obtain ⟨t, ht, HS'⟩ := HSp.out q pf (by omega) (by omega)
  have HS : Hid _ := HS'
  clear HS' HSp HTk
  go_wp2_with (first | (go_at_call 60; refine (HS.out _ hb2).mono ?_; rintro e w3 ⟨rfl, hb3⟩))
  exact bodyPost_ret (v := .tuple #[.int .i64 (wd : Int), .string root, .string lo, .string hi, .string pf, .string t]) (by simp [results, Tryz.results21, go_sem]) rfl ⟨_, _, _, _, _, _, rfl, by omega, by omega, by omega, by omega, by omega, hb2.trans (hb3.mono hb2.size)⟩
theorem dext_same (a : Option Addr) (xs : List Nat) (cap x : Nat) (hX : Code8 xs) (w : World) (hB : BL a xs w) (HDg : Hid DigSaid) (hx : x = 14)
    (HT' : ∀ w, BL a xs w → Calls Tryz.prog 58 #[.slice a xs.length cap, .int .i64 ((0 : Nat) : Int), .int .i64 ((16 : Nat) : Int)] w fun e w' => e = .returned (.tuple #[.int .i64 (x : Int), .int .i64 ((0 + 1 : Nat) : Int)]) ∧ Below w.heap.size w w') : Calls Tryz.prog 21 #[.slice a xs.length cap] w (DxG w) := by
  have HT : Hid (∀ w', Below w.heap.size w w' → Calls Tryz.prog 58 #[.slice a xs.length cap, .int .i64 0, .int .i64 16] w' fun e w'' => e = .returned (.tuple #[.int .i64 (x : Int), .int .i64 1]) ∧ Below w'.heap.size w' w'') := fun w' hb => HT' w' (hB.below hb)
  have HP : Hid (∀ w', Below w.heap.size w w' → Calls Tryz.prog 59 #[.slice a xs.length cap, .int .i64 1] w' (DpG w')) := fun w' hb => dproof_any a xs cap 1 hX (by omega) w' (hB.below hb) HDg
  have HSp : Hid (∀ (q : Nat) (s : ByteArray), q ≤ 80000 → s.size ≤ 50000 → ∃ t : ByteArray, t.size ≤ s.size + 1 ∧ ∀ w', Below w.heap.size w w' → Calls Tryz.prog 60 #[.slice a xs.length cap, .int .i64 (q : Int), .string s] w' fun e w'' => e = .returned (.string t) ∧ Below w'.heap.size w' w'') := fun q s h1 h2 => by
    obtain ⟨t, ht, H⟩ := spoil_det a xs cap q s hX h1 h2
    exact ⟨t, ht, fun w' hb => H w' (hB.below hb)⟩
  have HTk : Hid (∀ q m : Nat, q ≤ 1000 → 1 ≤ m → m ≤ 1000 → ∃ T : Nat, T < m ∧ ∀ w', Below w.heap.size w w' → Calls Tryz.prog 58 #[.slice a xs.length cap, .int .i64 (q : Int), .int .i64 (m : Int)] w' fun e w'' => e = .returned (.tuple #[.int .i64 (T : Int), .int .i64 ((q + 1 : Nat) : Int)]) ∧ Below w'.heap.size w' w'') := fun q m h1 h2 h3 => by
    obtain ⟨T, ht, H⟩ := take_det a xs cap q m hX (by omega) h2 (by omega)
    exact ⟨T, ht, fun w' hb => H w' (hB.below hb)⟩
  unfold DpG at HP
  clear HT' HDg
  obtain ⟨L, hL⟩ : ∃ L, xs.length = L := ⟨_, rfl⟩
  rw [hL] at HT HP HSp HTk ⊢
  clear hL hB hX
  subst hx
  go_enter Tryz.func21, Tryz.ntmps21
  go_upto_region 2 with (first | (go_at_call 58; refine (HT.out _ (Below.refl _ _)).mono ?_; rintro e w1 ⟨rfl, hb1⟩))
  go_upto_region 3 with (first | (go_at_call 59; refine (HP.out _ hb1).mono ?_; rintro e w2 ⟨wd, root, lo, hi, pf, ps, a1, c1, q, rfl, hwd, hroot, hlo, hhi, hpf, hR, hPa, hc1, hq, hb2'⟩))
  have hb2 := hb1.trans (hb2'.mono hb1.size)
  have hRl := hR.len
  clear HT HP hb2' hb1
  clear HSp HTk
  go_wp2_with fail
  exact bodyPost_ret (v := .tuple #[.int .i64 (wd : Int), .string root, .string lo, .string hi, .string pf, .string pf]) (by simp [results, Tryz.results21, go_sem]) rfl ⟨_, _, _, _, _, _, rfl, by omega, by omega, by omega, by omega, by omega, hb2⟩
theorem dext_a (a : Option Addr) (xs : List Nat) (cap x : Nat) (hX : Code8 xs) (w : World) (hB : BL a xs w) (HDg : Hid DigSaid) (hx : x < 5)
    (HT' : ∀ w, BL a xs w → Calls Tryz.prog 58 #[.slice a xs.length cap, .int .i64 ((0 : Nat) : Int), .int .i64 ((16 : Nat) : Int)] w fun e w' => e = .returned (.tuple #[.int .i64 (x : Int), .int .i64 ((0 + 1 : Nat) : Int)]) ∧ Below w.heap.size w w') : Calls Tryz.prog 21 #[.slice a xs.length cap] w (DxG w) := by
  have HT : Hid (∀ w', Below w.heap.size w w' → Calls Tryz.prog 58 #[.slice a xs.length cap, .int .i64 0, .int .i64 16] w' fun e w'' => e = .returned (.tuple #[.int .i64 (x : Int), .int .i64 1]) ∧ Below w'.heap.size w' w'') := fun w' hb => HT' w' (hB.below hb)
  have HP : Hid (∀ w', Below w.heap.size w w' → Calls Tryz.prog 59 #[.slice a xs.length cap, .int .i64 1] w' (DpG w')) := fun w' hb => dproof_any a xs cap 1 hX (by omega) w' (hB.below hb) HDg
  have HSp : Hid (∀ (q : Nat) (s : ByteArray), q ≤ 80000 → s.size ≤ 50000 → ∃ t : ByteArray, t.size ≤ s.size + 1 ∧ ∀ w', Below w.heap.size w w' → Calls Tryz.prog 60 #[.slice a xs.length cap, .int .i64 (q : Int), .string s] w' fun e w'' => e = .returned (.string t) ∧ Below w'.heap.size w' w'') := fun q s h1 h2 => by
    obtain ⟨t, ht, H⟩ := spoil_det a xs cap q s hX h1 h2
    exact ⟨t, ht, fun w' hb => H w' (hB.below hb)⟩
  have HTk : Hid (∀ q m : Nat, q ≤ 1000 → 1 ≤ m → m ≤ 1000 → ∃ T : Nat, T < m ∧ ∀ w', Below w.heap.size w w' → Calls Tryz.prog 58 #[.slice a xs.length cap, .int .i64 (q : Int), .int .i64 (m : Int)] w' fun e w'' => e = .returned (.tuple #[.int .i64 (T : Int), .int .i64 ((q + 1 : Nat) : Int)]) ∧ Below w'.heap.size w' w'') := fun q m h1 h2 h3 => by
    obtain ⟨T, ht, H⟩ := take_det a xs cap q m hX (by omega) h2 (by omega)
    exact ⟨T, ht, fun w' hb => H w' (hB.below hb)⟩
  unfold DpG at HP
  clear HT' HDg
  obtain ⟨L, hL⟩ : ∃ L, xs.length = L := ⟨_, rfl⟩
  rw [hL] at HT HP HSp HTk ⊢
  clear hL hB hX
  have z13 : ((x : Int) == 13) = false := by simp; omega
  have z14 : ((x : Int) == 14) = false := by simp; omega
  have z5 : decide ((x : Int) < 5) = true := by simp; omega
  have z5g : decide ((5 : Int) ≤ (x : Int)) = false := by simp; omega
  have z10 : decide ((x : Int) < 10) = true := by simp; omega
  have z15 : ((x : Int) == 15) = false := by simp; omega
  have y5 : decide (x < 5) = true := by simp; omega
  have y5g : decide (5 ≤ x) = false := by simp; omega
  have y10 : decide (x < 10) = true := by simp; omega
  go_enter Tryz.func21, Tryz.ntmps21
  go_upto_region 2 with (first | (go_at_call 58; refine (HT.out _ (Below.refl _ _)).mono ?_; rintro e w1 ⟨rfl, hb1⟩))
  go_upto_region 3 with (first | (go_at_call 59; refine (HP.out _ hb1).mono ?_; rintro e w2 ⟨wd, root, lo, hi, pf, ps, a1, c1, q, rfl, hwd, hroot, hlo, hhi, hpf, hR, hPa, hc1, hq, hb2'⟩))
  have hb2 := hb1.trans (hb2'.mono hb1.size)
  have hRl := hR.len
  clear HT HP hb2' hb1
  by_cases h0 : ps.length = 0
  · have e0 : ((ps.length : Int) == 0) = true := by rw [h0]; rfl
    clear HSp HTk
    generalize ps.length = P at *
    subst h0
    go_wp2_with fail
    exact bodyPost_ret (v := .tuple #[.int .i64 (wd : Int), .string root, .string lo, .string hi, .string pf, .string pf]) (by simp [results, Tryz.results21, go_sem]) rfl ⟨_, _, _, _, _, _, rfl, by omega, by omega, by omega, by omega, by omega, hb2⟩
  · obtain ⟨T, hTl, HA'⟩ := HTk.out q ps.length hq (by omega) (by omega)
    have HA : Hid _ := HA'
    clear HA' HTk
    obtain ⟨b, off, rfl, hbl, hcs⟩ := hPa.at_ (by omega)
    have hcT := (hcs T hTl).1
    clear hcs
    obtain ⟨QS, hQS⟩ : ∃ QS, twL ps (ps.getD T noPair).1 (twR ps T) = QS := ⟨_, rfl⟩
    have hsm2 := twL_sm hR hTl (twR ps T)
    have hK : (ps.getD T noPair).1.size ≤ 1048576 := (hPa.sz T).1
    have HTw := fun w' (hb : Below w2.heap.size w2 w') => twin_any b off ps c1 T w' (hPa.below hb) hc1 hTl (by omega)
    rw [hQS] at hsm2 HTw
    unfold TwGot at HTw
    have HRt := fun w' (hb : Below w2.heap.size w2 w') => rootSpec_any (some ⟨b, off, none⟩) ps c1 1 w' (hPa.below hb) hc1
    have hrs : (rootS ps 1).size ≤ 1048576 := rootS_size ps 1 (by decide)
    generalize rootS ps 1 = RT at HRt hrs
    generalize (ps.getD T noPair).1 = K at hcT hK
    generalize (twR ps T).isSome = ff at HTw
    have HF1 := fun w' (hb : Below w2.heap.size w2 w') => fresh_any (some ⟨b, off, none⟩) ps c1 (⟨#[]⟩) (⟨#[]⟩) w' (by first | exact Nat.zero_le _ | omega) (by first | exact Nat.zero_le _ | omega) (by omega) hc1 (hPa.below hb) (fun z hz => by have := hR.sz z hz; omega)
    have HF2 := fun (a' : Option Addr) (c' : Nat) w' (hc : QS.length ≤ c') (hp : PArg a' QS w') => fresh_any a' QS c' (⟨#[]⟩) (⟨#[]⟩) w' (by first | exact Nat.zero_le _ | omega) (by first | exact Nat.zero_le _ | omega) (by omega) hc hp hsm2.2
    unfold FrAt at HF1 HF2
    have hps : PArg (some ⟨b, off, none⟩) ps w2 := hPa
    obtain ⟨P, hP⟩ : ∃ P, ps.length = P := ⟨_, rfl⟩
    obtain ⟨N2, hN2⟩ : ∃ P, QS.length = P := ⟨_, rfl⟩
    rw [hP] at HRt HF1 HA hRl hTl hc1 h0 HTw
    rw [hN2] at HTw HF2
    have hN15 : N2 ≤ 15 := by have := hsm2.1; omega
    try rw [hP]
    replace HRt : Hid _ := HRt
    replace HTw : Hid _ := HTw
    replace HF1 : Hid _ := HF1
    replace HF2 : Hid _ := HF2
    have HPq : Hid (∀ (a' : Option Addr) w', PArg a' QS w' → PArg a' QS w') := fun _ _ h => h
    clear hPa hps hR hsm2 hQS hP hN2
    have e0 : ((P : Int) == 0) = false := by rw [beq_eq_false_iff_ne]; omega
    have t0 : (0 : Int) ≤ (T : Int) := Int.natCast_nonneg _
    have t1 : (T : Int) < (P : Int) := by omega
    go_upto_region 8 with (first | (go_at_call 58; refine (HA.out _ hb2).mono ?_; rintro e w3 ⟨rfl, hb3⟩))
    have hbw3 := hb2.trans (hb3.mono hb2.size)
    go_upto_region 9 with (first | (go_at_call 29; refine (HRt.out _ hb3).mono ?_; rintro e w4 ⟨rfl, hb4'⟩))
    have hb4 := hb3.trans (hb4'.mono hb3.size)
    clear hb4' hb3 hbw3
    go_upto_region 10 with (first | (go_at_call 61; refine (HTw.out _ hb4).mono ?_; rintro e w5 ⟨a5, c5, rfl, hp5, hc5, hb5'⟩))
    have hb5 := hb4.trans (hb5'.mono hb4.size)
    have hcT5 := (hb5.cell (p := ⟨b, off + T * 2, none⟩) hbl).trans hcT
    clear hb5' hb4 HA HRt HTw hcT
    go_upto_region 17 with (first | (go_at_call 62; refine (HF1.out _ hb5).mono ?_; rintro e w6 ⟨⟨s1, rfl, hs1⟩, hb6'⟩))
    have hb6 := hb5.trans (hb6'.mono hb5.size)
    have hp6 := hp5.below hb6'
    clear hb6' hcT5 hp5 HF1
    go_upto_region 18 with (first | (go_at_call 62; refine (HF2.out _ _ _ hc5 hp6).mono ?_; rintro e w7 ⟨⟨s2, rfl, hs2⟩, hb7'⟩))
    have hb7 := hb2.trans ((hb6.trans (hb7'.mono hb6.size)).mono hb2.size)
    clear hb7' hp6 HF2 hb6 hb5
    clear HSp
    go_wp2_with fail
    exact bodyPost_ret (v := .tuple #[.int .i64 1, .string RT, .string ⟨#[]⟩, .string ⟨#[]⟩, .string s1, .string s2]) (by simp [results, Tryz.results21, go_sem]) rfl ⟨_, _, _, _, _, _, rfl, by omega, by first | exact Nat.zero_le _ | omega, by first | exact Nat.zero_le _ | omega, by omega, by omega, hb7⟩
theorem dext_b (a : Option Addr) (xs : List Nat) (cap x : Nat) (hX : Code8 xs) (w : World) (hB : BL a xs w) (HDg : Hid DigSaid) (hx : 5 ≤ x ∧ x < 10)
    (HT' : ∀ w, BL a xs w → Calls Tryz.prog 58 #[.slice a xs.length cap, .int .i64 ((0 : Nat) : Int), .int .i64 ((16 : Nat) : Int)] w fun e w' => e = .returned (.tuple #[.int .i64 (x : Int), .int .i64 ((0 + 1 : Nat) : Int)]) ∧ Below w.heap.size w w') : Calls Tryz.prog 21 #[.slice a xs.length cap] w (DxG w) := by
  have HT : Hid (∀ w', Below w.heap.size w w' → Calls Tryz.prog 58 #[.slice a xs.length cap, .int .i64 0, .int .i64 16] w' fun e w'' => e = .returned (.tuple #[.int .i64 (x : Int), .int .i64 1]) ∧ Below w'.heap.size w' w'') := fun w' hb => HT' w' (hB.below hb)
  have HP : Hid (∀ w', Below w.heap.size w w' → Calls Tryz.prog 59 #[.slice a xs.length cap, .int .i64 1] w' (DpG w')) := fun w' hb => dproof_any a xs cap 1 hX (by omega) w' (hB.below hb) HDg
  have HSp : Hid (∀ (q : Nat) (s : ByteArray), q ≤ 80000 → s.size ≤ 50000 → ∃ t : ByteArray, t.size ≤ s.size + 1 ∧ ∀ w', Below w.heap.size w w' → Calls Tryz.prog 60 #[.slice a xs.length cap, .int .i64 (q : Int), .string s] w' fun e w'' => e = .returned (.string t) ∧ Below w'.heap.size w' w'') := fun q s h1 h2 => by
    obtain ⟨t, ht, H⟩ := spoil_det a xs cap q s hX h1 h2
    exact ⟨t, ht, fun w' hb => H w' (hB.below hb)⟩
  have HTk : Hid (∀ q m : Nat, q ≤ 1000 → 1 ≤ m → m ≤ 1000 → ∃ T : Nat, T < m ∧ ∀ w', Below w.heap.size w w' → Calls Tryz.prog 58 #[.slice a xs.length cap, .int .i64 (q : Int), .int .i64 (m : Int)] w' fun e w'' => e = .returned (.tuple #[.int .i64 (T : Int), .int .i64 ((q + 1 : Nat) : Int)]) ∧ Below w'.heap.size w' w'') := fun q m h1 h2 h3 => by
    obtain ⟨T, ht, H⟩ := take_det a xs cap q m hX (by omega) h2 (by omega)
    exact ⟨T, ht, fun w' hb => H w' (hB.below hb)⟩
  unfold DpG at HP
  clear HT' HDg
  obtain ⟨L, hL⟩ : ∃ L, xs.length = L := ⟨_, rfl⟩
  rw [hL] at HT HP HSp HTk ⊢
  clear hL hB hX
  have z13 : ((x : Int) == 13) = false := by simp; omega
  have z14 : ((x : Int) == 14) = false := by simp; omega
  have z5 : decide ((x : Int) < 5) = false := by simp; omega
  have z5g : decide ((5 : Int) ≤ (x : Int)) = true := by simp; omega
  have z10 : decide ((x : Int) < 10) = true := by simp; omega
  have z15 : ((x : Int) == 15) = false := by simp; omega
  have y5 : decide (x < 5) = false := by simp; omega
  have y5g : decide (5 ≤ x) = true := by simp; omega
  have y10 : decide (x < 10) = true := by simp; omega
  go_enter Tryz.func21, Tryz.ntmps21
  go_upto_region 2 with (first | (go_at_call 58; refine (HT.out _ (Below.refl _ _)).mono ?_; rintro e w1 ⟨rfl, hb1⟩))
  go_upto_region 3 with (first | (go_at_call 59; refine (HP.out _ hb1).mono ?_; rintro e w2 ⟨wd, root, lo, hi, pf, ps, a1, c1, q, rfl, hwd, hroot, hlo, hhi, hpf, hR, hPa, hc1, hq, hb2'⟩))
  have hb2 := hb1.trans (hb2'.mono hb1.size)
  have hRl := hR.len
  clear HT HP hb2' hb1
  by_cases h0 : ps.length = 0
  · have e0 : ((ps.length : Int) == 0) = true := by rw [h0]; rfl
    clear HSp HTk
    generalize ps.length = P at *
    subst h0
    go_wp2_with fail
    exact bodyPost_ret (v := .tuple #[.int .i64 (wd : Int), .string root, .string lo, .string hi, .string pf, .string pf]) (by simp [results, Tryz.results21, go_sem]) rfl ⟨_, _, _, _, _, _, rfl, by omega, by omega, by omega, by omega, by omega, hb2⟩
  · obtain ⟨T, hTl, HA'⟩ := HTk.out q ps.length hq (by omega) (by omega)
    have HA : Hid _ := HA'
    clear HA' HTk
    obtain ⟨b, off, rfl, hbl, hcs⟩ := hPa.at_ (by omega)
    have hcT := (hcs T hTl).1
    clear hcs
    obtain ⟨QS, hQS⟩ : ∃ QS, twL ps (ps.getD T noPair).1 (twR ps T) = QS := ⟨_, rfl⟩
    have hsm2 := twL_sm hR hTl (twR ps T)
    have hK : (ps.getD T noPair).1.size ≤ 1048576 := (hPa.sz T).1
    have HTw := fun w' (hb : Below w2.heap.size w2 w') => twin_any b off ps c1 T w' (hPa.below hb) hc1 hTl (by omega)
    rw [hQS] at hsm2 HTw
    unfold TwGot at HTw
    have HRt := fun w' (hb : Below w2.heap.size w2 w') => rootSpec_any (some ⟨b, off, none⟩) ps c1 1 w' (hPa.below hb) hc1
    have hrs : (rootS ps 1).size ≤ 1048576 := rootS_size ps 1 (by decide)
    generalize rootS ps 1 = RT at HRt hrs
    generalize (ps.getD T noPair).1 = K at hcT hK
    generalize (twR ps T).isSome = ff at HTw
    have HF1 := fun w' (hb : Below w2.heap.size w2 w') => fresh_any (some ⟨b, off, none⟩) ps c1 (K) (⟨#[]⟩) w' (by first | exact Nat.zero_le _ | omega) (by first | exact Nat.zero_le _ | omega) (by omega) hc1 (hPa.below hb) (fun z hz => by have := hR.sz z hz; omega)
    have HF2 := fun (a' : Option Addr) (c' : Nat) w' (hc : QS.length ≤ c') (hp : PArg a' QS w') => fresh_any a' QS c' (K) (⟨#[]⟩) w' (by first | exact Nat.zero_le _ | omega) (by first | exact Nat.zero_le _ | omega) (by omega) hc hp hsm2.2
    unfold FrAt at HF1 HF2
    have hps : PArg (some ⟨b, off, none⟩) ps w2 := hPa
    obtain ⟨P, hP⟩ : ∃ P, ps.length = P := ⟨_, rfl⟩
    obtain ⟨N2, hN2⟩ : ∃ P, QS.length = P := ⟨_, rfl⟩
    rw [hP] at HRt HF1 HA hRl hTl hc1 h0 HTw
    rw [hN2] at HTw HF2
    have hN15 : N2 ≤ 15 := by have := hsm2.1; omega
    try rw [hP]
    replace HRt : Hid _ := HRt
    replace HTw : Hid _ := HTw
    replace HF1 : Hid _ := HF1
    replace HF2 : Hid _ := HF2
    have HPq : Hid (∀ (a' : Option Addr) w', PArg a' QS w' → PArg a' QS w') := fun _ _ h => h
    clear hPa hps hR hsm2 hQS hP hN2
    have e0 : ((P : Int) == 0) = false := by rw [beq_eq_false_iff_ne]; omega
    have t0 : (0 : Int) ≤ (T : Int) := Int.natCast_nonneg _
    have t1 : (T : Int) < (P : Int) := by omega
    go_upto_region 8 with (first | (go_at_call 58; refine (HA.out _ hb2).mono ?_; rintro e w3 ⟨rfl, hb3⟩))
    have hbw3 := hb2.trans (hb3.mono hb2.size)
    go_upto_region 9 with (first | (go_at_call 29; refine (HRt.out _ hb3).mono ?_; rintro e w4 ⟨rfl, hb4'⟩))
    have hb4 := hb3.trans (hb4'.mono hb3.size)
    clear hb4' hb3 hbw3
    go_upto_region 10 with (first | (go_at_call 61; refine (HTw.out _ hb4).mono ?_; rintro e w5 ⟨a5, c5, rfl, hp5, hc5, hb5'⟩))
    have hb5 := hb4.trans (hb5'.mono hb4.size)
    have hcT5 := (hb5.cell (p := ⟨b, off + T * 2, none⟩) hbl).trans hcT
    clear hb5' hb4 HA HRt HTw hcT
    go_upto_region 17 with (first | (go_at_call 62; refine (HF1.out _ hb5).mono ?_; rintro e w6 ⟨⟨s1, rfl, hs1⟩, hb6'⟩))
    have hb6 := hb5.trans (hb6'.mono hb5.size)
    have hp6 := hp5.below hb6'
    clear hb6' hcT5 hp5 HF1
    go_upto_region 18 with (first | (go_at_call 62; refine (HF2.out _ _ _ hc5 hp6).mono ?_; rintro e w7 ⟨⟨s2, rfl, hs2⟩, hb7'⟩))
    have hb7 := hb2.trans ((hb6.trans (hb7'.mono hb6.size)).mono hb2.size)
    clear hb7' hp6 HF2 hb6 hb5
    clear HSp
    go_wp2_with fail
    exact bodyPost_ret (v := .tuple #[.int .i64 1, .string RT, .string K, .string ⟨#[]⟩, .string s1, .string s2]) (by simp [results, Tryz.results21, go_sem]) rfl ⟨_, _, _, _, _, _, rfl, by omega, by first | exact Nat.zero_le _ | omega, by first | exact Nat.zero_le _ | omega, by omega, by omega, hb7⟩
theorem dext_c (a : Option Addr) (xs : List Nat) (cap x : Nat) (hX : Code8 xs) (w : World) (hB : BL a xs w) (HDg : Hid DigSaid) (hx : 10 ≤ x ∧ x < 13)
    (HT' : ∀ w, BL a xs w → Calls Tryz.prog 58 #[.slice a xs.length cap, .int .i64 ((0 : Nat) : Int), .int .i64 ((16 : Nat) : Int)] w fun e w' => e = .returned (.tuple #[.int .i64 (x : Int), .int .i64 ((0 + 1 : Nat) : Int)]) ∧ Below w.heap.size w w') : Calls Tryz.prog 21 #[.slice a xs.length cap] w (DxG w) := by
  have HT : Hid (∀ w', Below w.heap.size w w' → Calls Tryz.prog 58 #[.slice a xs.length cap, .int .i64 0, .int .i64 16] w' fun e w'' => e = .returned (.tuple #[.int .i64 (x : Int), .int .i64 1]) ∧ Below w'.heap.size w' w'') := fun w' hb => HT' w' (hB.below hb)
  have HP : Hid (∀ w', Below w.heap.size w w' → Calls Tryz.prog 59 #[.slice a xs.length cap, .int .i64 1] w' (DpG w')) := fun w' hb => dproof_any a xs cap 1 hX (by omega) w' (hB.below hb) HDg
  have HSp : Hid (∀ (q : Nat) (s : ByteArray), q ≤ 80000 → s.size ≤ 50000 → ∃ t : ByteArray, t.size ≤ s.size + 1 ∧ ∀ w', Below w.heap.size w w' → Calls Tryz.prog 60 #[.slice a xs.length cap, .int .i64 (q : Int), .string s] w' fun e w'' => e = .returned (.string t) ∧ Below w'.heap.size w' w'') := fun q s h1 h2 => by
    obtain ⟨t, ht, H⟩ := spoil_det a xs cap q s hX h1 h2
    exact ⟨t, ht, fun w' hb => H w' (hB.below hb)⟩
  have HTk : Hid (∀ q m : Nat, q ≤ 1000 → 1 ≤ m → m ≤ 1000 → ∃ T : Nat, T < m ∧ ∀ w', Below w.heap.size w w' → Calls Tryz.prog 58 #[.slice a xs.length cap, .int .i64 (q : Int), .int .i64 (m : Int)] w' fun e w'' => e = .returned (.tuple #[.int .i64 (T : Int), .int .i64 ((q + 1 : Nat) : Int)]) ∧ Below w'.heap.size w' w'') := fun q m h1 h2 h3 => by
    obtain ⟨T, ht, H⟩ := take_det a xs cap q m hX (by omega) h2 (by omega)
    exact ⟨T, ht, fun w' hb => H w' (hB.below hb)⟩
  unfold DpG at HP
  clear HT' HDg
  obtain ⟨L, hL⟩ : ∃ L, xs.length = L := ⟨_, rfl⟩
  rw [hL] at HT HP HSp HTk ⊢
  clear hL hB hX
  have z13 : ((x : Int) == 13) = false := by simp; omega
  have z14 : ((x : Int) == 14) = false := by simp; omega
  have z5 : decide ((x : Int) < 5) = false := by simp; omega
  have z5g : decide ((5 : Int) ≤ (x : Int)) = true := by simp; omega
  have z10 : decide ((x : Int) < 10) = false := by simp; omega
  have z15 : ((x : Int) == 15) = false := by simp; omega
  have y5 : decide (x < 5) = false := by simp; omega
  have y5g : decide (5 ≤ x) = true := by simp; omega
  have y10 : decide (x < 10) = false := by simp; omega
  go_enter Tryz.func21, Tryz.ntmps21
  go_upto_region 2 with (first | (go_at_call 58; refine (HT.out _ (Below.refl _ _)).mono ?_; rintro e w1 ⟨rfl, hb1⟩))
  go_upto_region 3 with (first | (go_at_call 59; refine (HP.out _ hb1).mono ?_; rintro e w2 ⟨wd, root, lo, hi, pf, ps, a1, c1, q, rfl, hwd, hroot, hlo, hhi, hpf, hR, hPa, hc1, hq, hb2'⟩))
  have hb2 := hb1.trans (hb2'.mono hb1.size)
  have hRl := hR.len
  clear HT HP hb2' hb1
  by_cases h0 : ps.length = 0
  · have e0 : ((ps.length : Int) == 0) = true := by rw [h0]; rfl
    clear HSp HTk
    generalize ps.length = P at *
    subst h0
    go_wp2_with fail
    exact bodyPost_ret (v := .tuple #[.int .i64 (wd : Int), .string root, .string lo, .string hi, .string pf, .string pf]) (by simp [results, Tryz.results21, go_sem]) rfl ⟨_, _, _, _, _, _, rfl, by omega, by omega, by omega, by omega, by omega, hb2⟩
  · obtain ⟨T, hTl, HA'⟩ := HTk.out q ps.length hq (by omega) (by omega)
    have HA : Hid _ := HA'
    clear HA' HTk
    obtain ⟨b, off, rfl, hbl, hcs⟩ := hPa.at_ (by omega)
    have hcT := (hcs T hTl).1
    clear hcs
    obtain ⟨QS, hQS⟩ : ∃ QS, twL ps (ps.getD T noPair).1 (twR ps T) = QS := ⟨_, rfl⟩
    have hsm2 := twL_sm hR hTl (twR ps T)
    have hK : (ps.getD T noPair).1.size ≤ 1048576 := (hPa.sz T).1
    have HTw := fun w' (hb : Below w2.heap.size w2 w') => twin_any b off ps c1 T w' (hPa.below hb) hc1 hTl (by omega)
    rw [hQS] at hsm2 HTw
    unfold TwGot at HTw
    have HRt := fun w' (hb : Below w2.heap.size w2 w') => rootSpec_any (some ⟨b, off, none⟩) ps c1 1 w' (hPa.below hb) hc1
    have hrs : (rootS ps 1).size ≤ 1048576 := rootS_size ps 1 (by decide)
    generalize rootS ps 1 = RT at HRt hrs
    generalize (ps.getD T noPair).1 = K at hcT hK
    generalize (twR ps T).isSome = ff at HTw
    have HF1 := fun w' (hb : Below w2.heap.size w2 w') => fresh_any (some ⟨b, off, none⟩) ps c1 (lo) (hi) w' (by first | exact Nat.zero_le _ | omega) (by first | exact Nat.zero_le _ | omega) (by omega) hc1 (hPa.below hb) (fun z hz => by have := hR.sz z hz; omega)
    have HF2 := fun (a' : Option Addr) (c' : Nat) w' (hc : QS.length ≤ c') (hp : PArg a' QS w') => fresh_any a' QS c' (lo) (hi) w' (by first | exact Nat.zero_le _ | omega) (by first | exact Nat.zero_le _ | omega) (by omega) hc hp hsm2.2
    unfold FrAt at HF1 HF2
    have hps : PArg (some ⟨b, off, none⟩) ps w2 := hPa
    obtain ⟨P, hP⟩ : ∃ P, ps.length = P := ⟨_, rfl⟩
    obtain ⟨N2, hN2⟩ : ∃ P, QS.length = P := ⟨_, rfl⟩
    rw [hP] at HRt HF1 HA hRl hTl hc1 h0 HTw
    rw [hN2] at HTw HF2
    have hN15 : N2 ≤ 15 := by have := hsm2.1; omega
    try rw [hP]
    replace HRt : Hid _ := HRt
    replace HTw : Hid _ := HTw
    replace HF1 : Hid _ := HF1
    replace HF2 : Hid _ := HF2
    have HPq : Hid (∀ (a' : Option Addr) w', PArg a' QS w' → PArg a' QS w') := fun _ _ h => h
    clear hPa hps hR hsm2 hQS hP hN2
    have e0 : ((P : Int) == 0) = false := by rw [beq_eq_false_iff_ne]; omega
    have t0 : (0 : Int) ≤ (T : Int) := Int.natCast_nonneg _
    have t1 : (T : Int) < (P : Int) := by omega
    go_upto_region 8 with (first | (go_at_call 58; refine (HA.out _ hb2).mono ?_; rintro e w3 ⟨rfl, hb3⟩))
    have hbw3 := hb2.trans (hb3.mono hb2.size)
    go_upto_region 9 with (first | (go_at_call 29; refine (HRt.out _ hb3).mono ?_; rintro e w4 ⟨rfl, hb4'⟩))
    have hb4 := hb3.trans (hb4'.mono hb3.size)
    clear hb4' hb3 hbw3
    go_upto_region 10 with (first | (go_at_call 61; refine (HTw.out _ hb4).mono ?_; rintro e w5 ⟨a5, c5, rfl, hp5, hc5, hb5'⟩))
    have hb5 := hb4.trans (hb5'.mono hb4.size)
    have hcT5 := (hb5.cell (p := ⟨b, off + T * 2, none⟩) hbl).trans hcT
    clear hb5' hb4 HA HRt HTw hcT
    go_upto_region 17 with (first | (go_at_call 62; refine (HF1.out _ hb5).mono ?_; rintro e w6 ⟨⟨s1, rfl, hs1⟩, hb6'⟩))
    have hb6 := hb5.trans (hb6'.mono hb5.size)
    have hp6 := hp5.below hb6'
    clear hb6' hcT5 hp5 HF1
    go_upto_region 18 with (first | (go_at_call 62; refine (HF2.out _ _ _ hc5 hp6).mono ?_; rintro e w7 ⟨⟨s2, rfl, hs2⟩, hb7'⟩))
    have hb7 := hb2.trans ((hb6.trans (hb7'.mono hb6.size)).mono hb2.size)
    clear hb7' hp6 HF2 hb6 hb5
    clear HSp
    go_wp2_with fail
    exact bodyPost_ret (v := .tuple #[.int .i64 1, .string RT, .string lo, .string hi, .string s1, .string s2]) (by simp [results, Tryz.results21, go_sem]) rfl ⟨_, _, _, _, _, _, rfl, by omega, by first | exact Nat.zero_le _ | omega, by first | exact Nat.zero_le _ | omega, by omega, by omega, hb7⟩
theorem dext_d (a : Option Addr) (xs : List Nat) (cap x : Nat) (hX : Code8 xs) (w : World) (hB : BL a xs w) (HDg : Hid DigSaid) (hx : x = 15)
    (HT' : ∀ w, BL a xs w → Calls Tryz.prog 58 #[.slice a xs.length cap, .int .i64 ((0 : Nat) : Int), .int .i64 ((16 : Nat) : Int)] w fun e w' => e = .returned (.tuple #[.int .i64 (x : Int), .int .i64 ((0 + 1 : Nat) : Int)]) ∧ Below w.heap.size w w') : Calls Tryz.prog 21 #[.slice a xs.length cap] w (DxG w) := by
  have HT : Hid (∀ w', Below w.heap.size w w' → Calls Tryz.prog 58 #[.slice a xs.length cap, .int .i64 0, .int .i64 16] w' fun e w'' => e = .returned (.tuple #[.int .i64 (x : Int), .int .i64 1]) ∧ Below w'.heap.size w' w'') := fun w' hb => HT' w' (hB.below hb)
  have HP : Hid (∀ w', Below w.heap.size w w' → Calls Tryz.prog 59 #[.slice a xs.length cap, .int .i64 1] w' (DpG w')) := fun w' hb => dproof_any a xs cap 1 hX (by omega) w' (hB.below hb) HDg
  have HSp : Hid (∀ (q : Nat) (s : ByteArray), q ≤ 80000 → s.size ≤ 50000 → ∃ t : ByteArray, t.size ≤ s.size + 1 ∧ ∀ w', Below w.heap.size w w' → Calls Tryz.prog 60 #[.slice a xs.length cap, .int .i64 (q : Int), .string s] w' fun e w'' => e = .returned (.string t) ∧ Below w'.heap.size w' w'') := fun q s h1 h2 => by
    obtain ⟨t, ht, H⟩ := spoil_det a xs cap q s hX h1 h2
    exact ⟨t, ht, fun w' hb => H w' (hB.below hb)⟩
  have HTk : Hid (∀ q m : Nat, q ≤ 1000 → 1 ≤ m → m ≤ 1000 → ∃ T : Nat, T < m ∧ ∀ w', Below w.heap.size w w' → Calls Tryz.prog 58 #[.slice a xs.length cap, .int .i64 (q : Int), .int .i64 (m : Int)] w' fun e w'' => e = .returned (.tuple #[.int .i64 (T : Int), .int .i64 ((q + 1 : Nat) : Int)]) ∧ Below w'.heap.size w' w'') := fun q m h1 h2 h3 => by
    obtain ⟨T, ht, H⟩ := take_det a xs cap q m hX (by omega) h2 (by omega)
    exact ⟨T, ht, fun w' hb => H w' (hB.below hb)⟩
  unfold DpG at HP
  clear HT' HDg
  obtain ⟨L, hL⟩ : ∃ L, xs.length = L := ⟨_, rfl⟩
  rw [hL] at HT HP HSp HTk ⊢
  clear hL hB hX
  subst hx
  go_enter Tryz.func21, Tryz.ntmps21
  go_upto_region 2 with (first | (go_at_call 58; refine (HT.out _ (Below.refl _ _)).mono ?_; rintro e w1 ⟨rfl, hb1⟩))
  go_upto_region 3 with (first | (go_at_call 59; refine (HP.out _ hb1).mono ?_; rintro e w2 ⟨wd, root, lo, hi, pf, ps, a1, c1, q, rfl, hwd, hroot, hlo, hhi, hpf, hR, hPa, hc1, hq, hb2'⟩))
  have hb2 := hb1.trans (hb2'.mono hb1.size)
  have hRl := hR.len
  clear HT HP hb2' hb1
  by_cases h0 : ps.length = 0
  · have e0 : ((ps.length : Int) == 0) = true := by rw [h0]; rfl
    clear HSp HTk
    generalize ps.length = P at *
    subst h0
    go_wp2_with fail
    exact bodyPost_ret (v := .tuple #[.int .i64 (wd : Int), .string root, .string lo, .string hi, .string pf, .string pf]) (by simp [results, Tryz.results21, go_sem]) rfl ⟨_, _, _, _, _, _, rfl, by omega, by omega, by omega, by omega, by omega, hb2⟩
  · obtain ⟨T, hTl, HA'⟩ := HTk.out q ps.length hq (by omega) (by omega)
    have HA : Hid _ := HA'
    clear HA' HTk
    obtain ⟨b, off, rfl, hbl, hcs⟩ := hPa.at_ (by omega)
    have hcT := (hcs T hTl).1
    clear hcs
    obtain ⟨QS, hQS⟩ : ∃ QS, twL ps (ps.getD T noPair).1 (twR ps T) = QS := ⟨_, rfl⟩
    have hsm2 := twL_sm hR hTl (twR ps T)
    have hK : (ps.getD T noPair).1.size ≤ 1048576 := (hPa.sz T).1
    have HTw := fun w' (hb : Below w2.heap.size w2 w') => twin_any b off ps c1 T w' (hPa.below hb) hc1 hTl (by omega)
    rw [hQS] at hsm2 HTw
    unfold TwGot at HTw
    have HRt := fun w' (hb : Below w2.heap.size w2 w') => rootSpec_any (some ⟨b, off, none⟩) ps c1 1 w' (hPa.below hb) hc1
    have hrs : (rootS ps 1).size ≤ 1048576 := rootS_size ps 1 (by decide)
    generalize rootS ps 1 = RT at HRt hrs
    generalize (ps.getD T noPair).1 = K at hcT hK
    generalize (twR ps T).isSome = ff at HTw
    have HF1 := fun w' (hb : Below w2.heap.size w2 w') => fresh_any (some ⟨b, off, none⟩) ps c1 (lo) (hi) w' (by first | exact Nat.zero_le _ | omega) (by first | exact Nat.zero_le _ | omega) (by omega) hc1 (hPa.below hb) (fun z hz => by have := hR.sz z hz; omega)
    have HF2 := fun (a' : Option Addr) (c' : Nat) w' (hc : QS.length ≤ c') (hp : PArg a' QS w') => fresh_any a' QS c' (lo) (hi) w' (by first | exact Nat.zero_le _ | omega) (by first | exact Nat.zero_le _ | omega) (by omega) hc hp hsm2.2
    unfold FrAt at HF1 HF2
    have hps : PArg (some ⟨b, off, none⟩) ps w2 := hPa
    obtain ⟨P, hP⟩ : ∃ P, ps.length = P := ⟨_, rfl⟩
    obtain ⟨N2, hN2⟩ : ∃ P, QS.length = P := ⟨_, rfl⟩
    rw [hP] at HRt HF1 HA hRl hTl hc1 h0 HTw
    rw [hN2] at HTw HF2
    have hN15 : N2 ≤ 15 := by have := hsm2.1; omega
    try rw [hP]
    replace HRt : Hid _ := HRt
    replace HTw : Hid _ := HTw
    replace HF1 : Hid _ := HF1
    replace HF2 : Hid _ := HF2
    have HPq : Hid (∀ (a' : Option Addr) w', PArg a' QS w' → PArg a' QS w') := fun _ _ h => h
    clear hPa hps hR hsm2 hQS hP hN2
    have e0 : ((P : Int) == 0) = false := by rw [beq_eq_false_iff_ne]; omega
    have t0 : (0 : Int) ≤ (T : Int) := Int.natCast_nonneg _
    have t1 : (T : Int) < (P : Int) := by omega
    go_upto_region 8 with (first | (go_at_call 58; refine (HA.out _ hb2).mono ?_; rintro e w3 ⟨rfl, hb3⟩))
    have hbw3 := hb2.trans (hb3.mono hb2.size)
    go_upto_region 9 with (first | (go_at_call 29; refine (HRt.out _ hb3).mono ?_; rintro e w4 ⟨rfl, hb4'⟩))
    have hb4 := hb3.trans (hb4'.mono hb3.size)
    clear hb4' hb3 hbw3
    go_upto_region 10 with (first | (go_at_call 61; refine (HTw.out _ hb4).mono ?_; rintro e w5 ⟨a5, c5, rfl, hp5, hc5, hb5'⟩))
    have hb5 := hb4.trans (hb5'.mono hb4.size)
    have hcT5 := (hb5.cell (p := ⟨b, off + T * 2, none⟩) hbl).trans hcT
    clear hb5' hb4 HA HRt HTw hcT
    go_upto_region 17 with (first | (go_at_call 62; refine (HF1.out _ hb5).mono ?_; rintro e w6 ⟨⟨s1, rfl, hs1⟩, hb6'⟩))
    have hb6 := hb5.trans (hb6'.mono hb5.size)
    have hp6 := hp5.below hb6'
    clear hb6' hcT5 hp5 HF1
    go_upto_region 18 with (first | (go_at_call 62; refine (HF2.out _ _ _ hc5 hp6).mono ?_; rintro e w7 ⟨⟨s2, rfl, hs2⟩, hb7'⟩))
    have hb7 := hb2.trans ((hb6.trans (hb7'.mono hb6.size)).mono hb2.size)
    clear hb7' hp6 HF2 hb6 hb5
    obtain ⟨t, ht, HS'⟩ := HSp.out (q + 1) s2 (by omega) (by omega)
    have HS : Hid _ := HS'
    clear HS' HSp
    go_wp2_with (first | (go_at_call 60; refine (HS.out _ hb7).mono ?_; rintro e w8 ⟨rfl, hb8⟩))
    exact bodyPost_ret (v := .tuple #[.int .i64 1, .string RT, .string lo, .string hi, .string s1, .string t]) (by simp [results, Tryz.results21, go_sem]) rfl ⟨_, _, _, _, _, _, rfl, by omega, by omega, by omega, by omega, by omega, hb7.trans (hb8.mono hb7.size)⟩
theorem dext_any (a : Option Addr) (xs : List Nat) (cap : Nat) (hX : Code8 xs) (w : World) (hB : BL a xs w) (HDg : Hid DigSaid) : Calls Tryz.prog 21 #[.slice a xs.length cap] w (DxG w) := by
  obtain ⟨x, hx, HT⟩ := take_det a xs cap 0 16 hX (by omega) (by omega) (by omega)
  by_cases h13 : x = 13
  · exact dext_spoil a xs cap x hX w hB HDg h13 HT
  by_cases h14 : x = 14
  · exact dext_same a xs cap x hX w hB HDg h14 HT
  by_cases h5 : x < 5
  · exact dext_a a xs cap x hX w hB HDg h5 HT
  by_cases h10 : x < 10
  · exact dext_b a xs cap x hX w hB HDg ⟨by omega, h10⟩ HT
  by_cases h15 : x = 15
  · exact dext_d a xs cap x hX w hB HDg h15 HT
  · exact dext_c a xs cap x hX w hB HDg (by omega) HT
end Go.Proofs.YtibjhkpgaaapaaaGreatDoor
