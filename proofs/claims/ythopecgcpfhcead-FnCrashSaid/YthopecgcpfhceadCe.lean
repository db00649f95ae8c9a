import Derived.Test.YthopecgcpfhceadCd
namespace Go.Proofs.Ythopecgcpfhcead
open Go.RowKit Go.Proofs.Sha

theorem enc_d (k v l r : ByteArray) (n : Int) (w : World) (hk : k.size ≤ 1048576) (hv : v.size ≤ 1048576) (hl : l.size ≤ 1048576) (hr : r.size ≤ 1048576) :
    Calls Try.prog 23 #[.agg #[.string k, .string v, .string l, .string r], .int .i64 n] w fun e w' => e = .returned (.string (encS k v l r n)) ∧ Below w.heap.size w w' :=
  (enc_any k v l r n w hk hv hl hr).mono (by rintro e w' ⟨t, rfl, HT, hb⟩; exact ⟨by rw [HT.out], hb⟩)
theorem noderec_d (enc : ByteArray) (hs : enc.size ≤ 1048576) (w : World) :
    Calls Try.prog 65 #[.string enc] w fun e w' => e = .returned (.string (nodeRec enc)) ∧ Below w.heap.size w w' :=
  (nodeRec_any enc w hs).mono (by rintro e w' ⟨t, rfl, HT, hb⟩; exact ⟨by rw [HT.out], hb⟩)
theorem encS_small (k v l r : ByteArray) (n : Int) : (encS k v l r n).size ≤ 2400 := by
  unfold encS
  split
  · rename_i h
    have ho := nodeOk_out h
    rw [T_size]
    unfold encL
    simp only [List.length_append, sized_length, List.length_cons, List.length_nil]
    have e1 : k.data.toList.length = k.size := rfl
    have e2 : v.data.toList.length = v.size := rfl
    have e3 : l.data.toList.length = l.size := rfl
    have e4 : r.data.toList.length = r.size := rfl
    omega
  · exact Nat.zero_le _

/-- One record more of an image. -/
def Step (a : Option Addr) (xs : List Nat) (cap : Nat) (i : Nat) (s : ByteArray) (q : Nat) (r : ByteArray × Nat) : Prop :=
  ∃ x wd : Nat, (1 ≤ wd ∧ wd ≤ 32) ∧
    Hid (∀ w, BL a xs w → Calls Try.prog 27 #[.slice a xs.length cap, .int .i64 (q : Int), .int .i64 4] w fun e w' => e = .returned (.tuple #[.int .i64 (x : Int), .int .i64 ((q + 1 : Nat) : Int)]) ∧ Below w.heap.size w w') ∧
    Hid (∀ w, BL a xs w → Calls Try.prog 61 #[.slice a xs.length cap, .int .i64 ((q + 1 : Nat) : Int)] w fun e w' => e = .returned (.tuple #[.int .i64 (wd : Int), .int .i64 ((q + 2 : Nat) : Int)]) ∧ Below w.heap.size w w') ∧
    ((x = 0 ∧ ∃ root : ByteArray, root.size ≤ 32 ∧
        Hid (∀ w, BL a xs w → Calls Try.prog 62 #[.slice a xs.length cap, .int .i64 ((q + 2 : Nat) : Int), .int .i64 (wd : Int)] w fun e w' => e = .returned (.tuple #[.string root, .int .i64 ((q + 3 : Nat) : Int)]) ∧ Below w.heap.size w w') ∧
        r = (s ++ commitRec ((i + 1 : Nat) : Int) root, q + 3)) ∨
      (x ≠ 0 ∧ ∃ ke va le ri : ByteArray, (ke.size ≤ 3000 ∧ va.size ≤ 3000 ∧ le.size ≤ 3000 ∧ ri.size ≤ 3000) ∧
        Hid (∀ w, BL a xs w → Calls Try.prog 64 #[.slice a xs.length cap, .int .i64 ((q + 2 : Nat) : Int), .int .i64 (wd : Int)] w fun e w' => e = .returned (.tuple #[.agg #[.string ke, .string va, .string le, .string ri], .int .i64 ((q + 8 : Nat) : Int)]) ∧ Below w.heap.size w w') ∧
        r = (s ++ nodeRec (encS ke va le ri (wd : Int)), q + 8)))
theorem step_ex (a : Option Addr) (xs : List Nat) (cap : Nat) (i : Nat) (s : ByteArray) (q : Nat) (hX : Code8 xs) (hq : q ≤ 70000) :
    ∃ r, Step a xs cap i s q r ∧ r.1.size ≤ s.size + 2560 ∧ r.2 ≤ q + 8 := by
  obtain ⟨x, hx, HT⟩ := take_det a xs cap q 4 hX (by omega) (by omega) (by omega)
  obtain ⟨wd, hw, HW⟩ := width_det a xs cap (q + 1) hX (by omega)
  by_cases h0 : x = 0
  · obtain ⟨root, hr, HR⟩ := hash_det a xs cap (q + 2) wd hX (by omega) hw.1 hw.2
    refine ⟨(s ++ commitRec ((i + 1 : Nat) : Int) root, q + 3), ⟨x, wd, hw, HT, HW, .inl ⟨h0, root, hr, HR, rfl⟩⟩, ?_, ?_⟩
    · show (s ++ commitRec ((i + 1 : Nat) : Int) root).size ≤ _
      rw [ByteArray.size_append]
      have := commitRec_le ((i + 1 : Nat) : Int) root
      omega
    · show q + 3 ≤ q + 8; omega
  · obtain ⟨ke, va, le, ri, hz, HN⟩ := node_det a xs cap (q + 2) wd hX (by omega) hw.1 hw.2
    refine ⟨(s ++ nodeRec (encS ke va le ri (wd : Int)), q + 8), ⟨x, wd, hw, HT, HW, .inr ⟨h0, ke, va, le, ri, hz, HN, rfl⟩⟩, ?_, Nat.le_refl _⟩
    show (s ++ nodeRec (encS ke va le ri (wd : Int))).size ≤ _
    rw [ByteArray.size_append]
    have := nodeRec_le _ (encS_small ke va le ri (wd : Int))
    omega
theorem steps_ex (a : Option Addr) (xs : List Nat) (cap : Nat) (p : Nat) (hX : Code8 xs) (hp : p ≤ 60000) (n : Nat) (hn : n ≤ 6) :
    ∃ S : Nat → ByteArray × Nat, S 0 = (⟨#[]⟩, p) ∧ (∀ j, j < n → Step a xs cap j (S j).1 (S j).2 (S (j + 1))) ∧ (∀ j, j ≤ n → (S j).1.size ≤ 2560 * j ∧ (S j).2 ≤ p + 8 * j) := by
  induction n with
  | zero => exact ⟨fun _ => (⟨#[]⟩, p), rfl, fun j hj => absurd hj (by omega), fun j hj => by
      obtain rfl : j = 0 := (by omega)
      exact ⟨Nat.zero_le _, Nat.le_refl _⟩⟩
  | succ n ih =>
    obtain ⟨S, h0, h1, h2⟩ := ih (by omega)
    obtain ⟨r, hr, hr1, hr2⟩ := step_ex a xs cap n (S n).1 (S n).2 hX (by have := (h2 n (Nat.le_refl _)).2; omega)
    refine ⟨fun j => if j ≤ n then S j else r, (by show (if 0 ≤ n then S 0 else r) = _; rw [if_pos (Nat.zero_le _)]; exact h0), fun j hj => ?_, fun j hj => ?_⟩
    · show Step a xs cap j (if j ≤ n then S j else r).1 (if j ≤ n then S j else r).2 (if j + 1 ≤ n then S (j + 1) else r)
      rw [if_pos (show j ≤ n by omega)]
      by_cases h : j + 1 ≤ n
      · rw [if_pos h]; exact h1 j (by omega)
      · obtain rfl : j = n := by omega
        rw [if_neg h]; exact hr
    · show (if j ≤ n then S j else r).1.size ≤ _ ∧ (if j ≤ n then S j else r).2 ≤ _
      by_cases h : j ≤ n
      · rw [if_pos h]; exact h2 j h
      · obtain rfl : j = n + 1 := by omega
        rw [if_neg h]
        have := h2 n (Nat.le_refl _)
        omega

set_option maxRecDepth 100000 in
set_option maxHeartbeats 4000000 in
theorem image_det (a : Option Addr) (xs : List Nat) (cap : Nat) (p : Nat) (hX : Code8 xs) (hp : p ≤ 50000) :
    ∃ (t : ByteArray) (P : Nat), (t.size ≤ 20000 ∧ P ≤ p + 100) ∧ ∀ w, BL a xs w → Calls Try.prog 57 #[.slice a xs.length cap, .int .i64 (p : Int)] w fun e w' => e = .returned (.tuple #[.string t, .int .i64 (P : Int)]) ∧ Below w.heap.size w w' := by
  obtain ⟨n, hn, HN⟩ := take_det a xs cap p 6 hX (by omega) (by omega) (by omega)
  obtain ⟨S, h0, hS, hz⟩ := steps_ex a xs cap (p + 1) hX (by omega) n (by omega)
  have hzn := hz n (Nat.le_refl _)
  obtain ⟨s, hs⟩ : ∃ s, (S n).1 = s := ⟨_, rfl⟩
  obtain ⟨q, hq⟩ : ∃ q, (S n).2 = q := ⟨_, rfl⟩
  rw [hs, hq] at hzn
  obtain ⟨x, hx, HX⟩ := take_det a xs cap q 9 hX (by omega) (by omega) (by omega)
  obtain ⟨at_, hat, HA⟩ := take_det a xs cap (q + 1) (s.size / 64 + 1) hX (by omega) (by omega) (by omega)
  obtain ⟨sp, hsp, HSP⟩ := spoil_det a xs cap (q + 2) s hX (by omega) (by omega)
  obtain ⟨r, hr⟩ : ∃ r : ByteArray, r = if x = 6 then sp else if x = 7 ∧ at_ * 64 + 64 ≤ s.size then s.extract 0 (at_ * 64 + 63) ++ ⟨#[0]⟩ ++ s.extract (at_ * 64 + 64) s.size else if x = 8 then s.extract 0 (at_ * 64) else s := ⟨_, rfl⟩
  have hrz : r.size ≤ 20000 := by
    rw [hr]
    split
    · omega
    · split
      · rw [ByteArray.size_append, ByteArray.size_append, ByteArray.size_extract, ByteArray.size_extract]
        show _ + 1 + _ ≤ _
        omega
      · split
        · rw [ByteArray.size_extract]; omega
        · omega
  refine ⟨r, q + 5, ⟨hrz, by omega⟩, fun w h => ?_⟩
  replace HN : Hid _ := HN
  replace HX : Hid _ := HX
  replace HA : Hid _ := HA
  replace HSP : Hid _ := HSP
  replace hr : Hid _ := hr
  go_enter Try.func57, Try.ntmps57
  go_wp2_with fail
  refine (HN.out w h).mono ?_
  rintro e w1 ⟨rfl, hb1⟩
  have h0' : S 0 = (⟨#[]⟩, p + 1) := h0
  go_wp2_with fail
  go_loopw [1, 9, 10] (fun t1 t9 t10 wr => ∃ j : Nat, j ≤ n ∧ t10 = .int .i64 (j : Int) ∧ t9 = .string (S j).1 ∧ t1 = .int .i64 ((S j).2 : Int) ∧ Below w.heap.size w wr) (fun _ _ t10 _ => n - (intOf t10).toNat)
  case atStart => exact ⟨0, Nat.zero_le _, rfl, by rw [h0'], by rw [h0']; rfl, hb1⟩
  case round =>
    clear hb1 HN
    obtain ⟨j, hj, rfl, rfl, rfl, hbel⟩ := hrel
    by_cases hlt : j < n
    · have z1 : decide ((j : Int) < (n : Int)) = true := by simp; omega
      have hzj := hz j hj
      have hz1 := hz (j + 1) hlt
      obtain ⟨x', wd, hwd, HT, HW, hcase⟩ := hS j hlt
      obtain ⟨sj, hsj⟩ : ∃ s, (S j).1 = s := ⟨_, rfl⟩
      obtain ⟨qj, hqj⟩ : ∃ q, (S j).2 = q := ⟨_, rfl⟩
      rw [hsj, hqj] at hzj hcase ⊢
      rw [hqj] at HT HW
      obtain ⟨q1, hq1⟩ : ∃ q, qj + 1 = q := ⟨_, rfl⟩
      obtain ⟨q2, hq2⟩ : ∃ q, qj + 2 = q := ⟨_, rfl⟩
      rw [hq1] at HT HW
      rw [hq2] at HW hcase
      have hA := h.below hbel
      rcases hcase with ⟨rfl, root, hroot, HR, hnext⟩ | ⟨hx0, ke, va, le, ri, hsz, HR, hnext⟩
      · obtain ⟨q3, hq3⟩ : ∃ q, qj + 3 = q := ⟨_, rfl⟩
        rw [hq3] at HR hnext
        have y1 : IntKind.i64.wrap ((j : Int) + 1) = ((j + 1 : Nat) : Int) := by rw [wrap_i64_in _ (by omega) (by omega)]; omega
        obtain ⟨cm, hcm⟩ : ∃ cm, commitRec ((j + 1 : Nat) : Int) root = cm := ⟨_, rfl⟩
        have hcs : cm.size ≤ 64 := by rw [← hcm]; exact commitRec_le _ _
        have HC : Hid (∀ w m, m = ((j + 1 : Nat) : Int) → Calls Try.prog 63 #[.int .i64 m, .string root] w fun e w' => e = .returned (.string cm) ∧ Below w.heap.size w w') := fun w m hm => by rw [← hcm, hm]; exact commit_d _ _ (by omega) w
        rw [hcm] at hnext
        replace hnext : Hid _ := hnext
        have f1 : ¬ (9223372036854775807 < sj.size + cm.size) := by omega
        clear hcm hq1 hq2 hq3 y1
        go_wp2_with fail
        refine (HT.out _ hA).mono ?_
        rintro e w2 ⟨rfl, hb2⟩
        have hB2 := hbel.trans (hb2.mono hbel.size)
        go_wp2_with fail
        refine (HW.out _ (h.below hB2)).mono ?_
        rintro e w3 ⟨rfl, hb3⟩
        have hB3 := hB2.trans (hb3.mono hB2.size)
        go_wp2_with fail
        refine (HR.out _ (h.below hB3)).mono ?_
        rintro e w4 ⟨rfl, hb4⟩
        have hB4 := hB3.trans (hb4.mono hB3.size)
        clear hb2 hb3 hb4 hB2 hB3
        go_wp2_with fail
        refine (HC.out _ _ (by omega)).mono ?_
        rintro e w5 ⟨rfl, hb5⟩
        have hB5 := hB4.trans (hb5.mono hB4.size)
        go_wp2_with fail
        go_roundw
        case rel => exact ⟨j + 1, hlt, rfl, by rw [hnext.out], by rw [hnext.out], hB5⟩
        case measure => simp [intOf]; omega
      · obtain ⟨q8, hq8⟩ : ∃ q, qj + 8 = q := ⟨_, rfl⟩
        rw [hq8] at HR hnext
        have z2 : ((x' : Int) == 0) = false := by rw [beq_eq_false_iff_ne]; omega
        obtain ⟨en, hen⟩ : ∃ en, encS ke va le ri (wd : Int) = en := ⟨_, rfl⟩
        have hens : en.size ≤ 2400 := by rw [← hen]; exact encS_small _ _ _ _ _
        have HE : Hid (∀ w, Calls Try.prog 23 #[.agg #[.string ke, .string va, .string le, .string ri], .int .i64 (wd : Int)] w fun e w' => e = .returned (.string en) ∧ Below w.heap.size w w') := fun w => by rw [← hen]; exact enc_d _ _ _ _ _ w (by omega) (by omega) (by omega) (by omega)
        rw [hen] at hnext
        obtain ⟨nr, hnr⟩ : ∃ nr, nodeRec en = nr := ⟨_, rfl⟩
        have hnrs : nr.size ≤ 2560 := by rw [← hnr]; exact nodeRec_le _ hens
        have HC : Hid (∀ w, Calls Try.prog 65 #[.string en] w fun e w' => e = .returned (.string nr) ∧ Below w.heap.size w w') := fun w => by rw [← hnr]; exact noderec_d _ (by omega) w
        rw [hnr] at hnext
        replace hnext : Hid _ := hnext
        have f1 : ¬ (9223372036854775807 < sj.size + nr.size) := by omega
        clear hen hnr hq1 hq2 hq8
        go_wp2_with fail
        refine (HT.out _ hA).mono ?_
        rintro e w2 ⟨rfl, hb2⟩
        have hB2 := hbel.trans (hb2.mono hbel.size)
        go_wp2_with fail
        refine (HW.out _ (h.below hB2)).mono ?_
        rintro e w3 ⟨rfl, hb3⟩
        have hB3 := hB2.trans (hb3.mono hB2.size)
        go_wp2_with fail
        refine (HR.out _ (h.below hB3)).mono ?_
        rintro e w4 ⟨rfl, hb4⟩
        have hB4 := hB3.trans (hb4.mono hB3.size)
        clear hb2 hb3 hb4 hB2 hB3
        have hB4' : ∀ o, Below w.heap.size w (w4.alloc o) := fun o => hB4.alloc hB4.size o
        go_wp2_with fail
        refine (HE.out _).mono ?_
        rintro e w5 ⟨rfl, hb5⟩
        have hB5 := (hB4' _).trans (hb5.mono (hB4' _).size)
        go_wp2_with fail
        refine (HC.out _).mono ?_
        rintro e w6 ⟨rfl, hb6⟩
        have hB6 := hB5.trans (hb6.mono hB5.size)
        go_wp2_with fail
        go_roundw
        case rel => exact ⟨j + 1, hlt, rfl, by rw [hnext.out], by rw [hnext.out], hB6⟩
        case measure => simp [intOf]; omega
    · obtain rfl : j = n := by omega
      rw [hs, hq]
      have z1 : decide ((j : Int) < (j : Int)) = false := by simp
      have HA' : Hid (∀ w m, m = ((s.size / 64 + 1 : Nat) : Int) → BL a xs w → Calls Try.prog 27 #[.slice a xs.length cap, .int .i64 ((q + 1 : Nat) : Int), .int .i64 m] w fun e w' => e = .returned (.tuple #[.int .i64 (at_ : Int), .int .i64 ((q + 1 + 1 : Nat) : Int)]) ∧ Below w.heap.size w w') := fun w m hm hw => by rw [hm]; exact HA.out w hw
      obtain ⟨q1, hq1⟩ : ∃ q1, q + 1 = q1 := ⟨_, rfl⟩
      obtain ⟨q2, hq2⟩ : ∃ q2, q1 + 1 = q2 := ⟨_, rfl⟩
      rw [hq1] at HX HA'
      rw [hq2] at HA'
      rw [show q + 2 = q2 by omega] at HSP
      have HQ5 : Hid (((q + 5 : Nat) : Int) = (q2 : Int) + 3) := by show _ = _; omega
      have hq2b : q2 ≤ 60000 := by omega
      clear HA hq1 hq2 hS hz h0 h0' hs hq
      have hm : at_ * 64 ≤ s.size := by omega
      by_cases c6 : x = 6
      · have er : Hid (r = sp) := hr.out.trans (if_pos c6)
        clear hr
        subst c6
        go_wp2_with fail
        refine (HX.out _ (h.below hbel)).mono ?_
        rintro e w2 ⟨rfl, hb2⟩
        have hB2 := hbel.trans (hb2.mono hbel.size)
        go_wp2_with fail
        refine (HA'.out _ _ (by omega) (h.below hB2)).mono ?_
        rintro e w3 ⟨rfl, hb3⟩
        have hB3 := hB2.trans (hb3.mono hB2.size)
        clear hb2 hb3 hbel hB2
        go_wp2_with fail
        refine (HSP.out _ (h.below hB3)).mono ?_
        rintro e w4 ⟨rfl, hb4⟩
        have hB4 := hB3.trans (hb4.mono hB3.size)
        go_wp2_with fail
        go_ret2
        refine ⟨?_, hB4⟩
        rw [er.out, HQ5.out]
        rfl
      have z6 : ((x : Int) == 6) = false := by rw [beq_eq_false_iff_ne]; omega
      by_cases c7 : x = 7 ∧ at_ * 64 + 64 ≤ s.size
      · have er : Hid (r = s.extract 0 (at_ * 64 + 63) ++ ⟨#[0]⟩ ++ s.extract (at_ * 64 + 64) s.size) := hr.out.trans ((if_neg c6).trans (if_pos c7))
        clear hr
        obtain ⟨rfl, c7'⟩ := c7
        have z7 : decide ((at_ : Int) * 64 + 64 ≤ (s.size : Int)) = true := by simp; omega
        have y1 : IntKind.i64.wrap ((at_ : Int) * 64) = (at_ : Int) * 64 := wrap_i64_in _ (by omega) (by omega)
        have y2 : IntKind.i64.wrap ((at_ : Int) * 64 + 63) = (at_ : Int) * 64 + 63 := wrap_i64_in _ (by omega) (by omega)
        have y3 : IntKind.i64.wrap ((at_ : Int) * 64 + 64) = (at_ : Int) * 64 + 64 := wrap_i64_in _ (by omega) (by omega)
        have v1 : (at_ : Int) * 64 + 63 ≤ (s.size : Int) := by omega
        have v2 : (at_ : Int) * 64 + 64 ≤ (s.size : Int) := by omega
        have v3 : (0 : Int) ≤ (at_ : Int) * 64 + 63 := by omega
        have v4 : (0 : Int) ≤ (at_ : Int) * 64 + 64 := by omega
        have e1 : (s.extract 0 (at_ * 64 + 63)).size = at_ * 64 + 63 := by rw [ByteArray.size_extract]; omega
        have e2 : (s.extract (at_ * 64 + 64) s.size).size = s.size - (at_ * 64 + 64) := by rw [ByteArray.size_extract]; omega
        have e3 : (s.extract 0 ((at_ : Int) * 64 + 63).toNat).size = at_ * 64 + 63 := by rw [ByteArray.size_extract]; omega
        have e4 : (s.extract ((at_ : Int) * 64 + 64).toNat s.size).size = s.size - (at_ * 64 + 64) := by rw [ByteArray.size_extract]; omega
        have f1 : ¬ (9223372036854775807 < (s.extract 0 (at_ * 64 + 63)).size + 1) := by omega
        have f2 : ¬ (9223372036854775807 < (s.extract 0 (at_ * 64 + 63)).size + 1 + (s.extract (at_ * 64 + 64) s.size).size) := by omega
        have f3 : ¬ (9223372036854775807 < (s.extract 0 (at_ * 64 + 63)).size + 1 + (s.extract ((at_ : Int) * 64 + 64).toNat s.size).size) := by omega
        have f4 : ¬ (9223372036854775807 < (s.extract 0 (at_ * 64 + 63)).size + 1 + (s.size - (at_ * 64 + 64))) := by omega
        have f5 : ¬ (9223372036854775807 < (s.extract 0 (at_ * 64 + 63)).size + 1 + (s.size - ((at_ : Int) * 64 + 64).toNat)) := by omega
        have f6 : ¬ (9223372036854775807 < (s.extract 0 ((at_ : Int) * 64 + 63).toNat).size + 1) := by omega
        have f7 : ¬ (9223372036854775807 < (s.extract 0 ((at_ : Int) * 64 + 63).toNat).size + 1 + (s.extract (at_ * 64 + 64) s.size).size) := by omega
        have f8 : ¬ (9223372036854775807 < (s.extract 0 ((at_ : Int) * 64 + 63).toNat).size + 1 + (s.extract ((at_ : Int) * 64 + 64).toNat s.size).size) := by omega
        have f9 : ¬ (9223372036854775807 < (s.extract 0 ((at_ : Int) * 64 + 63).toNat).size + 1 + (s.size - (at_ * 64 + 64))) := by omega
        have f10 : ¬ (9223372036854775807 < (s.extract 0 ((at_ : Int) * 64 + 63).toNat).size + 1 + (s.size - ((at_ : Int) * 64 + 64).toNat)) := by omega
        have f11 : ¬ (9223372036854775807 < min (at_ * 64 + 63) s.size + 1) := by omega
        have f12 : ¬ (9223372036854775807 < min (at_ * 64 + 63) s.size + 1 + (s.extract (at_ * 64 + 64) s.size).size) := by omega
        have f13 : ¬ (9223372036854775807 < min (at_ * 64 + 63) s.size + 1 + (s.extract ((at_ : Int) * 64 + 64).toNat s.size).size) := by omega
        have f14 : ¬ (9223372036854775807 < min (at_ * 64 + 63) s.size + 1 + (s.size - (at_ * 64 + 64))) := by omega
        have f15 : ¬ (9223372036854775807 < min (at_ * 64 + 63) s.size + 1 + (s.size - ((at_ : Int) * 64 + 64).toNat)) := by omega
        have f16 : ¬ (9223372036854775807 < min ((at_ : Int) * 64 + 63).toNat s.size + 1) := by omega
        have f17 : ¬ (9223372036854775807 < min ((at_ : Int) * 64 + 63).toNat s.size + 1 + (s.extract (at_ * 64 + 64) s.size).size) := by omega
        have f18 : ¬ (9223372036854775807 < min ((at_ : Int) * 64 + 63).toNat s.size + 1 + (s.extract ((at_ : Int) * 64 + 64).toNat s.size).size) := by omega
        have f19 : ¬ (9223372036854775807 < min ((at_ : Int) * 64 + 63).toNat s.size + 1 + (s.size - (at_ * 64 + 64))) := by omega
        have f20 : ¬ (9223372036854775807 < min ((at_ : Int) * 64 + 63).toNat s.size + 1 + (s.size - ((at_ : Int) * 64 + 64).toNat)) := by omega
        have f21 : ¬ (9223372036854775807 < (at_ * 64 + 63) + 1) := by omega
        have f22 : ¬ (9223372036854775807 < (at_ * 64 + 63) + 1 + (s.extract (at_ * 64 + 64) s.size).size) := by omega
        have f23 : ¬ (9223372036854775807 < (at_ * 64 + 63) + 1 + (s.extract ((at_ : Int) * 64 + 64).toNat s.size).size) := by omega
        have f24 : ¬ (9223372036854775807 < (at_ * 64 + 63) + 1 + (s.size - (at_ * 64 + 64))) := by omega
        have f25 : ¬ (9223372036854775807 < (at_ * 64 + 63) + 1 + (s.size - ((at_ : Int) * 64 + 64).toNat)) := by omega
        clear e1 e2 e3 e4
        go_wp2_with fail
        refine (HX.out _ (h.below hbel)).mono ?_
        rintro e w2 ⟨rfl, hb2⟩
        have hB2 := hbel.trans (hb2.mono hbel.size)
        go_wp2_with fail
        refine (HA'.out _ _ (by omega) (h.below hB2)).mono ?_
        rintro e w3 ⟨rfl, hb3⟩
        have hB3 := hB2.trans (hb3.mono hB2.size)
        clear hb2 hb3 hbel hB2
        go_wp2_with fail
        go_region
        go_wp2_with fail
        go_ret2
        refine ⟨?_, hB3.drew⟩
        rw [er.out, HQ5.out]
        rfl
      have hr2 : Hid (r = if x = 8 then s.extract 0 (at_ * 64) else s) := hr.out.trans ((if_neg c6).trans (if_neg c7))
      clear hr
      by_cases c8 : x = 8
      · have er : Hid (r = s.extract 0 (at_ * 64)) := hr2.out.trans (if_pos c8)
        clear hr2
        subst c8
        obtain ⟨A, hA⟩ : ∃ A, at_ * 64 = A := ⟨_, rfl⟩
        have y1 : IntKind.i64.wrap ((at_ : Int) * 64) = (A : Int) := by rw [wrap_i64_in _ (by omega) (by omega)]; omega
        have y4 : (at_ : Int) * 64 = (A : Int) := by omega
        have v1 : (A : Int) ≤ (s.size : Int) := by omega
        have v3 : (0 : Int) ≤ (A : Int) := by omega
        have HAB : Hid (at_ * 64 = A) := hA
        clear hA
        go_wp2_with fail
        refine (HX.out _ (h.below hbel)).mono ?_
        rintro e w2 ⟨rfl, hb2⟩
        have hB2 := hbel.trans (hb2.mono hbel.size)
        go_wp2_with fail
        refine (HA'.out _ _ (by omega) (h.below hB2)).mono ?_
        rintro e w3 ⟨rfl, hb3⟩
        have hB3 := hB2.trans (hb3.mono hB2.size)
        clear hb2 hb3 hbel hB2
        go_wp2_with fail
        go_ret2
        refine ⟨?_, hB3⟩
        rw [er.out, HQ5.out, HAB.out]
        rfl
      have z8 : ((x : Int) == 8) = false := by rw [beq_eq_false_iff_ne]; omega
      have er : Hid (r = s) := hr2.out.trans (if_neg c8)
      clear hr2
      by_cases c9 : x = 7
      · subst c9
        have z7 : decide ((at_ : Int) * 64 + 64 ≤ (s.size : Int)) = false := by simp; omega
        have y1 : IntKind.i64.wrap ((at_ : Int) * 64) = (at_ : Int) * 64 := wrap_i64_in _ (by omega) (by omega)
        have y3 : IntKind.i64.wrap ((at_ : Int) * 64 + 64) = (at_ : Int) * 64 + 64 := wrap_i64_in _ (by omega) (by omega)
        go_wp2_with fail
        refine (HX.out _ (h.below hbel)).mono ?_
        rintro e w2 ⟨rfl, hb2⟩
        have hB2 := hbel.trans (hb2.mono hbel.size)
        go_wp2_with fail
        refine (HA'.out _ _ (by omega) (h.below hB2)).mono ?_
        rintro e w3 ⟨rfl, hb3⟩
        have hB3 := hB2.trans (hb3.mono hB2.size)
        clear hb2 hb3 hbel hB2
        go_wp2_with fail
        go_ret2
        refine ⟨?_, hB3⟩
        rw [er.out, HQ5.out]
        rfl
      have z7 : ((x : Int) == 7) = false := by rw [beq_eq_false_iff_ne]; omega
      go_wp2_with fail
      refine (HX.out _ (h.below hbel)).mono ?_
      rintro e w2 ⟨rfl, hb2⟩
      have hB2 := hbel.trans (hb2.mono hbel.size)
      go_wp2_with fail
      refine (HA'.out _ _ (by omega) (h.below hB2)).mono ?_
      rintro e w3 ⟨rfl, hb3⟩
      have hB3 := hB2.trans (hb3.mono hB2.size)
      clear hb2 hb3 hbel hB2
      go_wp2_with fail
      go_ret2
      refine ⟨?_, hB3⟩
      rw [er.out, HQ5.out]
      rfl
end Go.Proofs.Ythopecgcpfhcead
