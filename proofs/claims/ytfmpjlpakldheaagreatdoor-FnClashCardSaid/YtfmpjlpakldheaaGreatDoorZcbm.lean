import Derived.Test.YtfmpjlpakldheaaGreatDoorZcbl
namespace Go.Proofs.YtfmpjlpakldheaaGreatDoor
open Go.RowKit Go.Proofs.Sha

set_option maxRecDepth 100000 in
set_option maxHeartbeats 1000000 in
theorem same_any (a b : Option Addr) (ps qs : List PairT) (c d : Nat) (w : World) (h : PArg a ps w) (h' : PArg b qs w) :
    Calls Tryz.prog 48 #[.slice a ps.length c, .slice b qs.length d] w fun e w' => e = .returned (.bool (decide (ps = qs))) ∧ Below w.heap.size w w' := by
  have hn := h.le
  have hm := h'.le
  obtain ⟨R, hR⟩ : ∃ R, decide (ps = qs) = R := ⟨_, rfl⟩
  rw [hR]
  have HR : Hid (decide (ps = qs) = R) := hR
  clear hR
  obtain ⟨N, hN⟩ : ∃ N, ps.length = N := ⟨_, rfl⟩
  obtain ⟨M, hM⟩ : ∃ M, qs.length = M := ⟨_, rfl⟩
  rw [hN] at hn ⊢
  rw [hM] at hm ⊢
  by_cases hNM : N = M
  · subst hNM
    have hNl : Hid (ps.length = N) := hN
    have hMl : Hid (qs.length = N) := hM
    clear hN hM
    go_enter Tryz.func48, Tryz.ntmps48
    go_wp2_with fail
    go_loopw [5] (fun t wr => ∃ k : Nat, k ≤ N ∧ t = .int .i64 (k : Int) ∧ Hid (ps.take k = qs.take k) ∧ Below w.heap.size w wr) (fun t _ => N - (intOf t).toNat)
    case atStart => exact ⟨0, Nat.zero_le _, rfl, rfl, Below.refl _ _⟩
    case round =>
      obtain ⟨k, hk, rfl, hsame, hbw⟩ := hrel
      by_cases hlt : k < N
      · have z1 : decide ((k : Int) < (N : Int)) = true := by simp; omega
        have hx0 : (0 : Int) ≤ (k : Int) := Int.natCast_nonneg _
        have hx1 : (k : Int) < (N : Int) := by omega
        obtain ⟨b1, off1, rfl, hbl1, hc⟩ := (h.below hbw).at_ (by rw [hNl.out]; omega)
        obtain ⟨b2, off2, rfl, hbl2, hd⟩ := (h'.below hbw).at_ (by rw [hMl.out]; omega)
        obtain ⟨hc1, hc2⟩ := hc k (by rw [hNl.out]; exact hlt)
        obtain ⟨hd1, hd2⟩ := hd k (by rw [hMl.out]; exact hlt)
        have hkl : k < ps.length := by rw [hNl.out]; exact hlt
        have hkm : k < qs.length := by rw [hMl.out]; exact hlt
        have g1 := getD_lt ps k hkl
        have g2 := getD_lt qs k hkm
        have hstep : ps.getD k noPair = qs.getD k noPair → ps.take (k + 1) = qs.take (k + 1) := fun e => by
          rw [List.take_succ_eq_append_getElem hkl, List.take_succ_eq_append_getElem hkm, hsame.out, ← g1, ← g2, e]
        have hneq : ps.getD k noPair ≠ qs.getD k noPair → R = false := fun e => by
          rw [← HR.out]
          exact decide_eq_false fun q => e (by rw [q])
        clear g1 g2 hkl hkm hc hd
        obtain ⟨x, hx⟩ : ∃ x, ps.getD k noPair = x := ⟨_, rfl⟩
        obtain ⟨y, hy⟩ : ∃ y, qs.getD k noPair = y := ⟨_, rfl⟩
        rw [hx] at hc1 hc2
        rw [hy] at hd1 hd2
        rw [hx, hy] at hstep hneq
        clear hx hy
        obtain ⟨xk, xv⟩ := x
        obtain ⟨yk, yv⟩ := y
        dsimp only at hc1 hc2 hd1 hd2
        replace hstep : Hid _ := hstep
        replace hneq : Hid _ := hneq
        cases v1 : (xk.toList == yk.toList) with
        | false =>
          have hRf : Hid (R = false) := hneq.out (fun e => by
            have : xk = yk := congrArg Prod.fst e
            subst this
            rw [beq_self_eq_true] at v1
            cases v1)
          clear hstep hneq HR hsame
          go_wp2_with fail
          go_quiet (fail)
          go_wp2_with fail
          go_ret
          exact ⟨by rw [hRf.out]; rfl, below_draws nq hbw⟩
        | true =>
          cases v2 : (xv.toList == yv.toList) with
          | false =>
            have hRf : Hid (R = false) := hneq.out (fun e => by
              have : xv = yv := congrArg Prod.snd e
              subst this
              rw [beq_self_eq_true] at v2
              cases v2)
            clear hstep hneq HR hsame
            go_wp2_with fail
            go_quiet (fail)
            go_wp2_with fail
            go_ret
            exact ⟨by rw [hRf.out]; rfl, below_draws nq hbw⟩
          | true =>
            have e1 : xk = yk := ByteArray.ext (Array.toList_inj.1 (by rw [beq_iff_eq, ByteArray.toList_eq, ByteArray.toList_eq] at v1; exact v1))
            have e2 : xv = yv := ByteArray.ext (Array.toList_inj.1 (by rw [beq_iff_eq, ByteArray.toList_eq, ByteArray.toList_eq] at v2; exact v2))
            have hs' : Hid (ps.take (k + 1) = qs.take (k + 1)) := hstep.out (by rw [e1, e2])
            clear hstep hneq HR hsame e1 e2
            go_wp2_with fail
            go_quiet (fail)
            go_wp2_with fail
            go_roundw
            case rel => exact ⟨k + 1, hlt, by go_num, hs', below_draws nq hbw⟩
            case measure => simp [intOf]; omega
      · obtain rfl : k = N := by omega
        have z1 : decide ((k : Int) < (k : Int)) = false := by simp
        have hRt : Hid (R = true) := by
          show R = true
          rw [← HR.out, decide_eq_true_eq]
          have e := hsame.out
          rw [List.take_of_length_le (by rw [hNl.out]; exact Nat.le_refl _), List.take_of_length_le (by rw [hMl.out]; exact Nat.le_refl _)] at e
          exact e
        clear hsame HR
        go_wp2_with fail
        go_ret
        exact ⟨by rw [hRt.out]; rfl, hbw⟩
  · have z0 : ((N : Int) != (M : Int)) = true := by rw [bne_iff_ne]; omega
    have hRf : Hid (R = false) := by
      show R = false
      rw [← HR.out]
      exact decide_eq_false fun e => hNM (by rw [← hN, ← hM, e])
    clear HR hN hM
    go_enter Tryz.func48, Tryz.ntmps48
    go_wp2_with fail
    go_ret
    exact ⟨by rw [hRf.out]; rfl, Below.refl _ _⟩

set_option maxRecDepth 100000 in
set_option maxHeartbeats 4000000 in
theorem clashSpec_step (a b : Option Addr) (ps qs : List PairT) (c d : Nat) (n : Int) (w : World) (h : PArg a ps w) (h' : PArg b qs w) (hc : ps.length ≤ c) (hd : qs.length ≤ d)
    (ih : ∀ (a b : Option Addr) (ps' qs' : List PairT) (c d : Nat) (w : World), ps'.length < ps.length → PArg a ps' w → PArg b qs' w → ps'.length ≤ c → qs'.length ≤ d →
      Calls Tryz.prog 10 #[.slice a ps'.length c, .slice b qs'.length d, .int .i64 n] w fun e w' => e = .returned (clashV (clashR ps' qs' n)) ∧ Below w.heap.size w w') :
    Calls Tryz.prog 10 #[.slice a ps.length c, .slice b qs.length d, .int .i64 n] w fun e w' => e = .returned (clashV (clashR ps qs n)) ∧ Below w.heap.size w w' := by
  have HM := mapOk_any a ps c w h
  have HN : Hid (∀ w', Below w.heap.size w w' → Calls Tryz.prog 45 #[.slice b qs.length d] w' fun e w'' => e = .returned (.bool (isMapT qs)) ∧ Below w'.heap.size w' w'') := fun w' hb => mapOk_any b qs d w' (h'.below hb)
  have HI := fun w' => isW_spec n w'
  have HSm : Hid (∀ w', Below w.heap.size w w' → Calls Tryz.prog 48 #[.slice a ps.length c, .slice b qs.length d] w' fun e w'' => e = .returned (.bool (decide (ps = qs))) ∧ Below w'.heap.size w' w'') := fun w' hb => same_any a b ps qs c d w' (h.below hb) (h'.below hb)
  have HR1 : Hid (∀ w', Below w.heap.size w w' → Calls Tryz.prog 11 #[.slice a ps.length c, .int .i64 n] w' fun e w'' => e = .returned (.string (rootS ps n)) ∧ Below w'.heap.size w' w'') := fun w' hb => rootSpec_any a ps c n w' (h.below hb) hc
  have HR2 : Hid (∀ w', Below w.heap.size w w' → Calls Tryz.prog 11 #[.slice b qs.length d, .int .i64 n] w' fun e w'' => e = .returned (.string (rootS qs n)) ∧ Below w'.heap.size w' w'') := fun w' hb => rootSpec_any b qs d n w' (h'.below hb) hd
  obtain ⟨R, hR⟩ : ∃ R, clashR ps qs n = R := ⟨_, rfl⟩
  rw [hR]
  have hz : R = none → clashV R = .tuple #[.string ⟨#[]⟩, .string ⟨#[]⟩, .bool false] := fun e => by rw [e]; rfl
  cases hm : isMapT ps with
  | false =>
    have HR : Hid (clashV R = .tuple #[.string ⟨#[]⟩, .string ⟨#[]⟩, .bool false]) := hz (by rw [← hR]; exact clashR_none ps qs n (.inl (by rw [hm]; rfl)))
    rw [hm] at HM
    clear hR hm h h' hz HN HSm HR1 HR2 ih hc hd
    generalize ps.length = n1 at HM ⊢
    generalize qs.length = n2
    go_enter Tryz.func10, Tryz.ntmps10
    go_wp2_with (go_at_call 45; refine HM.mono ?_; rintro e w1 ⟨rfl, hb1⟩)
    exact bodyPost_ret (v := .tuple #[.string ⟨#[]⟩, .string ⟨#[]⟩, .bool false]) (by simp [results, Tryz.results10, go_sem]) rfl ⟨by rw [HR.out], hb1⟩
  | true =>
    rw [hm] at HM
    cases hm2 : isMapT qs with
    | false =>
      have HR : Hid (clashV R = .tuple #[.string ⟨#[]⟩, .string ⟨#[]⟩, .bool false]) := hz (by rw [← hR]; exact clashR_none ps qs n (.inl (by rw [hm, hm2]; rfl)))
      rw [hm2] at HN
      clear hR hm h h' hz hm2 HSm HR1 HR2 ih hc hd
      generalize ps.length = n1 at HM ⊢
      generalize qs.length = n2 at HN ⊢
      go_enter Tryz.func10, Tryz.ntmps10
      go_wp2_with (go_at_call 45; refine HM.mono ?_)
      rintro _ w1 ⟨rfl, hb1⟩
      go_wp2_with (go_at_call 45; refine (HN.out _ hb1).mono ?_)
      rintro _ w2 ⟨rfl, hb2⟩
      go_wp2_with fail
      exact bodyPost_ret (v := .tuple #[.string ⟨#[]⟩, .string ⟨#[]⟩, .bool false]) (by simp [results, Tryz.results10, go_sem]) rfl ⟨by rw [HR.out], hb1.trans (hb2.mono hb1.size)⟩
    | true =>
      rw [hm2] at HN
      cases hw : isW n with
      | false =>
        have HR : Hid (clashV R = .tuple #[.string ⟨#[]⟩, .string ⟨#[]⟩, .bool false]) := hz (by rw [← hR]; exact clashR_none ps qs n (.inl (by rw [hm, hm2, hw]; rfl)))
        rw [hw] at HI
        clear hR hm h h' hz hm2 hw HSm HR1 HR2 ih hc hd
        generalize ps.length = n1 at HM ⊢
        generalize qs.length = n2 at HN ⊢
        go_enter Tryz.func10, Tryz.ntmps10
        go_wp2_with (go_at_call 45; refine HM.mono ?_)
        rintro _ w1 ⟨rfl, hb1⟩
        go_wp2_with (go_at_call 45; refine (HN.out _ hb1).mono ?_)
        rintro _ w2 ⟨rfl, hb2⟩
        go_wp2_with (go_at_call 47; refine (HI _).mono ?_)
        rintro _ w3 ⟨rfl, rfl⟩
        go_wp2_with fail
        exact bodyPost_ret (v := .tuple #[.string ⟨#[]⟩, .string ⟨#[]⟩, .bool false]) (by simp [results, Tryz.results10, go_sem]) rfl ⟨by rw [HR.out], hb1.trans (hb2.mono hb1.size)⟩
      | true =>
        rw [hw] at HI
        by_cases hpq : ps = qs
        · have HR : Hid (clashV R = .tuple #[.string ⟨#[]⟩, .string ⟨#[]⟩, .bool false]) := hz (by rw [← hR]; exact clashR_none ps qs n (.inr (.inl hpq)))
          rw [decide_eq_true hpq] at HSm
          clear hR hm h h' hz hm2 hw HR1 HR2 ih hc hd hpq
          generalize ps.length = n1 at HM HSm ⊢
          generalize qs.length = n2 at HN HSm ⊢
          go_enter Tryz.func10, Tryz.ntmps10
          go_wp2_with (go_at_call 45; refine HM.mono ?_)
          rintro _ w1 ⟨rfl, hb1⟩
          go_wp2_with (go_at_call 45; refine (HN.out _ hb1).mono ?_)
          rintro _ w2 ⟨rfl, hb2'⟩
          have hb2 : Below w.heap.size w w2 := hb1.trans (hb2'.mono hb1.size)
          go_wp2_with (go_at_call 47; refine (HI _).mono ?_)
          rintro _ w3 ⟨rfl, rfl⟩
          go_wp2_with (go_at_call 48; refine (HSm.out _ hb2).mono ?_)
          rintro _ w4 ⟨rfl, hb4'⟩
          go_wp2_with fail
          exact bodyPost_ret (v := .tuple #[.string ⟨#[]⟩, .string ⟨#[]⟩, .bool false]) (by simp [results, Tryz.results10, go_sem]) rfl ⟨by rw [HR.out], hb2.trans (hb4'.mono hb2.size)⟩
        · rw [decide_eq_false hpq] at HSm
          obtain ⟨m, rfl, q1, q2⟩ := isW_out hw
          have er1 : rootS ps (m : Int) = rootT m (cutTree ps) := by unfold rootS; rw [hm, hw]; rfl
          have er2 : rootS qs (m : Int) = rootT m (cutTree qs) := by unfold rootS; rw [hm2, hw]; rfl
          rw [er1] at HR1
          rw [er2] at HR2
          by_cases hr : rootT m (cutTree ps) = rootT m (cutTree qs)
          · obtain ⟨n1, n2, hstep⟩ := clashR_step m q1 q2 ps qs hm hm2 hpq hr
            rw [hR] at hstep
            obtain ⟨b1, off1, rfl, hbl1, _⟩ := h.at_ n1
            obtain ⟨b2, off2, rfl, hbl2, _⟩ := h'.at_ n2
            have ok1 := isMapT_ok ps hm
            have ok2 := isMapT_ok qs hm2
            have HE1 : Hid (∀ w', Below w.heap.size w w' → Calls Tryz.prog 49 #[.slice (some ⟨b1, off1, none⟩) ps.length c, .int .i64 (m : Int)] w' fun e w'' => e = .returned (.string (encT m (cutTree ps))) ∧ Below w'.heap.size w' w'') := fun w' hb => lenc_any m q1 q2 _ ps c w' (h.below hb) hc n1 ok1
            have HE2 : Hid (∀ w', Below w.heap.size w w' → Calls Tryz.prog 49 #[.slice (some ⟨b2, off2, none⟩) qs.length d, .int .i64 (m : Int)] w' fun e w'' => e = .returned (.string (encT m (cutTree qs))) ∧ Below w'.heap.size w' w'') := fun w' hb => lenc_any m q1 q2 _ qs d w' (h'.below hb) hd n2 ok2
            have hsz : ∀ t : Tr PairT, (encT m t).size ≤ 1048576 := fun t => by
              cases t with
              | nil => exact Nat.zero_le _
              | node u z v =>
                have := (encS_size z.1 z.2 (rootT m u) (rootT m v) m).1
                show (encS z.1 z.2 (rootT m u) (rootT m v) m).size ≤ 1048576
                omega
            have s1 := hsz (cutTree ps)
            have s2 := hsz (cutTree qs)
            rw [hr] at HR1
            generalize rootT m (cutTree qs) = G at HR1 HR2
            generalize encT m (cutTree ps) = E1 at HE1 hstep s1
            generalize encT m (cutTree qs) = E2 at HE2 hstep s2
            clear hsz hr er1 er2 hR
            by_cases hE : E1 = E2
            · subst hE
              rw [if_neg (fun q => q rfl)] at hstep
              have HT1 : Hid (∀ w', Below w.heap.size w w' → Calls Tryz.prog 51 #[.slice (some ⟨b1, off1, none⟩) ps.length c] w' fun e w'' => e = .returned (.int .i64 (topTo ps (ps.length - 1) : Int)) ∧ Below w'.heap.size w' w'') := fun w' hb => top_any _ ps c w' (h.below hb) n1
              have HT2 : Hid (∀ w', Below w.heap.size w w' → Calls Tryz.prog 51 #[.slice (some ⟨b2, off2, none⟩) qs.length d] w' fun e w'' => e = .returned (.int .i64 (topTo qs (qs.length - 1) : Int)) ∧ Below w'.heap.size w' w'') := fun w' hb => top_any _ qs d w' (h'.below hb) n2
              have ht1 := topTo_le ps (ps.length - 1)
              have ht2 := topTo_le qs (qs.length - 1)
              generalize topTo ps (ps.length - 1) = x at HT1 hstep ht1
              generalize topTo qs (qs.length - 1) = y at HT2 hstep ht2
              have l1 : (ps.take x).length = x := by rw [List.length_take]; omega
              have l2 : (qs.take y).length = y := by rw [List.length_take]; omega
              have HSt : Hid (∀ w', Below w.heap.size w w' → Calls Tryz.prog 48 #[.slice (some ⟨b1, off1, none⟩) x c, .slice (some ⟨b2, off2, none⟩) y d] w' fun e w'' => e = .returned (.bool (decide (ps.take x = qs.take y))) ∧ Below w'.heap.size w' w'') := fun w' hb => by
                have := same_any _ _ (ps.take x) (qs.take y) c d w' ((h.below hb).take x) ((h'.below hb).take y)
                rw [l1, l2] at this
                exact this
              have z1 : (0 : Int) ≤ (x : Int) := Int.natCast_nonneg _
              have z2 : (0 : Int) ≤ (y : Int) := Int.natCast_nonneg _
              have z3 : (x : Int) ≤ (c : Int) := by omega
              have z4 : (y : Int) ≤ (d : Int) := by omega
              have hn1 := h.le
              have hn2 := h'.le
              by_cases hl : ps.take x = qs.take y
              · rw [if_neg (fun q => q hl)] at hstep
                rw [decide_eq_true hl] at HSt
                obtain ⟨A1, hA1⟩ : ∃ A : Option Addr, (if c = x + 1 then some ⟨b1, off1, none⟩ else some ⟨b1, off1 + (x + 1) * 2, none⟩) = A := ⟨_, rfl⟩
                obtain ⟨A2, hA2⟩ : ∃ A : Option Addr, (if d = y + 1 then some ⟨b2, off2, none⟩ else some ⟨b2, off2 + (y + 1) * 2, none⟩) = A := ⟨_, rfl⟩
                have hP1 : ∀ w', Below w.heap.size w w' → PArg A1 (ps.drop (x + 1)) w' := fun w' hb => by
                  rw [← hA1]
                  by_cases e : c = x + 1
                  · rw [if_pos e, List.drop_of_length_le (by omega)]; exact PArg.empty _ _
                  · rw [if_neg e]; exact (h.below hb).drop (x + 1)
                have hP2 : ∀ w', Below w.heap.size w w' → PArg A2 (qs.drop (y + 1)) w' := fun w' hb => by
                  rw [← hA2]
                  by_cases e : d = y + 1
                  · rw [if_pos e, List.drop_of_length_le (by omega)]; exact PArg.empty _ _
                  · rw [if_neg e]; exact (h'.below hb).drop (y + 1)
                have HC : Hid (∀ w', Below w.heap.size w w' → Calls Tryz.prog 10 #[.slice A1 (ps.length - (x + 1)) (c - (x + 1)), .slice A2 (qs.length - (y + 1)) (d - (y + 1)), .int .i64 (m : Int)] w' fun e w'' => e = .returned (clashV R) ∧ Below w'.heap.size w' w'') := fun w' hb => by
                  have := ih A1 A2 (ps.drop (x + 1)) (qs.drop (y + 1)) (c - (x + 1)) (d - (y + 1)) w' (by rw [List.length_drop]; omega) (hP1 w' hb) (hP2 w' hb) (by rw [List.length_drop]; omega) (by rw [List.length_drop]; omega)
                  rw [← hstep, List.length_drop, List.length_drop] at this
                  exact this
                unfold clashV at HC
                clear hP1 hP2 hstep l1 l2 ih h h' hz hm hm2 hw hpq ok1 ok2 hl
                generalize ps.length = n1' at *
                generalize qs.length = n2' at *
                obtain ⟨k1, hk1⟩ : ∃ k, n1' - (x + 1) = k := ⟨_, rfl⟩
                obtain ⟨k2, hk2⟩ : ∃ k, n2' - (y + 1) = k := ⟨_, rfl⟩
                rw [hk1, hk2] at HC
                have i1 : IntKind.i64.wrap ((x : Int) + 1) = (x : Int) + 1 := by rw [IntKind.wrap_i64]; omega
                have i2 : IntKind.i64.wrap ((y : Int) + 1) = (y : Int) + 1 := by rw [IntKind.wrap_i64]; omega
                have i3 : (0 : Int) ≤ (x : Int) + 1 := by omega
                have i4 : (0 : Int) ≤ (y : Int) + 1 := by omega
                have i5 : (x : Int) + 1 ≤ (n1' : Int) := by omega
                have i6 : (y : Int) + 1 ≤ (n2' : Int) := by omega
                have i7 : (n1' : Int) ≤ (c : Int) := by omega
                have i8 : (n2' : Int) ≤ (d : Int) := by omega
                go_enter Tryz.func10, Tryz.ntmps10
                go_wp2_with (go_at_call 45; refine HM.mono ?_)
                rintro _ w1 ⟨rfl, hb1⟩
                go_wp2_with (go_at_call 45; refine (HN.out _ hb1).mono ?_)
                rintro _ w2 ⟨rfl, hb2'⟩
                have hb2 : Below w.heap.size w w2 := hb1.trans (hb2'.mono hb1.size)
                go_wp2_with (go_at_call 47; refine (HI _).mono ?_)
                rintro _ w3 ⟨rfl, rfl⟩
                go_wp2_with (go_at_call 48; refine (HSm.out _ hb2).mono ?_)
                rintro _ w4 ⟨rfl, hb4'⟩
                have hb4 : Below w.heap.size w w4 := hb2.trans (hb4'.mono hb2.size)
                go_wp2_with (go_at_call 11; refine (HR1.out _ hb4).mono ?_)
                rintro _ w5 ⟨rfl, hb5'⟩
                have hb5 : Below w.heap.size w w5 := hb4.trans (hb5'.mono hb4.size)
                go_wp2_with (go_at_call 11; refine (HR2.out _ hb5).mono ?_)
                rintro _ w6 ⟨rfl, hb6'⟩
                have hb6 : Below w.heap.size w w6 := hb5.trans (hb6'.mono hb5.size)
                clear hb1 hb2 hb2' hb4 hb4' hb5 hb5' hb6'
                go_wp2_with (go_at_call 49; refine (HE1.out _ hb6).mono ?_)
                rintro _ w7 ⟨rfl, hb7'⟩
                have hb7 : Below w.heap.size w w7 := hb6.trans (hb7'.mono hb6.size)
                go_wp2_with (go_at_call 49; refine (HE2.out _ hb7).mono ?_)
                rintro _ w8 ⟨rfl, hb8'⟩
                have hb8 : Below w.heap.size w w8 := hb7.trans (hb8'.mono hb7.size)
                clear hb6 hb7' hb7 hb8'
                go_wp2_with (go_at_call 51; refine (HT1.out _ hb8).mono ?_)
                rintro _ w9 ⟨rfl, hb9'⟩
                have hb9 : Below w.heap.size w w9 := hb8.trans (hb9'.mono hb8.size)
                go_upto_region 9 with (go_at_call 51; refine (HT2.out _ hb9).mono ?_; rintro e wa ⟨rfl, hba'⟩)
                have hba : Below w.heap.size w wa := hb9.trans (hba'.mono hb9.size)
                clear hb8 hb9' hb9 hba'
                go_region_held3 (fun _ => True) (trivial) (first | (go_at_call 48; refine (HSt.out _ hba.drew).mono ?_; rintro e wb ⟨rfl, hbb'⟩; have hbb : Below w.heap.size w wb := hba.drew.trans (hbb'.mono hba.size)))

                go_upto_region 11 with fail
                go_region_held3 (fun _ => True) (trivial) (first | (go_at_call 10; refine (HC.out _ hbb.drew).mono ?_; rintro e wc ⟨rfl, hbc'⟩))
                go_wp2_with fail
                exact bodyPost_ret (v := clashV R) (by simp [results, Tryz.results10, go_sem, clashV]) rfl ⟨rfl, hbb.drew.trans (hbc'.mono hbb.size)⟩
              · rw [if_pos hl] at hstep
                rw [decide_eq_false hl] at HSt
                have HC : Hid (∀ w', Below w.heap.size w w' → Calls Tryz.prog 10 #[.slice (some ⟨b1, off1, none⟩) x c, .slice (some ⟨b2, off2, none⟩) y d, .int .i64 (m : Int)] w' fun e w'' => e = .returned (clashV R) ∧ Below w'.heap.size w' w'') := fun w' hb => by
                  have := ih _ _ (ps.take x) (qs.take y) c d w' (by omega) ((h.below hb).take x) ((h'.below hb).take y) (by omega) (by omega)
                  rw [← hstep, l1, l2] at this
                  exact this
                unfold clashV at HC
                clear hstep l1 l2 ih h h' hz hm hm2 hw hpq ok1 ok2 hl
                generalize ps.length = n1' at *
                generalize qs.length = n2' at *
                go_enter Tryz.func10, Tryz.ntmps10
                go_wp2_with (go_at_call 45; refine HM.mono ?_)
                rintro _ w1 ⟨rfl, hb1⟩
                go_wp2_with (go_at_call 45; refine (HN.out _ hb1).mono ?_)
                rintro _ w2 ⟨rfl, hb2'⟩
                have hb2 : Below w.heap.size w w2 := hb1.trans (hb2'.mono hb1.size)
                go_wp2_with (go_at_call 47; refine (HI _).mono ?_)
                rintro _ w3 ⟨rfl, rfl⟩
                go_wp2_with (go_at_call 48; refine (HSm.out _ hb2).mono ?_)
                rintro _ w4 ⟨rfl, hb4'⟩
                have hb4 : Below w.heap.size w w4 := hb2.trans (hb4'.mono hb2.size)
                go_wp2_with (go_at_call 11; refine (HR1.out _ hb4).mono ?_)
                rintro _ w5 ⟨rfl, hb5'⟩
                have hb5 : Below w.heap.size w w5 := hb4.trans (hb5'.mono hb4.size)
                go_wp2_with (go_at_call 11; refine (HR2.out _ hb5).mono ?_)
                rintro _ w6 ⟨rfl, hb6'⟩
                have hb6 : Below w.heap.size w w6 := hb5.trans (hb6'.mono hb5.size)
                clear hb1 hb2 hb2' hb4 hb4' hb5 hb5' hb6'
                go_wp2_with (go_at_call 49; refine (HE1.out _ hb6).mono ?_)
                rintro _ w7 ⟨rfl, hb7'⟩
                have hb7 : Below w.heap.size w w7 := hb6.trans (hb7'.mono hb6.size)
                go_wp2_with (go_at_call 49; refine (HE2.out _ hb7).mono ?_)
                rintro _ w8 ⟨rfl, hb8'⟩
                have hb8 : Below w.heap.size w w8 := hb7.trans (hb8'.mono hb7.size)
                clear hb6 hb7' hb7 hb8'
                go_wp2_with (go_at_call 51; refine (HT1.out _ hb8).mono ?_)
                rintro _ w9 ⟨rfl, hb9'⟩
                have hb9 : Below w.heap.size w w9 := hb8.trans (hb9'.mono hb8.size)
                go_upto_region 9 with (go_at_call 51; refine (HT2.out _ hb9).mono ?_; rintro e wa ⟨rfl, hba'⟩)
                have hba : Below w.heap.size w wa := hb9.trans (hba'.mono hb9.size)
                clear hb8 hb9' hb9 hba'
                go_region_held3 (fun _ => True) (trivial) (first | (go_at_call 48; refine (HSt.out _ hba.drew).mono ?_; rintro e wb ⟨rfl, hbb'⟩; have hbb : Below w.heap.size w wb := hba.drew.trans (hbb'.mono hba.size)))

                go_upto_region 10 with fail
                go_region_held3 (fun _ => True) (trivial) (first | (go_at_call 10; refine (HC.out _ hbb.drew).mono ?_; rintro e wc ⟨rfl, hbc'⟩))
                go_wp2_with fail
                exact bodyPost_ret (v := clashV R) (by simp [results, Tryz.results10, go_sem, clashV]) rfl ⟨rfl, hbb.drew.trans (hbc'.mono hbb.size)⟩
            · rw [if_pos hE] at hstep
              have v : (E1.toList == E2.toList) = false := str_ne hE
              have HX1 : Hid (∀ w', Calls Tryz.prog 50 #[.string E1] w' fun e w'' => e = .returned (.string (txt E1)) ∧ w'' = w') := fun w' => ltxt2_any E1 w' s1
              have HX2 : Hid (∀ w', Calls Tryz.prog 50 #[.string E2] w' fun e w'' => e = .returned (.string (txt E2)) ∧ w'' = w') := fun w' => ltxt2_any E2 w' s2
              have HR : Hid (clashV R = .tuple #[.string (txt E1), .string (txt E2), .bool true]) := by show _ = _; rw [hstep]; rfl
              clear hstep ih h h' hz hm hm2 hw hpq ok1 ok2 hE
              generalize ps.length = n1' at *
              generalize qs.length = n2' at *
              go_enter Tryz.func10, Tryz.ntmps10
              go_wp2_with (go_at_call 45; refine HM.mono ?_)
              rintro _ w1 ⟨rfl, hb1⟩
              go_wp2_with (go_at_call 45; refine (HN.out _ hb1).mono ?_)
              rintro _ w2 ⟨rfl, hb2'⟩
              have hb2 : Below w.heap.size w w2 := hb1.trans (hb2'.mono hb1.size)
              go_wp2_with (go_at_call 47; refine (HI _).mono ?_)
              rintro _ w3 ⟨rfl, rfl⟩
              go_wp2_with (go_at_call 48; refine (HSm.out _ hb2).mono ?_)
              rintro _ w4 ⟨rfl, hb4'⟩
              have hb4 : Below w.heap.size w w4 := hb2.trans (hb4'.mono hb2.size)
              go_wp2_with (go_at_call 11; refine (HR1.out _ hb4).mono ?_)
              rintro _ w5 ⟨rfl, hb5'⟩
              have hb5 : Below w.heap.size w w5 := hb4.trans (hb5'.mono hb4.size)
              go_wp2_with (go_at_call 11; refine (HR2.out _ hb5).mono ?_)
              rintro _ w6 ⟨rfl, hb6'⟩
              have hb6 : Below w.heap.size w w6 := hb5.trans (hb6'.mono hb5.size)
              clear hb1 hb2 hb2' hb4 hb4' hb5 hb5' hb6'
              go_wp2_with (go_at_call 49; refine (HE1.out _ hb6).mono ?_)
              rintro _ w7 ⟨rfl, hb7'⟩
              have hb7 : Below w.heap.size w w7 := hb6.trans (hb7'.mono hb6.size)
              go_wp2_with (go_at_call 49; refine (HE2.out _ hb7).mono ?_)
              rintro _ w8 ⟨rfl, hb8'⟩
              have hb8 : Below w.heap.size w w8 := hb7.trans (hb8'.mono hb7.size)
              clear hb6 hb7' hb7 hb8'

              go_wp2_with (go_at_call 50; refine (HX1.out _).mono ?_)
              rintro _ w9 ⟨rfl, rfl⟩
              go_wp2_with (go_at_call 50; refine (HX2.out _).mono ?_)
              rintro _ w10 ⟨rfl, rfl⟩
              go_wp2_with fail
              exact bodyPost_ret (v := .tuple #[.string (txt E1), .string (txt E2), .bool true]) (by simp [results, Tryz.results10, go_sem]) rfl ⟨by rw [HR.out], hb8⟩
          · have HR : Hid (clashV R = .tuple #[.string ⟨#[]⟩, .string ⟨#[]⟩, .bool false]) := hz (by rw [← hR]; exact clashR_none ps qs m (.inr (.inr hr)))
            generalize rootT m (cutTree ps) = A at HR1 hr
            generalize rootT m (cutTree qs) = B' at HR2 hr
            have v : (A.toList == B'.toList) = false := str_ne hr
            clear hR hm h h' hz hm2 hw ih hc hd hpq er1 er2 hr
            generalize ps.length = n1 at HM HSm HR1 ⊢
            generalize qs.length = n2 at HN HSm HR2 ⊢
            go_enter Tryz.func10, Tryz.ntmps10
            go_wp2_with (go_at_call 45; refine HM.mono ?_)
            rintro _ w1 ⟨rfl, hb1⟩
            go_wp2_with (go_at_call 45; refine (HN.out _ hb1).mono ?_)
            rintro _ w2 ⟨rfl, hb2'⟩
            have hb2 : Below w.heap.size w w2 := hb1.trans (hb2'.mono hb1.size)
            go_wp2_with (go_at_call 47; refine (HI _).mono ?_)
            rintro _ w3 ⟨rfl, rfl⟩
            go_wp2_with (go_at_call 48; refine (HSm.out _ hb2).mono ?_)
            rintro _ w4 ⟨rfl, hb4'⟩
            have hb4 : Below w.heap.size w w4 := hb2.trans (hb4'.mono hb2.size)
            go_wp2_with (go_at_call 11; refine (HR1.out _ hb4).mono ?_)
            rintro _ w5 ⟨rfl, hb5'⟩
            have hb5 : Below w.heap.size w w5 := hb4.trans (hb5'.mono hb4.size)
            go_wp2_with (go_at_call 11; refine (HR2.out _ hb5).mono ?_)
            rintro _ w6 ⟨rfl, hb6'⟩
            go_wp2_with fail
            exact bodyPost_ret (v := .tuple #[.string ⟨#[]⟩, .string ⟨#[]⟩, .bool false]) (by simp [results, Tryz.results10, go_sem]) rfl ⟨by rw [HR.out], hb5.trans (hb6'.mono hb5.size)⟩
theorem clashSpec_any (N : Nat) : ∀ (a b : Option Addr) (ps qs : List PairT) (c d : Nat) (n : Int) (w : World), ps.length ≤ N → PArg a ps w → PArg b qs w → ps.length ≤ c → qs.length ≤ d →
    Calls Tryz.prog 10 #[.slice a ps.length c, .slice b qs.length d, .int .i64 n] w fun e w' => e = .returned (clashV (clashR ps qs n)) ∧ Below w.heap.size w w' := by
  induction N with
  | zero => exact fun a b ps qs c d n w hN h h' hc hd => clashSpec_step a b ps qs c d n w h h' hc hd (fun a b ps' qs' c d w hl => absurd hl (by omega))
  | succ N ih => exact fun a b ps qs c d n w hN h h' hc hd => clashSpec_step a b ps qs c d n w h h' hc hd (fun a b ps' qs' c d w hl => ih a b ps' qs' c d n w (by omega))
end Go.Proofs.YtfmpjlpakldheaaGreatDoor
