import Derived.Test.YtofglikppppjoacDoorZk
import Derived.ProofKit
import Derived.OpenShut
import Derived.ChangeSlices
import Derived.Deep.SlicePairs
import Derived.Test.YtofglikppppjoacDoorCards
import Derived.Test.YtofglikppppjoacDoorTie
import Derived.Deep.DeepHandedRow
import Derived.Lib.LaidTab
namespace Go.Proofs.YtofglikppppjoacDoor
open Go.RowKit Go.Proofs.Sha

set_option maxRecDepth 100000 in
set_option maxHeartbeats 1000000 in
theorem same_any (a b : Option Addr) (ps qs : List PairT) (c d : Nat) (w : World) (h : PArg a ps w) (h' : PArg b qs w) :
    Calls Tryd.prog 48 #[.slice a ps.length c, .slice b qs.length d] w fun e w' => e = .returned (.bool (decide (ps = qs))) ∧ Below w.heap.size w w' := by
  have hn := h.le
  have hm := h'.le
  obtain ⟨R, hR⟩ : ∃ R, decide (ps = qs) = R := ⟨_, rfl⟩
  rw [hR]
  have HR : Hid (decide (ps = qs) = R) := hR
  clear hR
  obtain ⟨N, hN⟩ : ∃ N, ps.length = N := ⟨_, rfl⟩
  obtain ⟨M, hM⟩ : ∃ M, qs.length = M := ⟨_, rfl⟩
  rw [hN] at hn ⊢
  rw [hM] at hm ⊢
  by_cases hNM : N = M
  · subst hNM
    have hNl : Hid (ps.length = N) := hN
    have hMl : Hid (qs.length = N) := hM
    clear hN hM
    go_enter Tryd.func48, Tryd.ntmps48
    go_wp2_with fail
    go_loopw [5] (fun t wr => ∃ k : Nat, k ≤ N ∧ t = .int .i64 (k : Int) ∧ Hid (ps.take k = qs.take k) ∧ Below w.heap.size w wr) (fun t _ => N - (intOf t).toNat)
    case atStart => exact ⟨0, Nat.zero_le _, rfl, rfl, Below.refl _ _⟩
    case round =>
      obtain ⟨k, hk, rfl, hsame, hbw⟩ := hrel
      by_cases hlt : k < N
      · have z1 : decide ((k : Int) < (N : Int)) = true := by simp; omega
        have hx0 : (0 : Int) ≤ (k : Int) := Int.natCast_nonneg _
        have hx1 : (k : Int) < (N : Int) := by omega
        obtain ⟨b1, off1, rfl, hbl1, hc⟩ := (h.below hbw).at_ (by rw [hNl.out]; omega)
        obtain ⟨b2, off2, rfl, hbl2, hd⟩ := (h'.below hbw).at_ (by rw [hMl.out]; omega)
        obtain ⟨hc1, hc2⟩ := hc k (by rw [hNl.out]; exact hlt)
        obtain ⟨hd1, hd2⟩ := hd k (by rw [hMl.out]; exact hlt)
        have hkl : k < ps.length := by rw [hNl.out]; exact hlt
        have hkm : k < qs.length := by rw [hMl.out]; exact hlt
        have g1 := getD_lt ps k hkl
        have g2 := getD_lt qs k hkm
        have hstep : ps.getD k noPair = qs.getD k noPair → ps.take (k + 1) = qs.take (k + 1) := fun e => by
          rw [List.take_succ_eq_append_getElem hkl, List.take_succ_eq_append_getElem hkm, hsame.out, ← g1, ← g2, e]
        have hneq : ps.getD k noPair ≠ qs.getD k noPair → R = false := fun e => by
          rw [← HR.out]
          exact decide_eq_false fun q => e (by rw [q])
        clear g1 g2 hkl hkm hc hd
        obtain ⟨x, hx⟩ : ∃ x, ps.getD k noPair = x := ⟨_, rfl⟩
        obtain ⟨y, hy⟩ : ∃ y, qs.getD k noPair = y := ⟨_, rfl⟩
        rw [hx] at hc1 hc2
        rw [hy] at hd1 hd2
        rw [hx, hy] at hstep hneq
        clear hx hy
        obtain ⟨xk, xv⟩ := x
        obtain ⟨yk, yv⟩ := y
        dsimp only at hc1 hc2 hd1 hd2
        replace hstep : Hid _ := hstep
        replace hneq : Hid _ := hneq
        cases v1 : (xk.toList == yk.toList) with
        | false =>
          have hRf : Hid (R = false) := hneq.out (fun e => by
            have : xk = yk := congrArg Prod.fst e
            subst this
            rw [beq_self_eq_true] at v1
            cases v1)
          clear hstep hneq HR hsame
          go_wp2_with fail
          go_quiet (fail)
          go_wp2_with fail
          go_ret
          exact ⟨by rw [hRf.out]; rfl, below_draws nq hbw⟩
        | true =>
          cases v2 : (xv.toList == yv.toList) with
          | false =>
            have hRf : Hid (R = false) := hneq.out (fun e => by
              have : xv = yv := congrArg Prod.snd e
              subst this
              rw [beq_self_eq_true] at v2
              cases v2)
            clear hstep hneq HR hsame
            go_wp2_with fail
            go_quiet (fail)
            go_wp2_with fail
            go_ret
            exact ⟨by rw [hRf.out]; rfl, below_draws nq hbw⟩
          | true =>
            have e1 : xk = yk := ByteArray.ext (Array.toList_inj.1 (by rw [beq_iff_eq, ByteArray.toList_eq, ByteArray.toList_eq] at v1; exact v1))
            have e2 : xv = yv := ByteArray.ext (Array.toList_inj.1 (by rw [beq_iff_eq, ByteArray.toList_eq, ByteArray.toList_eq] at v2; exact v2))
            have hs' : Hid (ps.take (k + 1) = qs.take (k + 1)) := hstep.out (by rw [e1, e2])
            clear hstep hneq HR hsame e1 e2
            go_wp2_with fail
            go_quiet (fail)
            go_wp2_with fail
            go_roundw
            case rel => exact ⟨k + 1, hlt, by go_num, hs', below_draws nq hbw⟩
            case measure => simp [intOf]; omega
      · obtain rfl : k = N := by omega
        have z1 : decide ((k : Int) < (k : Int)) = false := by simp
        have hRt : Hid (R = true) := by
          show R = true
          rw [← HR.out, decide_eq_true_eq]
          have e := hsame.out
          rw [List.take_of_length_le (by rw [hNl.out]; exact Nat.le_refl _), List.take_of_length_le (by rw [hMl.out]; exact Nat.le_refl _)] at e
          exact e
        clear hsame HR
        go_wp2_with fail
        go_ret
        exact ⟨by rw [hRt.out]; rfl, hbw⟩
  · have z0 : ((N : Int) != (M : Int)) = true := by rw [bne_iff_ne]; omega
    have hRf : Hid (R = false) := by
      show R = false
      rw [← HR.out]
      exact decide_eq_false fun e => hNM (by rw [← hN, ← hM, e])
    clear HR hN hM
    go_enter Tryd.func48, Tryd.ntmps48
    go_wp2_with fail
    go_ret
    exact ⟨by rw [hRf.out]; rfl, Below.refl _ _⟩

set_option maxRecDepth 100000 in
set_option maxHeartbeats 4000000 in
theorem clashSpec_step (a b : Option Addr) (ps qs : List PairT) (c d : Nat) (n : Int) (w : World) (h : PArg a ps w) (h' : PArg b qs w) (hc : ps.length ≤ c) (hd : qs.length ≤ d)
    (ih : ∀ (a b : Option Addr) (ps' qs' : List PairT) (c d : Nat) (w : World), ps'.length < ps.length → PArg a ps' w → PArg b qs' w → ps'.length ≤ c → qs'.length ≤ d →
      Calls Tryd.prog 22 #[.slice a ps'.length c, .slice b qs'.length d, .int .i64 n] w fun e w' => e = .returned (clashV (clashR ps' qs' n)) ∧ Below w.heap.size w w') :
    Calls Tryd.prog 22 #[.slice a ps.length c, .slice b qs.length d, .int .i64 n] w fun e w' => e = .returned (clashV (clashR ps qs n)) ∧ Below w.heap.size w w' := by
  have HM := mapOk_any a ps c w h
  have HN : Hid (∀ w', Below w.heap.size w w' → Calls Tryd.prog 39 #[.slice b qs.length d] w' fun e w'' => e = .returned (.bool (isMapT qs)) ∧ Below w'.heap.size w' w'') := fun w' hb => mapOk_any b qs d w' (h'.below hb)
  have HI := fun w' => isW_spec n w'
  have HSm : Hid (∀ w', Below w.heap.size w w' → Calls Tryd.prog 48 #[.slice a ps.length c, .slice b qs.length d] w' fun e w'' => e = .returned (.bool (decide (ps = qs))) ∧ Below w'.heap.size w' w'') := fun w' hb => same_any a b ps qs c d w' (h.below hb) (h'.below hb)
  have HR1 : Hid (∀ w', Below w.heap.size w w' → Calls Tryd.prog 18 #[.slice a ps.length c, .int .i64 n] w' fun e w'' => e = .returned (.string (rootS ps n)) ∧ Below w'.heap.size w' w'') := fun w' hb => rootSpec_any a ps c n w' (h.below hb) hc
  have HR2 : Hid (∀ w', Below w.heap.size w w' → Calls Tryd.prog 18 #[.slice b qs.length d, .int .i64 n] w' fun e w'' => e = .returned (.string (rootS qs n)) ∧ Below w'.heap.size w' w'') := fun w' hb => rootSpec_any b qs d n w' (h'.below hb) hd
  obtain ⟨R, hR⟩ : ∃ R, clashR ps qs n = R := ⟨_, rfl⟩
  rw [hR]
  have hz : R = none → clashV R = .tuple #[.string ⟨#[]⟩, .string ⟨#[]⟩, .bool false] := fun e => by rw [e]; rfl
  cases hm : isMapT ps with
  | false =>
    have HR : Hid (clashV R = .tuple #[.string ⟨#[]⟩, .string ⟨#[]⟩, .bool false]) := hz (by rw [← hR]; exact clashR_none ps qs n (.inl (by rw [hm]; rfl)))
    rw [hm] at HM
    clear hR hm h h' hz HN HSm HR1 HR2 ih hc hd
    generalize ps.length = n1 at HM ⊢
    generalize qs.length = n2
    go_enter Tryd.func22, Tryd.ntmps22
    go_wp2_with (go_at_call 39; refine HM.mono ?_; rintro e w1 ⟨rfl, hb1⟩)
    exact bodyPost_ret (v := .tuple #[.string ⟨#[]⟩, .string ⟨#[]⟩, .bool false]) (by simp [results, Tryd.results22, go_sem]) rfl ⟨by rw [HR.out], hb1⟩
  | true =>
    rw [hm] at HM
    cases hm2 : isMapT qs with
    | false =>
      have HR : Hid (clashV R = .tuple #[.string ⟨#[]⟩, .string ⟨#[]⟩, .bool false]) := hz (by rw [← hR]; exact clashR_none ps qs n (.inl (by rw [hm, hm2]; rfl)))
      rw [hm2] at HN
      clear hR hm h h' hz hm2 HSm HR1 HR2 ih hc hd
      generalize ps.length = n1 at HM ⊢
      generalize qs.length = n2 at HN ⊢
      go_enter Tryd.func22, Tryd.ntmps22
      go_wp2_with (go_at_call 39; refine HM.mono ?_)
      rintro _ w1 ⟨rfl, hb1⟩
      go_wp2_with (go_at_call 39; refine (HN.out _ hb1).mono ?_)
      rintro _ w2 ⟨rfl, hb2⟩
      go_wp2_with fail
      exact bodyPost_ret (v := .tuple #[.string ⟨#[]⟩, .string ⟨#[]⟩, .bool false]) (by simp [results, Tryd.results22, go_sem]) rfl ⟨by rw [HR.out], hb1.trans (hb2.mono hb1.size)⟩
    | true =>
      rw [hm2] at HN
      cases hw : isW n with
      | false =>
        have HR : Hid (clashV R = .tuple #[.string ⟨#[]⟩, .string ⟨#[]⟩, .bool false]) := hz (by rw [← hR]; exact clashR_none ps qs n (.inl (by rw [hm, hm2, hw]; rfl)))
        rw [hw] at HI
        clear hR hm h h' hz hm2 hw HSm HR1 HR2 ih hc hd
        generalize ps.length = n1 at HM ⊢
        generalize qs.length = n2 at HN ⊢
        go_enter Tryd.func22, Tryd.ntmps22
        go_wp2_with (go_at_call 39; refine HM.mono ?_)
        rintro _ w1 ⟨rfl, hb1⟩
        go_wp2_with (go_at_call 39; refine (HN.out _ hb1).mono ?_)
        rintro _ w2 ⟨rfl, hb2⟩
        go_wp2_with (go_at_call 40; refine (HI _).mono ?_)
        rintro _ w3 ⟨rfl, rfl⟩
        go_wp2_with fail
        exact bodyPost_ret (v := .tuple #[.string ⟨#[]⟩, .string ⟨#[]⟩, .bool false]) (by simp [results, Tryd.results22, go_sem]) rfl ⟨by rw [HR.out], hb1.trans (hb2.mono hb1.size)⟩
      | true =>
        rw [hw] at HI
        by_cases hpq : ps = qs
        · have HR : Hid (clashV R = .tuple #[.string ⟨#[]⟩, .string ⟨#[]⟩, .bool false]) := hz (by rw [← hR]; exact clashR_none ps qs n (.inr (.inl hpq)))
          rw [decide_eq_true hpq] at HSm
          clear hR hm h h' hz hm2 hw HR1 HR2 ih hc hd hpq
          generalize ps.length = n1 at HM HSm ⊢
          generalize qs.length = n2 at HN HSm ⊢
          go_enter Tryd.func22, Tryd.ntmps22
          go_wp2_with (go_at_call 39; refine HM.mono ?_)
          rintro _ w1 ⟨rfl, hb1⟩
          go_wp2_with (go_at_call 39; refine (HN.out _ hb1).mono ?_)
          rintro _ w2 ⟨rfl, hb2'⟩
          have hb2 : Below w.heap.size w w2 := hb1.trans (hb2'.mono hb1.size)
          go_wp2_with (go_at_call 40; refine (HI _).mono ?_)
          rintro _ w3 ⟨rfl, rfl⟩
          go_wp2_with (go_at_call 48; refine (HSm.out _ hb2).mono ?_)
          rintro _ w4 ⟨rfl, hb4'⟩
          go_wp2_with fail
          exact bodyPost_ret (v := .tuple #[.string ⟨#[]⟩, .string ⟨#[]⟩, .bool false]) (by simp [results, Tryd.results22, go_sem]) rfl ⟨by rw [HR.out], hb2.trans (hb4'.mono hb2.size)⟩
        · rw [decide_eq_false hpq] at HSm
          obtain ⟨m, rfl, q1, q2⟩ := isW_out hw
          have er1 : rootS ps (m : Int) = rootT m (cutTree ps) := by unfold rootS; rw [hm, hw]; rfl
          have er2 : rootS qs (m : Int) = rootT m (cutTree qs) := by unfold rootS; rw [hm2, hw]; rfl
          rw [er1] at HR1
          rw [er2] at HR2
          by_cases hr : rootT m (cutTree ps) = rootT m (cutTree qs)
          · obtain ⟨n1, n2, hstep⟩ := clashR_step m q1 q2 ps qs hm hm2 hpq hr
            rw [hR] at hstep
            obtain ⟨b1, off1, rfl, hbl1, _⟩ := h.at_ n1
            obtain ⟨b2, off2, rfl, hbl2, _⟩ := h'.at_ n2
            have ok1 := isMapT_ok ps hm
            have ok2 := isMapT_ok qs hm2
            have HE1 : Hid (∀ w', Below w.heap.size w w' → Calls Tryd.prog 49 #[.slice (some ⟨b1, off1, none⟩) ps.length c, .int .i64 (m : Int)] w' fun e w'' => e = .returned (.string (encT m (cutTree ps))) ∧ Below w'.heap.size w' w'') := fun w' hb => lenc_any m q1 q2 _ ps c w' (h.below hb) hc n1 ok1
            have HE2 : Hid (∀ w', Below w.heap.size w w' → Calls Tryd.prog 49 #[.slice (some ⟨b2, off2, none⟩) qs.length d, .int .i64 (m : Int)] w' fun e w'' => e = .returned (.string (encT m (cutTree qs))) ∧ Below w'.heap.size w' w'') := fun w' hb => lenc_any m q1 q2 _ qs d w' (h'.below hb) hd n2 ok2
            have hsz : ∀ t : Tr PairT, (encT m t).size ≤ 1048576 := fun t => by
              cases t with
              | nil => exact Nat.zero_le _
              | node u z v =>
                have := (encS_size z.1 z.2 (rootT m u) (rootT m v) m).1
                show (encS z.1 z.2 (rootT m u) (rootT m v) m).size ≤ 1048576
                omega
            have s1 := hsz (cutTree ps)
            have s2 := hsz (cutTree qs)
            rw [hr] at HR1
            generalize rootT m (cutTree qs) = G at HR1 HR2
            generalize encT m (cutTree ps) = E1 at HE1 hstep s1
            generalize encT m (cutTree qs) = E2 at HE2 hstep s2
            clear hsz hr er1 er2 hR
            by_cases hE : E1 = E2
            · subst hE
              rw [if_neg (fun q => q rfl)] at hstep
              have HT1 : Hid (∀ w', Below w.heap.size w w' → Calls Tryd.prog 50 #[.slice (some ⟨b1, off1, none⟩) ps.length c] w' fun e w'' => e = .returned (.int .i64 (topTo ps (ps.length - 1) : Int)) ∧ Below w'.heap.size w' w'') := fun w' hb => top_any _ ps c w' (h.below hb) n1
              have HT2 : Hid (∀ w', Below w.heap.size w w' → Calls Tryd.prog 50 #[.slice (some ⟨b2, off2, none⟩) qs.length d] w' fun e w'' => e = .returned (.int .i64 (topTo qs (qs.length - 1) : Int)) ∧ Below w'.heap.size w' w'') := fun w' hb => top_any _ qs d w' (h'.below hb) n2
              have ht1 := topTo_le ps (ps.length - 1)
              have ht2 := topTo_le qs (qs.length - 1)
              generalize topTo ps (ps.length - 1) = x at HT1 hstep ht1
              generalize topTo qs (qs.length - 1) = y at HT2 hstep ht2
              have l1 : (ps.take x).length = x := by rw [List.length_take]; omega
              have l2 : (qs.take y).length = y := by rw [List.length_take]; omega
              have HSt : Hid (∀ w', Below w.heap.size w w' → Calls Tryd.prog 48 #[.slice (some ⟨b1, off1, none⟩) x c, .slice (some ⟨b2, off2, none⟩) y d] w' fun e w'' => e = .returned (.bool (decide (ps.take x = qs.take y))) ∧ Below w'.heap.size w' w'') := fun w' hb => by
                have := same_any _ _ (ps.take x) (qs.take y) c d w' ((h.below hb).take x) ((h'.below hb).take y)
                rw [l1, l2] at this
                exact this
              have z1 : (0 : Int) ≤ (x : Int) := Int.natCast_nonneg _
              have z2 : (0 : Int) ≤ (y : Int) := Int.natCast_nonneg _
              have z3 : (x : Int) ≤ (c : Int) := by omega
              have z4 : (y : Int) ≤ (d : Int) := by omega
              have hn1 := h.le
              have hn2 := h'.le
              by_cases hl : ps.take x = qs.take y
              · rw [if_neg (fun q => q hl)] at hstep
                rw [decide_eq_true hl] at HSt
                obtain ⟨A1, hA1⟩ : ∃ A : Option Addr, (if c = x + 1 then some ⟨b1, off1, none⟩ else some ⟨b1, off1 + (x + 1) * 2, none⟩) = A := ⟨_, rfl⟩
                obtain ⟨A2, hA2⟩ : ∃ A : Option Addr, (if d = y + 1 then some ⟨b2, off2, none⟩ else some ⟨b2, off2 + (y + 1) * 2, none⟩) = A := ⟨_, rfl⟩
                have hP1 : ∀ w', Below w.heap.size w w' → PArg A1 (ps.drop (x + 1)) w' := fun w' hb => by
                  rw [← hA1]
                  by_cases e : c = x + 1
                  · rw [if_pos e, List.drop_of_length_le (by omega)]; exact PArg.empty _ _
                  · rw [if_neg e]; exact (h.below hb).drop (x + 1)
                have hP2 : ∀ w', Below w.heap.size w w' → PArg A2 (qs.drop (y + 1)) w' := fun w' hb => by
                  rw [← hA2]
                  by_cases e : d = y + 1
                  · rw [if_pos e, List.drop_of_length_le (by omega)]; exact PArg.empty _ _
                  · rw [if_neg e]; exact (h'.below hb).drop (y + 1)
                have HC : Hid (∀ w', Below w.heap.size w w' → Calls Tryd.prog 22 #[.slice A1 (ps.length - (x + 1)) (c - (x + 1)), .slice A2 (qs.length - (y + 1)) (d - (y + 1)), .int .i64 (m : Int)] w' fun e w'' => e = .returned (clashV R) ∧ Below w'.heap.size w' w'') := fun w' hb => by
                  have := ih A1 A2 (ps.drop (x + 1)) (qs.drop (y + 1)) (c - (x + 1)) (d - (y + 1)) w' (by rw [List.length_drop]; omega) (hP1 w' hb) (hP2 w' hb) (by rw [List.length_drop]; omega) (by rw [List.length_drop]; omega)
                  rw [← hstep, List.length_drop, List.length_drop] at this
                  exact this
                unfold clashV at HC
                clear hP1 hP2 hstep l1 l2 ih h h' hz hm hm2 hw hpq ok1 ok2 hl
                generalize ps.length = n1' at *
                generalize qs.length = n2' at *
                obtain ⟨k1, hk1⟩ : ∃ k, n1' - (x + 1) = k := ⟨_, rfl⟩
                obtain ⟨k2, hk2⟩ : ∃ k, n2' - (y + 1) = k := ⟨_, rfl⟩
                rw [hk1, hk2] at HC
                have i1 : IntKind.i64.wrap ((x : Int) + 1) = (x : Int) + 1 := by rw [IntKind.wrap_i64]; omega
                have i2 : IntKind.i64.wrap ((y : Int) + 1) = (y : Int) + 1 := by rw [IntKind.wrap_i64]; omega
                have i3 : (0 : Int) ≤ (x : Int) + 1 := by omega
                have i4 : (0 : Int) ≤ (y : Int) + 1 := by omega
                have i5 : (x : Int) + 1 ≤ (n1' : Int) := by omega
                have i6 : (y : Int) + 1 ≤ (n2' : Int) := by omega
                have i7 : (n1' : Int) ≤ (c : Int) := by omega
                have i8 : (n2' : Int) ≤ (d : Int) := by omega
                go_enter Tryd.func22, Tryd.ntmps22
                go_wp2_with (go_at_call 39; refine HM.mono ?_)
                rintro _ w1 ⟨rfl, hb1⟩
                go_wp2_with (go_at_call 39; refine (HN.out _ hb1).mono ?_)
                rintro _ w2 ⟨rfl, hb2'⟩
                have hb2 : Below w.heap.size w w2 := hb1.trans (hb2'.mono hb1.size)
                go_wp2_with (go_at_call 40; refine (HI _).mono ?_)
                rintro _ w3 ⟨rfl, rfl⟩
                go_wp2_with (go_at_call 48; refine (HSm.out _ hb2).mono ?_)
                rintro _ w4 ⟨rfl, hb4'⟩
                have hb4 : Below w.heap.size w w4 := hb2.trans (hb4'.mono hb2.size)
                go_wp2_with (go_at_call 18; refine (HR1.out _ hb4).mono ?_)
                rintro _ w5 ⟨rfl, hb5'⟩
                have hb5 : Below w.heap.size w w5 := hb4.trans (hb5'.mono hb4.size)
                go_wp2_with (go_at_call 18; refine (HR2.out _ hb5).mono ?_)
                rintro _ w6 ⟨rfl, hb6'⟩
                have hb6 : Below w.heap.size w w6 := hb5.trans (hb6'.mono hb5.size)
                clear hb1 hb2 hb2' hb4 hb4' hb5 hb5' hb6'
                go_wp2_with (go_at_call 49; refine (HE1.out _ hb6).mono ?_)
                rintro _ w7 ⟨rfl, hb7'⟩
                have hb7 : Below w.heap.size w w7 := hb6.trans (hb7'.mono hb6.size)
                go_wp2_with (go_at_call 49; refine (HE2.out _ hb7).mono ?_)
                rintro _ w8 ⟨rfl, hb8'⟩
                have hb8 : Below w.heap.size w w8 := hb7.trans (hb8'.mono hb7.size)
                clear hb6 hb7' hb7 hb8'
                go_wp2_with (go_at_call 50; refine (HT1.out _ hb8).mono ?_)
                rintro _ w9 ⟨rfl, hb9'⟩
                have hb9 : Below w.heap.size w w9 := hb8.trans (hb9'.mono hb8.size)
                go_upto_region 9 with (go_at_call 50; refine (HT2.out _ hb9).mono ?_; rintro e wa ⟨rfl, hba'⟩)
                have hba : Below w.heap.size w wa := hb9.trans (hba'.mono hb9.size)
                clear hb8 hb9' hb9 hba'
                go_region_held3 (fun _ => True) (trivial) (first | (go_at_call 48; refine (HSt.out _ hba.drew).mono ?_; rintro e wb ⟨rfl, hbb'⟩; have hbb : Below w.heap.size w wb := hba.drew.trans (hbb'.mono hba.size)))

                go_upto_region 11 with fail
                go_region_held3 (fun _ => True) (trivial) (first | (go_at_call 22; refine (HC.out _ hbb.drew).mono ?_; rintro e wc ⟨rfl, hbc'⟩))
                go_wp2_with fail
                exact bodyPost_ret (v := clashV R) (by simp [results, Tryd.results22, go_sem, clashV]) rfl ⟨rfl, hbb.drew.trans (hbc'.mono hbb.size)⟩
              · rw [if_pos hl] at hstep
                rw [decide_eq_false hl] at HSt
                have HC : Hid (∀ w', Below w.heap.size w w' → Calls Tryd.prog 22 #[.slice (some ⟨b1, off1, none⟩) x c, .slice (some ⟨b2, off2, none⟩) y d, .int .i64 (m : Int)] w' fun e w'' => e = .returned (clashV R) ∧ Below w'.heap.size w' w'') := fun w' hb => by
                  have := ih _ _ (ps.take x) (qs.take y) c d w' (by omega) ((h.below hb).take x) ((h'.below hb).take y) (by omega) (by omega)
                  rw [← hstep, l1, l2] at this
                  exact this
                unfold clashV at HC
                clear hstep l1 l2 ih h h' hz hm hm2 hw hpq ok1 ok2 hl
                generalize ps.length = n1' at *
                generalize qs.length = n2' at *
                go_enter Tryd.func22, Tryd.ntmps22
                go_wp2_with (go_at_call 39; refine HM.mono ?_)
                rintro _ w1 ⟨rfl, hb1⟩
                go_wp2_with (go_at_call 39; refine (HN.out _ hb1).mono ?_)
                rintro _ w2 ⟨rfl, hb2'⟩
                have hb2 : Below w.heap.size w w2 := hb1.trans (hb2'.mono hb1.size)
                go_wp2_with (go_at_call 40; refine (HI _).mono ?_)
                rintro _ w3 ⟨rfl, rfl⟩
                go_wp2_with (go_at_call 48; refine (HSm.out _ hb2).mono ?_)
                rintro _ w4 ⟨rfl, hb4'⟩
                have hb4 : Below w.heap.size w w4 := hb2.trans (hb4'.mono hb2.size)
                go_wp2_with (go_at_call 18; refine (HR1.out _ hb4).mono ?_)
                rintro _ w5 ⟨rfl, hb5'⟩
                have hb5 : Below w.heap.size w w5 := hb4.trans (hb5'.mono hb4.size)
                go_wp2_with (go_at_call 18; refine (HR2.out _ hb5).mono ?_)
                rintro _ w6 ⟨rfl, hb6'⟩
                have hb6 : Below w.heap.size w w6 := hb5.trans (hb6'.mono hb5.size)
                clear hb1 hb2 hb2' hb4 hb4' hb5 hb5' hb6'
                go_wp2_with (go_at_call 49; refine (HE1.out _ hb6).mono ?_)
                rintro _ w7 ⟨rfl, hb7'⟩
                have hb7 : Below w.heap.size w w7 := hb6.trans (hb7'.mono hb6.size)
                go_wp2_with (go_at_call 49; refine (HE2.out _ hb7).mono ?_)
                rintro _ w8 ⟨rfl, hb8'⟩
                have hb8 : Below w.heap.size w w8 := hb7.trans (hb8'.mono hb7.size)
                clear hb6 hb7' hb7 hb8'
                go_wp2_with (go_at_call 50; refine (HT1.out _ hb8).mono ?_)
                rintro _ w9 ⟨rfl, hb9'⟩
                have hb9 : Below w.heap.size w w9 := hb8.trans (hb9'.mono hb8.size)
                go_upto_region 9 with (go_at_call 50; refine (HT2.out _ hb9).mono ?_; rintro e wa ⟨rfl, hba'⟩)
                have hba : Below w.heap.size w wa := hb9.trans (hba'.mono hb9.size)
                clear hb8 hb9' hb9 hba'
                go_region_held3 (fun _ => True) (trivial) (first | (go_at_call 48; refine (HSt.out _ hba.drew).mono ?_; rintro e wb ⟨rfl, hbb'⟩; have hbb : Below w.heap.size w wb := hba.drew.trans (hbb'.mono hba.size)))

                go_upto_region 10 with fail
                go_region_held3 (fun _ => True) (trivial) (first | (go_at_call 22; refine (HC.out _ hbb.drew).mono ?_; rintro e wc ⟨rfl, hbc'⟩))
                go_wp2_with fail
                exact bodyPost_ret (v := clashV R) (by simp [results, Tryd.results22, go_sem, clashV]) rfl ⟨rfl, hbb.drew.trans (hbc'.mono hbb.size)⟩
            · rw [if_pos hE] at hstep
              have v : (E1.toList == E2.toList) = false := str_ne hE
              have HX1 : Hid (∀ w', Calls Tryd.prog 26 #[.string E1] w' fun e w'' => e = .returned (.string (txt E1)) ∧ w'' = w') := fun w' => ltxt_any E1 w' s1
              have HX2 : Hid (∀ w', Calls Tryd.prog 26 #[.string E2] w' fun e w'' => e = .returned (.string (txt E2)) ∧ w'' = w') := fun w' => ltxt_any E2 w' s2
              have HR : Hid (clashV R = .tuple #[.string (txt E1), .string (txt E2), .bool true]) := by show _ = _; rw [hstep]; rfl
              clear hstep ih h h' hz hm hm2 hw hpq ok1 ok2 hE
              generalize ps.length = n1' at *
              generalize qs.length = n2' at *
              go_enter Tryd.func22, Tryd.ntmps22
              go_wp2_with (go_at_call 39; refine HM.mono ?_)
              rintro _ w1 ⟨rfl, hb1⟩
              go_wp2_with (go_at_call 39; refine (HN.out _ hb1).mono ?_)
              rintro _ w2 ⟨rfl, hb2'⟩
              have hb2 : Below w.heap.size w w2 := hb1.trans (hb2'.mono hb1.size)
              go_wp2_with (go_at_call 40; refine (HI _).mono ?_)
              rintro _ w3 ⟨rfl, rfl⟩
              go_wp2_with (go_at_call 48; refine (HSm.out _ hb2).mono ?_)
              rintro _ w4 ⟨rfl, hb4'⟩
              have hb4 : Below w.heap.size w w4 := hb2.trans (hb4'.mono hb2.size)
              go_wp2_with (go_at_call 18; refine (HR1.out _ hb4).mono ?_)
              rintro _ w5 ⟨rfl, hb5'⟩
              have hb5 : Below w.heap.size w w5 := hb4.trans (hb5'.mono hb4.size)
              go_wp2_with (go_at_call 18; refine (HR2.out _ hb5).mono ?_)
              rintro _ w6 ⟨rfl, hb6'⟩
              have hb6 : Below w.heap.size w w6 := hb5.trans (hb6'.mono hb5.size)
              clear hb1 hb2 hb2' hb4 hb4' hb5 hb5' hb6'
              go_wp2_with (go_at_call 49; refine (HE1.out _ hb6).mono ?_)
              rintro _ w7 ⟨rfl, hb7'⟩
              have hb7 : Below w.heap.size w w7 := hb6.trans (hb7'.mono hb6.size)
              go_wp2_with (go_at_call 49; refine (HE2.out _ hb7).mono ?_)
              rintro _ w8 ⟨rfl, hb8'⟩
              have hb8 : Below w.heap.size w w8 := hb7.trans (hb8'.mono hb7.size)
              clear hb6 hb7' hb7 hb8'

              go_wp2_with (go_at_call 26; refine (HX1.out _).mono ?_)
              rintro _ w9 ⟨rfl, rfl⟩
              go_wp2_with (go_at_call 26; refine (HX2.out _).mono ?_)
              rintro _ w10 ⟨rfl, rfl⟩
              go_wp2_with fail
              exact bodyPost_ret (v := .tuple #[.string (txt E1), .string (txt E2), .bool true]) (by simp [results, Tryd.results22, go_sem]) rfl ⟨by rw [HR.out], hb8⟩
          · have HR : Hid (clashV R = .tuple #[.string ⟨#[]⟩, .string ⟨#[]⟩, .bool false]) := hz (by rw [← hR]; exact clashR_none ps qs m (.inr (.inr hr)))
            generalize rootT m (cutTree ps) = A at HR1 hr
            generalize rootT m (cutTree qs) = B' at HR2 hr
            have v : (A.toList == B'.toList) = false := str_ne hr
            clear hR hm h h' hz hm2 hw ih hc hd hpq er1 er2 hr
            generalize ps.length = n1 at HM HSm HR1 ⊢
            generalize qs.length = n2 at HN HSm HR2 ⊢
            go_enter Tryd.func22, Tryd.ntmps22
            go_wp2_with (go_at_call 39; refine HM.mono ?_)
            rintro _ w1 ⟨rfl, hb1⟩
            go_wp2_with (go_at_call 39; refine (HN.out _ hb1).mono ?_)
            rintro _ w2 ⟨rfl, hb2'⟩
            have hb2 : Below w.heap.size w w2 := hb1.trans (hb2'.mono hb1.size)
            go_wp2_with (go_at_call 40; refine (HI _).mono ?_)
            rintro _ w3 ⟨rfl, rfl⟩
            go_wp2_with (go_at_call 48; refine (HSm.out _ hb2).mono ?_)
            rintro _ w4 ⟨rfl, hb4'⟩
            have hb4 : Below w.heap.size w w4 := hb2.trans (hb4'.mono hb2.size)
            go_wp2_with (go_at_call 18; refine (HR1.out _ hb4).mono ?_)
            rintro _ w5 ⟨rfl, hb5'⟩
            have hb5 : Below w.heap.size w w5 := hb4.trans (hb5'.mono hb4.size)
            go_wp2_with (go_at_call 18; refine (HR2.out _ hb5).mono ?_)
            rintro _ w6 ⟨rfl, hb6'⟩
            go_wp2_with fail
            exact bodyPost_ret (v := .tuple #[.string ⟨#[]⟩, .string ⟨#[]⟩, .bool false]) (by simp [results, Tryd.results22, go_sem]) rfl ⟨by rw [HR.out], hb5.trans (hb6'.mono hb5.size)⟩
theorem clashSpec_any (N : Nat) : ∀ (a b : Option Addr) (ps qs : List PairT) (c d : Nat) (n : Int) (w : World), ps.length ≤ N → PArg a ps w → PArg b qs w → ps.length ≤ c → qs.length ≤ d →
    Calls Tryd.prog 22 #[.slice a ps.length c, .slice b qs.length d, .int .i64 n] w fun e w' => e = .returned (clashV (clashR ps qs n)) ∧ Below w.heap.size w w' := by
  induction N with
  | zero => exact fun a b ps qs c d n w hN h h' hc hd => clashSpec_step a b ps qs c d n w h h' hc hd (fun a b ps' qs' c d w hl => absurd hl (by omega))
  | succ N ih => exact fun a b ps qs c d n w hN h h' hc hd => clashSpec_step a b ps qs c d n w h h' hc hd (fun a b ps' qs' c d w hl => ih a b ps' qs' c d n w (by omega))
end Go.Proofs.YtofglikppppjoacDoor
namespace Go.Proofs.YtofglikppppjoacDoor
open Go.RowKit Go.Proofs.Sha

set_option maxRecDepth 100000 in
set_option maxHeartbeats 1000000 in
theorem law_clash (a : Option Addr) (ps : List PairT) (c : Nat) (b : Option Addr) (qs : List PairT) (d : Nat) (n : Int) (w : World) (hN : ps.length ≤ maxLen) (hM : ∀ j, (ps.getD j noPair).1.size ≤ maxLen ∧ (ps.getD j noPair).2.size ≤ maxLen)
    (h : 0 < ps.length → ∃ b off : Nat, a = some ⟨b, off, none⟩ ∧ b < w.heap.size ∧ ∀ j, j < ps.length → w.cell? ⟨b, off + j * 2, none⟩ = some (.string (ps.getD j noPair).1) ∧ w.cell? ⟨b, off + j * 2 + 1, none⟩ = some (.string (ps.getD j noPair).2))
    (hN' : qs.length ≤ maxLen) (hM' : ∀ j, (qs.getD j noPair).1.size ≤ maxLen ∧ (qs.getD j noPair).2.size ≤ maxLen)
    (h' : 0 < qs.length → ∃ b' off : Nat, b = some ⟨b', off, none⟩ ∧ b' < w.heap.size ∧ ∀ j, j < qs.length → w.cell? ⟨b', off + j * 2, none⟩ = some (.string (qs.getD j noPair).1) ∧ w.cell? ⟨b', off + j * 2 + 1, none⟩ = some (.string (qs.getD j noPair).2))
    (hK : ∀ j, j < 64 → w.cell? ⟨0, j, none⟩ = some (.int .u32 ((kTab.getD j 0).toNat : Int))) :
    Calls Tryd.prog 6 #[.slice a ps.length c, .slice b qs.length d, .int .i64 n] w fun e w' => e = .returned (.bool true) ∧ Below w.heap.size w w' := by
  have hQ : QArg a ps w := ⟨h⟩
  have hQ' : QArg b qs w := ⟨h'⟩
  have hk : KTab w := hK
  have HZ : Calls Tryd.prog 17 #[.slice a ps.length c, .int .i64 1048576] w fun e w' => ∃ r : Int, e = .returned (.int .i64 r) ∧ Hid (r ≤ 1048576) ∧ Hid (0 ≤ r → SmallP ps) ∧ Below w.heap.size w w' := (szPairS_any a ps c 1048576 w hQ (Nat.le_refl _) hN hM).mono (by rintro e w' ⟨r, he, h0, h1, h2⟩; exact ⟨r, he, h0, h1, h2⟩)
  have HZ' : Hid (∀ (l0 : Nat) w', l0 ≤ 1048576 → Below w.heap.size w w' → Calls Tryd.prog 17 #[.slice b qs.length d, .int .i64 (l0 : Int)] w' fun e w'' => ∃ r : Int, e = .returned (.int .i64 r) ∧ Hid (0 ≤ r → SmallP qs) ∧ Below w'.heap.size w' w'') := fun l0 w' hl hb => (szPairS_any b qs d l0 w' (hQ'.below hb) hl hN' hM').mono (by rintro e w' ⟨r, he, _, h1, h2⟩; exact ⟨r, he, h1, h2⟩)
  have HT : Hid (∀ w', Below w.heap.size w w' → SmallP ps → Calls Tryd.prog 19 #[.slice a ps.length c] w' fun e w'' => (∃ g, e = .returned (.slice (some ⟨g, 0, none⟩) ps.length ps.length) ∧ PArg (some ⟨g, 0, none⟩) ps w'') ∧ Below w'.heap.size w' w'') := fun w' hb hs => (toPairS_any a ps c w' ((hQ.below hb).parg hs)).mono (by rintro e w' ⟨g, he, _, h1, h2⟩; exact ⟨⟨g, he, h1⟩, h2⟩)
  have HT' : Hid (∀ w', Below w.heap.size w w' → SmallP qs → Calls Tryd.prog 19 #[.slice b qs.length d] w' fun e w'' => (∃ g, e = .returned (.slice (some ⟨g, 0, none⟩) qs.length qs.length) ∧ PArg (some ⟨g, 0, none⟩) qs w'') ∧ Below w'.heap.size w' w'') := fun w' hb hs => (toPairS_any b qs d w' ((hQ'.below hb).parg hs)).mono (by rintro e w' ⟨g, he, _, h1, h2⟩; exact ⟨⟨g, he, h1⟩, h2⟩)
  have HS : Hid (∀ w' g g', PArg (some ⟨g, 0, none⟩) ps w' → PArg (some ⟨g', 0, none⟩) qs w' → Calls Tryd.prog 22 #[.slice (some ⟨g, 0, none⟩) ps.length ps.length, .slice (some ⟨g', 0, none⟩) qs.length qs.length, .int .i64 n] w' fun e w'' => e = .returned (clashV (clashR ps qs n)) ∧ Below w'.heap.size w' w'') := fun w' g g' h1 h2 => clashSpec_any _ _ _ ps qs _ _ n w' (Nat.le_refl _) h1 h2 (Nat.le_refl _) (Nat.le_refl _)
  have HI : Hid (∀ w' g g', Below w.heap.size w w' → PArg (some ⟨g, 0, none⟩) ps w' → PArg (some ⟨g', 0, none⟩) qs w' → Calls Tryd.prog 23 #[.slice (some ⟨g, 0, none⟩) ps.length ps.length, .slice (some ⟨g', 0, none⟩) qs.length qs.length, .int .i64 n] w' fun e w'' => e = .returned (clashV (clashR ps qs n)) ∧ Below w'.heap.size w' w'') := fun w' g g' hb h1 h2 => clashImpl_any _ _ ps qs _ _ n w' h1 h2 (hk.below hb)
  have HE : Hid (∀ w' g g', PArg (some ⟨g, 0, none⟩) ps w' → PArg (some ⟨g', 0, none⟩) ps w' → Calls Tryd.prog 21 #[.slice (some ⟨g, 0, none⟩) ps.length ps.length, .slice (some ⟨g', 0, none⟩) ps.length ps.length] w' fun e w'' => e = .returned (.bool true) ∧ Below w'.heap.size w' w'') := fun w' g g' h1 h2 => eqPairS_any _ _ ps _ _ w' h1 h2
  have HE' : Hid (∀ w' g g', PArg (some ⟨g, 0, none⟩) qs w' → PArg (some ⟨g', 0, none⟩) qs w' → Calls Tryd.prog 21 #[.slice (some ⟨g, 0, none⟩) qs.length qs.length, .slice (some ⟨g', 0, none⟩) qs.length qs.length] w' fun e w'' => e = .returned (.bool true) ∧ Below w'.heap.size w' w'') := fun w' g g' h1 h2 => eqPairS_any _ _ qs _ _ w' h1 h2
  clear h hN hM hK hk hQ h' hN' hM' hQ'
  unfold clashV at HS HI
  generalize clashR ps qs n = R at HS HI
  generalize (resT R).1 = R1 at HS HI
  generalize (resT R).2 = R2 at HS HI
  generalize (!R.isNone) = R3 at HS HI
  generalize hl : ps.length = N at HZ HT HS HI HE
  generalize hl' : qs.length = M at HZ' HT' HS HI HE'
  clear hl hl'
  go_enter Tryd.func6, Tryd.ntmps6
  go_wp2_with (go_at_call 17; refine HZ.mono ?_)
  rintro _ w1 ⟨r, rfl, hr1, hr, hb1⟩
  by_cases hr0 : r < 0
  · have z : decide (r < 0) = true := decide_eq_true hr0
    go_wp2_with fail
    go_ret
    exact ⟨rfl, hb1⟩
  · have hsm : Hid (SmallP ps) := hr.out (by omega)
    obtain ⟨l0, rfl⟩ : ∃ l0 : Nat, r = (l0 : Int) := ⟨r.toNat, by omega⟩
    have hl0 : l0 ≤ 1048576 := by have := hr1.out; omega
    have z : decide ((l0 : Int) < 0) = false := decide_eq_false hr0
    clear hr hr1
    go_wp2_with (go_at_call 17; refine (HZ'.out _ _ hl0 hb1).mono ?_)
    rintro _ w2 ⟨r2, rfl, hr2, hb2'⟩
    have hb2 : Below w.heap.size w w2 := hb1.trans (hb2'.mono hb1.size)
    by_cases hr20 : r2 < 0
    · have z2 : decide (r2 < 0) = true := decide_eq_true hr20
      go_wp2_with fail
      go_ret
      exact ⟨rfl, hb2⟩
    · have z2 : decide (r2 < 0) = false := decide_eq_false hr20
      have z3 : 0 ≤ r2 := by omega
      have hsm2 : Hid (SmallP qs) := hr2.out z3
      clear hr2
      go_wp2_with (go_at_call 19; refine (HT.out _ hb2 hsm.out).mono ?_)
      rintro _ w3 ⟨⟨g1, rfl, hp1⟩, hb3'⟩
      have hb3 : Below w.heap.size w w3 := hb2.trans (hb3'.mono hb2.size)
      go_wp2_with (go_at_call 19; refine (HT'.out _ hb3 hsm2.out).mono ?_)
      rintro _ w4 ⟨⟨g2, rfl, hp2⟩, hb4'⟩
      have hb4 : Below w.heap.size w w4 := hb3.trans (hb4'.mono hb3.size)
      go_wp2_with (go_at_call 22; refine (HS.out _ _ _ (hp1.below hb4') hp2).mono ?_)
      rintro _ w5 ⟨rfl, hb5'⟩
      have hb5 : Below w.heap.size w w5 := hb4.trans (hb5'.mono hb4.size)
      go_wp2_with (go_at_call 19; refine (HT.out _ hb5 hsm.out).mono ?_)
      rintro _ w6 ⟨⟨g3, rfl, hp3⟩, hb6'⟩
      have hb6 : Below w.heap.size w w6 := hb5.trans (hb6'.mono hb5.size)
      go_wp2_with (go_at_call 19; refine (HT'.out _ hb6 hsm2.out).mono ?_)
      rintro _ w7 ⟨⟨g4, rfl, hp4⟩, hb7'⟩
      have hb7 : Below w.heap.size w w7 := hb6.trans (hb7'.mono hb6.size)
      have hp3' := hp3.below hb7'
      go_wp2_with (go_at_call 23; refine (HI.out _ _ _ hb7 hp3' hp4).mono ?_)
      rintro _ w8 ⟨rfl, hb8'⟩
      have hb8 : Below w.heap.size w w8 := hb7.trans (hb8'.mono hb7.size)
      have hp3b := hp3'.below hb8'
      have hp4b := hp4.below hb8'
      go_wp2_with (go_at_call 19; refine (HT.out _ hb8 hsm.out).mono ?_)
      rintro _ w9 ⟨⟨g5, rfl, hp5⟩, hb9'⟩
      have hb9 : Below w.heap.size w w9 := hb8.trans (hb9'.mono hb8.size)
      go_wp2_with (go_at_call 21; refine (HE.out _ _ _ (hp3b.below hb9') hp5).mono ?_)
      rintro _ wa ⟨rfl, hba'⟩
      have hba : Below w.heap.size w wa := hb9.trans (hba'.mono hb9.size)
      have hp4c := (hp4b.below hb9').below hba'
      go_wp2_with (go_at_call 19; refine (HT'.out _ hba hsm2.out).mono ?_)
      rintro _ wb ⟨⟨g6, rfl, hp6⟩, hbb'⟩
      have hbb : Below w.heap.size w wb := hba.trans (hbb'.mono hba.size)
      go_wp2_with (go_at_call 21; refine (HE'.out _ _ _ (hp4c.below hbb') hp6).mono ?_)
      rintro _ wc ⟨rfl, hbc'⟩
      go_wp2_with fail
      go_ret
      exact ⟨rfl, hbb.trans (hbc'.mono hbb.size)⟩
end Go.Proofs.YtofglikppppjoacDoor
namespace Go.Proofs.Pairs
open Go Go.ChangeShapes Go.WideShapes Go.ChangeAt Go.RowKit

/-- A slice of structs of two texts that is handed in: what it holds, and that it reads so in every world in which what was there is as it was. -/
theorem open_pairs {P : Program} {H : Type} {enc : TypeId × Value → H} {W : World} {b0 : Nat} {t e : TypeId} {f0 f1 : Field} {v : Value} {d : DataW H} {p : List MemPlace} (ht : P.underlying t = some (.slice e)) (he : P.underlying e = some (.struct #[f0, f1])) (ce : P.cellsOf e = 2) (o0 : f0.offset = 0) (o1 : f1.offset = 1)
    (s0 : P.underlying f0.type = some .string) (s1 : P.underlying f1.type = some .string) (c0 : P.cellsOf f0.type = 1) (c1 : P.cellsOf f1.type = 1)
    (hv : Value.okWide P W .any b0 t v) (h : DataW.Trod enc P W 0 (fun _ => true) true t v d p) :
    ∃ (a : Option Addr) (c : Nat) (xs : List (ByteArray × ByteArray)), v = .slice a xs.length c ∧ xs.length ≤ maxLen ∧ (∀ j, (xs.getD j (⟨#[]⟩, ⟨#[]⟩)).1.size ≤ maxLen ∧ (xs.getD j (⟨#[]⟩, ⟨#[]⟩)).2.size ≤ maxLen) ∧
      (0 < xs.length → ∃ b off : Nat, a = some ⟨b, off, none⟩ ∧ b < W.heap.size ∧ ∀ j, j < xs.length → W.cell? ⟨b, off + j * 2, none⟩ = some (.string (xs.getD j (⟨#[]⟩, ⟨#[]⟩)).1) ∧ W.cell? ⟨b, off + j * 2 + 1, none⟩ = some (.string (xs.getD j (⟨#[]⟩, ⟨#[]⟩)).2)) ∧
      (∀ W' : World, Below W.heap.size W W' → DataW.Trod enc P W' 0 (fun b => decide (b < W.heap.size)) true t v d p) := by
  obtain ⟨a0, len, cap, rfl⟩ := okWide_slice ht hv
  obtain ⟨fuel, hf⟩ := h
  rcases Deep.open_slice_pairs ht he ce o0 o1 c0 c1 hf with ⟨h0, hx⟩ | ⟨a, len', cap', m, n, V0, V1, D0, D1, P0, P1, hcs, _, hl, hm, hmm, hx, hcell⟩
  · simp [Value.cells] at h0
    obtain ⟨rfl, rfl, rfl⟩ := h0
    simp only [Prod.mk.injEq] at hx
    obtain ⟨rfl, rfl⟩ := hx
    exact ⟨none, 0, [], rfl, Nat.zero_le _, fun _ => ⟨Nat.zero_le _, Nat.zero_le _⟩, fun hx => absurd hx (Nat.lt_irrefl 0), fun W' _ => shut_slice_nil ht⟩
  · simp [Value.cells] at hcs
    obtain ⟨rfl, rfl, rfl⟩ := hcs
    simp only [Prod.mk.injEq] at hx
    obtain ⟨rfl, rfl⟩ := hx
    simp only [if_true] at hmm
    subst hmm
    obtain ⟨b, off, spot⟩ := a
    have hstr : ∀ i, i < m → ∃ q : ByteArray × ByteArray, V0 i = .string q.1 ∧ V1 i = .string q.2 ∧ q.1.size ≤ maxLen ∧ q.2.size ≤ maxLen ∧ D0 i = .lit (.string q.1.data.toList) ∧ D1 i = .lit (.string q.2.data.toList) ∧ P0 i = [] ∧ P1 i = [] := fun i hi => by
      obtain ⟨_, _, t0, t1⟩ := hcell i hi
      obtain ⟨x0, e0, y0, z0⟩ := DataW.trod_string s0 t0
      obtain ⟨x1, e1, y1, z1⟩ := DataW.trod_string s1 t1
      simp only [List.cons.injEq, and_true] at e0 e1
      simp only [Prod.mk.injEq] at y0 y1
      exact ⟨(x0, x1), e0, e1, z0, z1, y0.1, y1.1, y0.2, y1.2⟩
    obtain ⟨Q, hQ⟩ := Deep.choose_lt hstr
    have hcells : 0 < m → spot = none ∧ b < W.heap.size := fun h => by
      have h1 := (hcell 0 (by omega)).1
      have hsp : spot = none := by simpa [Addr.add] using World.cell?_spot h1
      subst hsp
      rw [add_plain] at h1
      exact ⟨rfl, World.block_lt_of_cell? _ _ h1⟩
    have hlen : ((List.range len).map Q).length = len := by rw [List.length_map, List.length_range]
    have hget : ∀ j, j < len → ((List.range len).map Q).getD j (⟨#[]⟩, ⟨#[]⟩) = Q j := fun j hj => by
      rw [List.getD_eq_getElem?_getD, List.getElem?_map, List.getElem?_range hj]
      rfl
    refine ⟨some ⟨b, off, spot⟩, m, (List.range len).map Q, by rw [hlen], by rw [hlen]; omega, fun j => ?_, fun hpos => ?_, fun W' hb => ?_⟩
    · by_cases hj : j < len
      · rw [hget j hj]; exact ⟨(hQ j (by omega)).2.2.1, (hQ j (by omega)).2.2.2.1⟩
      · rw [List.getD_eq_getElem?_getD, List.getElem?_eq_none (by rw [hlen]; omega)]; exact ⟨Nat.zero_le _, Nat.zero_le _⟩
    · rw [hlen] at hpos
      obtain ⟨rfl, hlt⟩ := hcells (by omega)
      refine ⟨b, off, rfl, hlt, fun j hj => ?_⟩
      rw [hlen] at hj
      obtain ⟨k0, k1, _, _⟩ := hcell j (by omega)
      rw [add_plain] at k0 k1
      rw [hget j hj, ← (hQ j (by omega)).1, ← (hQ j (by omega)).2.1]
      exact ⟨k0, by rw [Nat.add_assoc]; exact k1⟩
    · by_cases h0 : 0 < m
      · obtain ⟨rfl, hlt⟩ := hcells h0
        have := Deep.shut_slice_pairs_whole (enc := enc) (P := P) (w := W') (base := 0) (spare := fun b => decide (b < W.heap.size)) (held := true) (b := b) (off := off) (len := len) (cap := m) ht he ce o0 o1 c0 c1 (Nat.zero_le _) hl hm (by simpa using hlt) V0 V1 D0 D1 P0 P1
          (fun i hi => by have := (hcell i hi).1; rw [add_plain] at this; exact (hb.cell hlt).trans this)
          (fun i hi => by have := (hcell i hi).2.1; rw [add_plain] at this; exact (hb.cell hlt).trans (by rw [Nat.add_assoc]; exact this))
          (fun i hi => by
            obtain ⟨q0, _, q2, _, q4, _, q6, _⟩ := hQ i hi
            rw [q0, q4, q6]
            exact ⟨1, by simp [DataW.trod, s0, q2]⟩)
          (fun i hi => by
            obtain ⟨_, q1, _, q3, _, q5, _, q7⟩ := hQ i hi
            rw [q1, q5, q7]
            exact ⟨1, by simp [DataW.trod, s1, q3]⟩)
        obtain ⟨n, hn⟩ := this
        exact ⟨n, by simpa [Value.cells] using hn⟩
      · obtain rfl : m = 0 := by omega
        obtain rfl : len = 0 := by omega
        by_cases hlt : b < W.heap.size
        · have := Deep.shut_slice_whole_cells (enc := enc) (P := P) (w := W') (base := 0) (spare := fun b => decide (b < W.heap.size)) (held := true) (a := ⟨b, off, spot⟩) (len := 0) (cap := 0) ht (Nat.zero_le _) hl hm (by simpa using hlt) (fun i => .agg [D0 i, D1 i]) (fun _ => []) (fun i hi => absurd hi (Nat.not_lt_zero i))
          obtain ⟨n, hn⟩ := this
          exact ⟨n, by simpa [Value.cells] using hn⟩
        · have := Deep.shut_slice_cells (enc := enc) (P := P) (w := W') (base := 0) (spare := fun b => decide (b < W.heap.size)) (held := true) (a := ⟨b, off, spot⟩) (len := 0) (cap := 0) ht (Nat.zero_le _) hl hm (by simpa using hlt) (fun i => .agg [D0 i, D1 i]) (fun _ => []) (fun i hi => absurd hi (Nat.not_lt_zero i))
          obtain ⟨n, hn⟩ := this
          exact ⟨n, by simpa [Value.cells] using hn⟩
end Go.Proofs.Pairs
namespace Go.Proofs.YtofglikppppjoacDoor.fnExactClash
open Go.ChangeShapes Go.WideShapes Go.ChangeAt Go.RowKit Go.Proofs.Sha
open Go.ChangeMaps (open_string shut_string)

theorem own : ownKnob Tryd.prog.godebug = none := by kernel_rfl
theorem gTab : Tryd.prog.globalNamed "loop.example/s03048/impl.roundWords" = some 0 := by kernel_rfl
theorem gTabType : (Tryd.prog.globals[0]?).map (·.type) = some 160 := by kernel_rfl
theorem cellsTab : Tryd.prog.cellsOf 160 = 64 := by kernel_rfl
theorem cellsEl : Tryd.prog.cellsOf 113 = 1 := by kernel_rfl
def zs : List Int := kTab.map fun x => (x.toNat : Int)

/-- What the row's list gives: the table's cells hold its numbers. -/
theorem table {W : World} (h : laidMetH Tryd.prog Rows.fnExactClashRow.laid W) : Lib.TabIs Tryd.prog W "loop.example/s03048/impl.roundWords" .u32 zs :=
  Lib.tabIs_of_head (rest := []) gTab gTabType Tryd.underlying160 Tryd.underlying113 cellsEl cellsTab h
theorem tabCells {W : World} (h : laidMetH Tryd.prog Rows.fnExactClashRow.laid W) : ∀ j, j < 64 → W.cell? ⟨0, j, none⟩ = some (.int .u32 ((kTab.getD j 0).toNat : Int)) := fun j hj => by
  have h1 := (table h).cell gTab j (by exact hj)
  rw [h1]
  unfold zs
  rw [List.getD_eq_getElem?_getD, List.getElem?_map, List.getD_eq_getElem?_getD, List.getElem?_eq_getElem (by exact hj)]; rfl

def dat {H : Type} : DataW H := .agg (zs.map fun z => .lit (.int .u32 z))
/-- The table reads as itself, in whatever world. -/
theorem trod_tab {H : Type} (enc : TypeId × Value → H) (W : World) (sp : Nat → Bool) (hd : Bool) (n : Nat) : DataW.trod enc Tryd.prog W 0 sp hd (n + 2) 160 (kTab.map U) = some (dat, []) := by kernel_rfl
theorem trod_tab1 {H : Type} (enc : TypeId × Value → H) (W : World) (sp : Nat → Bool) (hd : Bool) : DataW.trod enc Tryd.prog W 0 sp hd 1 160 (kTab.map U) = none := by kernel_rfl

set_option maxRecDepth 100000 in
theorem contract (H : Type) (enc : TypeId × Value → H) (W : World) (base : Nat) (args : Array Value) (ds gs : List (DataW H)) (before : List MemPlace)
    (hval : ∀ (j : Nat) t v, Tryd.f6.params[j]? = some t → args[j]? = some v → Value.okWide Tryd.prog W .any base t v)
    (hW : DataW.Whole enc Tryd.prog Tryd.f6.params.toList Rows.fnExactClashSpec.vars false W args.toList ds gs before) (hL : laidMetH Tryd.prog Rows.fnExactClashRow.laid W) :
    Calls Tryd.prog 6 args W fun e W' => ∃ v, e = .returned v ∧ Rows.fnExactClashSpec.post enc Tryd.prog Tryd.f6 false true false false W args v W' := by
  have hW' := hW
  obtain ⟨p, q, hA0, hV, rfl, hfz, hnd⟩ := hW
  have hA : DataW.TrodAll enc Tryd.prog W 0 (fun _ => true) true Tryd.f6.params.toList args.toList ds p := hA0
  rw [Tryd.params6] at hA hval
  obtain ⟨v0, vs0, d0, ds0, p0, q0, hargs, rfl, rfl, h0, r0⟩ := trodAll_cons hA
  obtain ⟨v1, vs1, d1, ds1, p1, q1, rfl, rfl, rfl, h1, r1⟩ := trodAll_cons r0
  obtain ⟨v2, vs2, d2, ds2, p2, q2, rfl, rfl, rfl, h2, r2⟩ := trodAll_cons r1
  obtain ⟨rfl, rfl, rfl⟩ := trodAll_nil r2
  obtain rfl : args = #[v0, v1, v2] := by cases args; simp_all
  obtain ⟨x0, c0, s0, rfl, hs0, hm0, hx0, hz0⟩ := Pairs.open_pairs Tryd.underlying40 Tryd.underlying63 (by kernel_rfl) rfl rfl Tryd.underlying9 Tryd.underlying9 (by kernel_rfl) (by kernel_rfl) (hval 0 40 v0 rfl rfl) h0
  obtain ⟨x1, c1, s1, rfl, hs1, hm1, hx1, hz1⟩ := Pairs.open_pairs Tryd.underlying40 Tryd.underlying63 (by kernel_rfl) rfl rfl Tryd.underlying9 Tryd.underlying9 (by kernel_rfl) (by kernel_rfl) (hval 1 40 v1 rfl rfl) h1
  obtain ⟨k2, rfl, rfl, rfl, wk2⟩ := open_int Tryd.underlying3 (hval 2 3 v2 rfl rfl) h2
  obtain ⟨g, t, cs, fuel, d, p', rfl, hg, ht, hvar, hd, rfl⟩ := trodVars_one hV
  obtain rfl := Option.some.inj (gTab.symm.trans hg)
  obtain rfl := Option.some.inj (gTabType.symm.trans ht)
  have hcs : cs = (kTab.map U).toArray := Option.some.inj (hvar.symm.trans (table hL))
  subst hcs
  have hdd : d = dat ∧ p' = [] := by
    match fuel, hd with
    | 0, hd => simp [DataW.trod] at hd
    | 1, hd => rw [show (kTab.map U).toArray.toList = kTab.map U from rfl, trod_tab1] at hd; cases hd
    | n + 2, hd =>
      rw [show (kTab.map U).toArray.toList = kTab.map U from rfl, trod_tab] at hd
      cases hd
      exact ⟨rfl, rfl⟩
  obtain ⟨rfl, rfl⟩ := hdd
  have hcells := tabCells hL
  have hl0 : 0 < W.heap.size := World.block_lt_of_cell? W _ (hcells 0 (by omega))
  clear hA0
  refine (law_clash x0 s0 c0 x1 s1 c1 k2 W hs0 hm0 hx0 hs1 hm1 hx1 hcells).mono fun e W' ⟨he, hb⟩ => ?_
  subst he
  have hvar' : W'.var? Tryd.prog "loop.example/s03048/impl.roundWords" = some (kTab.map U).toArray := by
    unfold World.var? at hvar ⊢
    simp only [gTab, Option.bind_some] at hvar ⊢
    rw [hb.block 0 hl0]
    exact hvar
  exact ⟨_, rfl, ⟨_, _, _, [], _, MemPlace.row ⟨0, 0, none⟩ (kTab.map U).toArray.size ++ [], hW', trodAll_cons_mk (shut_bool Tryd.underlying4 _) trodAll_mk0, trodAll_cons_mk (hz0 W' hb) (trodAll_cons_mk (hz1 W' hb) (trodAll_cons_mk (shut_int Tryd.underlying3 wk2) trodAll_mk0)),
    trodVars_mk1 (fuel := 2) gTab gTabType hvar' (trod_tab enc W' _ _ 0), hb.frame _, fun h => by cases h⟩⟩

theorem laid_met (os : Os) : laidMet Tryd.prog Rows.fnExactClashRow.laid (World.forCall ({ World.holding Tryd.prog os ⟨#[], #[], []⟩ with heap := (World.holding Tryd.prog os ⟨#[], #[], []⟩).heap.modify 0 fun | .cells _ t frozen => .cells (kTab.map U).toArray t frozen | o => o }) (fun _ _ => 0) ⟨#[], #[.slice none 0 0, .slice none 0 0, .int .i64 0], []⟩).memory :=
  laidMet_of_run' 8 (by kernel_rfl) (by kernel_rfl)
theorem reads (os : Os) {H : Type} (enc : TypeId × Value → H) : ∃ places, DataW.whole enc Tryd.prog (World.forCall ({ World.holding Tryd.prog os ⟨#[], #[], []⟩ with heap := (World.holding Tryd.prog os ⟨#[], #[], []⟩).heap.modify 0 fun | .cells _ t frozen => .cells (kTab.map U).toArray t frozen | o => o }) (fun _ _ => 0) ⟨#[], #[.slice none 0 0, .slice none 0 0, .int .i64 0], []⟩).memory Tryd.f6.params.toList Rows.fnExactClashSpec.vars false #[Value.slice none 0 0, Value.slice none 0 0, Value.int .i64 0].toList 8 = some ([.nil, .nil, .lit (.int .i64 0)], [dat], places) :=
  ⟨MemPlace.row ⟨0, 0, none⟩ 64, by kernel_rfl⟩

set_option maxRecDepth 100000 in
theorem lifted (os : Os) (started : os.Started) (H : Type) (enc : TypeId × Value → H) (F : Stop.Interp) :
    ReturnsInHanded {} Tryd.checked os 6 .any ((OpenSpec.ofChange Rows.fnExactClashSpec).preRow enc Tryd.prog Tryd.f6 Rows.fnExactClashRow.domain false Rows.fnExactClashRow.laid) (((OpenSpec.ofChange Rows.fnExactClashSpec).at F).post enc Tryd.prog Tryd.f6 false true false false) := by
  obtain ⟨places, hx⟩ := reads os enc
  refine returnsInHanded_of_row (C := Tryd.checked) (s := OpenSpec.ofChange Rows.fnExactClashSpec) own started (by kernel_rfl) Tryd.func6
    (witness_row_at (enc := enc) (C := Tryd.checked) false ({ World.holding Tryd.prog os ⟨#[], #[], []⟩ with heap := (World.holding Tryd.prog os ⟨#[], #[], []⟩).heap.modify 0 fun | .cells _ t frozen => .cells (kTab.map U).toArray t frozen | o => o }) #[.slice none 0 0, .slice none 0 0, .int .i64 0] rfl (by kernel_rfl) (by kernel_rfl) (by kernel_rfl)
      (OpenSpec.preRow_of_cond 8 hx (by kernel_rfl) (fun k hk => by cases hk) (by kernel_rfl) (laid_met os))) ?_
  intro W base args ds gs before hval hW _ _ _ hL _ _
  exact contract H enc W base args ds gs before hval hW hL

theorem said : Rows.FnExactClashSaid :=
  OpenClaim.holds_of_cond 6 Tryd.f6 rfl rfl rfl rfl rfl rfl rfl ⟨rfl, rfl, rfl, rfl, rfl⟩ rfl rfl rfl rfl rfl (by kernel_rfl) Tryd.func6 (by kernel_rfl)
    (of_decide_eq_true (by kernel_rfl)) (by unfold Func.isWrapper; first | (rw [if_pos (by decide +kernel)]; kernel_rfl) | (rw [if_neg (by decide +kernel)]; exact ⟨rfl, rfl⟩))
    (fun os started H enc _ F => by rw [OpenClaim.pre_eq_preRow]; exact lifted os started H enc F)

theorem plain (f : FuncId) (fn : Func) (hf : Tryd.pinned.checked.prog.funcNamed "loop.example/s03048/laws.FnExactClash" = some f) (hfn : Tryd.pinned.checked.prog.funcs[f]? = some fn) :
    false = Tryd.pinned.checked.prog.looks [] ∧ ∀ (j : Nat) t, fn.params[j]? = some t → Tryd.pinned.checked.prog.wantsStandIn t = false := by
  obtain rfl : f = 6 := Option.some.inj ((show Tryd.prog.funcNamed "loop.example/s03048/laws.FnExactClash" = some 6 by kernel_rfl).symm.trans hf) |>.symm
  obtain rfl : fn = Tryd.f6 := (Option.some.inj (Tryd.func6.symm.trans hfn)).symm
  refine ⟨by kernel_rfl, fun j t ht => ?_⟩
  rw [Tryd.params6] at ht
  have hm : t ∈ [40, 40, 3] := by simpa using Array.mem_of_getElem? ht
  have hall : ([40, 40, 3].all fun u => !Tryd.prog.wantsStandIn u) = true := by kernel_rfl
  exact (show Tryd.prog.wantsStandIn t = false by simpa using List.all_eq_true.1 hall t hm)
end Go.Proofs.YtofglikppppjoacDoor.fnExactClash

namespace Go.Proofs.YtofglikppppjoacDoor
/-- The card. -/
theorem fnExactClash_card : Rows.FnExactClashCardSaid :=
  Claim7.holds_tied_plain_at .later [] _ _ _ _ fnExactClash.said (fun _ h => by cases h) (by kernel_rfl) (fun _ h => by cases h) fnExactClash_row_tie rfl ⟨rfl, rfl⟩ (by kernel_rfl) rfl fnExactClash.plain (by kernel_rfl)
#print axioms fnExactClash_card
end Go.Proofs.YtofglikppppjoacDoor
