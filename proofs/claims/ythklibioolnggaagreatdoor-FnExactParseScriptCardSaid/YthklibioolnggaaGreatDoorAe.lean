import Derived.Test.YthklibioolnggaaGreatDoorAd
namespace Go.Proofs.YthklibioolnggaaGreatDoor
open Go.RowKit Go.Proofs.Sha

set_option maxRecDepth 100000 in
set_option maxHeartbeats 400000 in
theorem wrapI_in (x : Int) (h : -9223372036854775808 ≤ x ∧ x ≤ 9223372036854775807) : IntKind.i64.wrap x = x := by rw [IntKind.wrap_i64]; omega
theorem digit_at (d : Nat) (hd : d < 10) (W : World) : (Instr.slice 9 (.string ⟨#[48, 49, 50, 51, 52, 53, 54, 55, 56, 57, 97, 98, 99, 100, 101, 102]⟩) (some (.int .i64 (d : Int))) (some (.int .i64 ((d : Int) + 1))) none).run Tryz.prog W = .ok (.string ⟨#[UInt8.ofNat (48 + d)]⟩) W := by
  rcases (show d = 0 ∨ d = 1 ∨ d = 2 ∨ d = 3 ∨ d = 4 ∨ d = 5 ∨ d = 6 ∨ d = 7 ∨ d = 8 ∨ d = 9 by omega) with rfl | rfl | rfl | rfl | rfl | rfl | rfl | rfl | rfl | rfl <;> kernel_rfl

set_option maxRecDepth 100000 in
set_option maxHeartbeats 400000 in
theorem sdown_any (u : Nat) : u ≤ 1000000000 → ∀ w : World, Calls Tryz.prog 51 #[.int .i64 (-(u : Int))] w fun e w' => e = .returned (.string ⟨(Lib.decDigits u).toArray⟩) ∧ ∃ m, w' = w.drewN m := by
  induction u using Nat.strongRecOn with
  | ind u ih =>
    intro hu w
    obtain ⟨d, hd⟩ : ∃ d, u % 10 = d := ⟨_, rfl⟩
    obtain ⟨q, hq⟩ : ∃ q, u / 10 = q := ⟨_, rfl⟩
    have hd9 : d < 10 := by omega
    have hq9 : q ≤ 100000000 := by omega
    obtain ⟨x, hx⟩ : ∃ x, UInt8.ofNat (48 + d) = x := ⟨_, rfl⟩
    have hsl := digit_at d hd9
    rw [hx] at hsl
    have z1 : (0 : Int) ≤ (d : Int) := by omega
    have z2 : (d : Int) ≤ (d : Int) + 1 := by omega
    have z3 : (d : Int) + 1 ≤ 16 := by omega
    have hwr : IntKind.i64.wrap ((d : Int) + 1) = (d : Int) + 1 := wrapI_in _ (by omega)
    have h1 : (-(u : Int)).tmod 10 = -(d : Int) := by rw [Int.neg_tmod, ← hd]; rfl
    have h2 : (-(u : Int)).tdiv 10 = -(q : Int) := by rw [Int.neg_tdiv, ← hq]; rfl
    by_cases hs : u < 10
    · have hv : Hid (Lib.decDigits u = [x]) := by show _ = _; rw [Lib.decDigits, dif_pos hs, ← hx]; congr 2; congr 1; omega
      have g : (-(u : Int)) > -10 := by omega
      clear ih hd hq hx
      go_enter Tryz.func51, Tryz.ntmps51
      go_wp2_with fail
      go_ret
      exact ⟨by rw [hv.out]; rfl, 0, rfl⟩
    · have ih' : Hid (∀ W : World, Calls Tryz.prog 51 #[.int .i64 (-(q : Int))] W fun e w' => e = .returned (.string ⟨(Lib.decDigits q).toArray⟩) ∧ ∃ m, w' = W.drewN m) := fun W => ih q (by omega) (by omega) W
      have g : ¬ ((-(u : Int)) > -10) := by omega
      have hv : Hid (Lib.decDigits u = Lib.decDigits q ++ [x]) := by show _ = _; rw [Lib.decDigits, dif_neg hs, hd, hq, hx]
      have hlen : Hid ((Lib.decDigits q).length ≤ 9) := dd_len 8 q (by omega)
      obtain ⟨Q, hQ⟩ : ∃ Q : ByteArray, (⟨(Lib.decDigits q).toArray⟩ : ByteArray) = Q := ⟨_, rfl⟩
      have hQs : Q.size ≤ 9 := by rw [← hQ]; show (Lib.decDigits q).toArray.size ≤ 9; simpa using hlen.out
      have hv' : Hid ((⟨(Lib.decDigits u).toArray⟩ : ByteArray) = Q ++ ⟨#[x]⟩) := by
        show _ = _
        rw [hv.out, ← hQ]; apply ByteArray.ext; simp
      rw [hQ] at ih'
      clear ih hd hq hv hlen hQ hx
      have hno : ¬ (9223372036854775807 < Q.size + 1) := by omega
      go_enter Tryz.func51, Tryz.ntmps51
      go_upto_region 4 with fail
      refine wp_region_held_drew (S := fun _ => True) (by kernel_rfl) trivial (fun hHeld => ?_)
      refine tkI 0 ?_
      simp only [Act.put, zq]
      refine tkI 1 ?_
      simp only [Act.put, zq]
      refine tkI 3 ?_
      simp only [Act.put, zq]
      refine tkI 4 ?_
      simp only [Act.put, zq]
      refine tkI 5 ?_
      simp only [Act.put, zq]
      refine tkH (i := 6) (v := .string ⟨#[x]⟩) rfl (Or.inl ⟨by rfl, ?_⟩) ?_
      · intro w hSw; go_simp; first | done | exact hsl w
      simp only [Act.put, zq]
      refine rdH 2 (fun K hK => ?_)
      go_simp
      rw [wrapI_in (-(q : Int)) (by omega)]
      refine (ih'.out _).mono ?_
      rintro e wb ⟨rfl, m1, rfl⟩
      go_simp
      refine hK.out _ _ trivial (fun hHeld => ?_)
      try simp only [Act.put, zq]
      refine tkI 7 ?_
      simp only [Act.put, zq]
      refine tkI 8 ?_
      simp only [Act.put, zq]
      refine wpAnyH_done (by kernel_rfl) ?_ _
      go_wp2_with fail
      go_ret
      exact ⟨by rw [hv'.out]; rfl, 1 + m1, by rw [← World.drewN_drewN]⟩

theorem show_any (u : Nat) (hu : u ≤ 1000000000) (w : World) : Calls Tryz.prog 32 #[.int .i64 (u : Int)] w fun e w' => e = .returned (.string ⟨(Lib.decDigits u).toArray⟩) ∧ ∃ m, w' = w.drewN m := by
  have H := sdown_any u hu
  have g : ¬ ((u : Int) < 0) := by omega
  have hw1 : wrap64 (-(u : Int)) = -(u : Int) := wr_in _ (by omega)
  obtain ⟨z, hz⟩ : ∃ z, (⟨(Lib.decDigits u).toArray⟩ : ByteArray) = z := ⟨_, rfl⟩
  rw [hz] at H ⊢
  clear hz
  go_enter Tryz.func32, Tryz.ntmps32
  go_wp2_with (first | (go_at_call 51; refine (H _).mono ?_; rintro e w1 ⟨rfl, m1, rfl⟩))
  go_ret
  exact ⟨rfl, m1, rfl⟩

theorem val_step {l : List UInt8} {k : Nat} (hk : k < l.length) : valD (l.take (k + 1)) = valD (l.take k) * 10 + ((l.getD k 0).toNat - 48) := by
  unfold valD
  rw [List.take_add_one, List.getElem?_eq_getElem hk, List.foldl_append, List.getD_eq_getElem?_getD, List.getElem?_eq_getElem hk]
  rfl
theorem all_stepD {l : List UInt8} {k : Nat} (hk : k < l.length) (h : (l.take k).all dgt = true) (hc : dgt (l.getD k 0) = true) : (l.take (k + 1)).all dgt = true := by
  rw [List.take_add_one, List.getElem?_eq_getElem hk, List.all_append, h]
  rw [List.getD_eq_getElem?_getD, List.getElem?_eq_getElem hk] at hc
  simpa using hc
theorem all_notD {l : List UInt8} {k : Nat} (hk : k < l.length) (hc : dgt (l.getD k 0) = false) : l.all dgt = false := by
  rw [List.getD_eq_getElem?_getD, List.getElem?_eq_getElem hk] at hc
  rw [← Bool.not_eq_true, List.all_eq_true]
  intro h
  have := h (l[k]) (List.getElem_mem hk)
  simp only [Option.getD_some] at hc
  rw [hc] at this; cases this

set_option maxRecDepth 100000 in
set_option maxHeartbeats 400000 in
theorem lnumber_any (s : ByteArray) (w : World) (hs : s.size ≤ 1048576) :
    Calls Tryz.prog 20 #[.string s] w fun e w' => e = .returned (.tuple #[.int .i64 (numS s.data.toList).1, .bool (numS s.data.toList).2]) ∧ ∃ m, w' = w.drewN m := by
  have hl : s.data.toList.length = s.size := rfl
  obtain ⟨i, hi⟩ : ∃ i, (numS s.data.toList).1 = i := ⟨_, rfl⟩
  obtain ⟨b, hb⟩ : ∃ b, (numS s.data.toList).2 = b := ⟨_, rfl⟩
  have hv : Hid (numS s.data.toList = (i, b)) := by show _ = _; rw [← hi, ← hb]
  rw [hi, hb]
  clear hi hb
  by_cases hm : s.data.toList = [45, 49]
  · have e0 : (s.toList == [45, 49]) = true := by rw [tl_eq, hm]; rfl
    have e1 : Hid (i = -1 ∧ b = true) := by
      have := hv.out
      simp only [numS, if_pos hm, Prod.mk.injEq] at this
      exact ⟨this.1.symm, this.2.symm⟩
    clear hv hm
    go_enter Tryz.func20, Tryz.ntmps20
    go_wp2_with fail
    go_ret2
    exact ⟨by rw [e1.out.1, e1.out.2]; rfl, 0, rfl⟩
  · have e0 : (s.toList == [45, 49]) = false := by rw [tl_eq, beq_eq_false_iff_ne]; exact hm
    by_cases h1 : s.size < 1
    · have h1' : (s.size : Int) < 1 := by omega
      have e1 : Hid (i = 0 ∧ b = false) := by
        have := hv.out
        simp only [numS, if_neg hm, if_pos (show s.data.toList.length < 1 ∨ 8 < s.data.toList.length by omega), Prod.mk.injEq] at this
        exact ⟨this.1.symm, this.2.symm⟩
      clear hv hm
      go_enter Tryz.func20, Tryz.ntmps20
      go_wp2_with fail
      go_ret2
      exact ⟨by rw [e1.out.1, e1.out.2]; rfl, 0, rfl⟩
    · have h1' : ¬ ((s.size : Int) < 1) := by omega
      by_cases h8 : 8 < s.size
      · have h8' : (s.size : Int) > 8 := by omega
        have e1 : Hid (i = 0 ∧ b = false) := by
          have := hv.out
          simp only [numS, if_neg hm, if_pos (show s.data.toList.length < 1 ∨ 8 < s.data.toList.length by omega), Prod.mk.injEq] at this
          exact ⟨this.1.symm, this.2.symm⟩
        clear hv hm
        go_enter Tryz.func20, Tryz.ntmps20
        go_wp2_with fail
        go_ret2
        exact ⟨by rw [e1.out.1, e1.out.2]; rfl, 0, rfl⟩
      · have h8' : ¬ ((s.size : Int) > 8) := by omega
        have hv' : Hid ((if s.data.toList.all dgt = true then (((valD s.data.toList : Nat) : Int), decide (Lib.decDigits (valD s.data.toList) = s.data.toList)) else (0, false)) = (i, b)) := by
          have := hv.out
          simp only [numS, if_neg hm, if_neg (show ¬ (s.data.toList.length < 1 ∨ 8 < s.data.toList.length) by omega)] at this
          exact this
        clear hv hm
        go_enter Tryz.func20, Tryz.ntmps20
        go_wp2_with fail
        go_loopw [4, 5] (fun t4 t5 wr => ∃ k n : Nat, k ≤ s.size ∧ n ≤ 99999999 ∧ t5 = .int .i64 (k : Int) ∧ t4 = .int .i64 (n : Int) ∧ Hid (valD (s.data.toList.take k) = n) ∧ Hid ((s.data.toList.take k).all dgt = true) ∧ wr = w) (fun _ t _ => s.size - (intOf t).toNat)
        case atStart => exact ⟨0, 0, by omega, by omega, rfl, rfl, rfl, rfl, rfl⟩
        case round =>
          obtain ⟨k, n, hk, hn, rfl, rfl, HV, HL, rfl⟩ := hrel
          by_cases hlt : k < s.size
          · have z1 : (0 : Int) ≤ (k : Int) := by omega
            have z2 : (k : Int) < (s.size : Int) := by omega
            have HE := all_stepD (l := s.data.toList) hlt HL.out
            have HN := all_notD (l := s.data.toList) (k := k) hlt
            have HS := val_step (l := s.data.toList) hlt
            rw [HV.out] at HS
            have HB : Hid (∀ hc : (s.data.toList.take (k + 1)).all dgt = true, valD (s.data.toList.take (k + 1)) ≤ 99999999) := fun hc => valD_lt _ hc (by rw [List.length_take]; omega)
            have hx := bget s k hlt
            obtain ⟨x, hx2⟩ : ∃ x, s.data.toList.getD k 0 = x := ⟨_, rfl⟩
            rw [hx2] at HE HN hx HS
            have HS : Hid _ := HS
            clear HL HV hx2
            by_cases g1 : x.toNat < 48
            · have c1 : ((x.toNat : Int) < 48) := by omega
              have e1 : Hid (i = 0 ∧ b = false) := by
                have := hv'.out
                simp only [HN (by simp [dgt]; omega), Bool.false_eq_true, if_false, Prod.mk.injEq] at this
                exact ⟨this.1.symm, this.2.symm⟩
              clear HE HN hv' HB
              go_wp2_with fail
              go_ret2
              exact ⟨by rw [e1.out.1, e1.out.2]; rfl, 0, rfl⟩
            · have c1 : ¬ ((x.toNat : Int) < 48) := by omega
              by_cases g2 : 57 < x.toNat
              · have c2 : ((x.toNat : Int) > 57) := by omega
                have e1 : Hid (i = 0 ∧ b = false) := by
                  have := hv'.out
                  simp only [HN (by simp [dgt]; omega), Bool.false_eq_true, if_false, Prod.mk.injEq] at this
                  exact ⟨this.1.symm, this.2.symm⟩
                clear HE HN hv' HB
                go_wp2_with fail
                go_ret2
                exact ⟨by rw [e1.out.1, e1.out.2]; rfl, 0, rfl⟩
              · have c2 : ¬ ((x.toNat : Int) > 57) := by omega
                have HE' := HE (by simp [dgt]; omega)
                have hle := HB.out HE'
                have hnv : valD (s.data.toList.take (k + 1)) = n * 10 + (x.toNat - 48) := HS.out
                have hle2 : n * 10 + (x.toNat - 48) ≤ 99999999 := by rw [← hnv]; exact hle
                have HE' : Hid ((s.data.toList.take (k + 1)).all dgt = true) := HE'
                have hnv : Hid (valD (s.data.toList.take (k + 1)) = n * 10 + (x.toNat - 48)) := hnv
                clear HE HN HB HS hle
                go_wp2_with fail
                go_roundw
                case rel => exact ⟨k + 1, n * 10 + (x.toNat - 48), by omega, hle2, by go_num, by congr 1; omega, hnv, HE', by first | rfl | trivial⟩
                case measure => simp [intOf]; omega
          · have hk2 : k = s.size := by omega
            subst hk2
            have h1 := HL.out
            have h2 := HV.out
            rw [← hl, List.take_length] at h1 h2
            have hv'' := hv'.out
            rw [if_pos h1, h2, Prod.mk.injEq] at hv''
            obtain ⟨rfl, hbv⟩ := hv''
            have hbv : Hid (decide (Lib.decDigits n = s.data.toList) = b) := hbv
            have HSH : Hid (∀ W, Calls Tryz.prog 32 #[.int .i64 (n : Int)] W fun e w' => e = .returned (.string ⟨(Lib.decDigits n).toArray⟩) ∧ ∃ m, w' = W.drewN m) := fun W => show_any n (by omega) W
            clear HL HV h1 h2 hv' hk hlt
            go_wp2_with (first | (go_at_call 32; refine (HSH.out _).mono ?_; rintro e w1 ⟨rfl, m1, rfl⟩))
            go_ret2
            refine ⟨?_, m1, rfl⟩
            rw [← hbv.out]
            have e : (Lib.decDigits n == s.data.toList) = decide (Lib.decDigits n = s.data.toList) := by rw [Bool.eq_iff_iff]; simp
            simp only [tl_eq]
            rw [e]
            simp

end Go.Proofs.YthklibioolnggaaGreatDoor
