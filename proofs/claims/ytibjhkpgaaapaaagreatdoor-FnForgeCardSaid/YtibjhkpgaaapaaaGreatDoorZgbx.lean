import Derived.Test.YtibjhkpgaaapaaaGreatDoorZgas
import Derived.Test.YtibjhkpgaaapaaaGreatDoorZgbm
import Derived.Test.YtibjhkpgaaapaaaGreatDoorZgbi
import Derived.Test.YtibjhkpgaaapaaaGreatDoorZgbw
import Derived.Test.YtibjhkpgaaapaaaGreatDoorZgbf
import Derived.Test.YtibjhkpgaaapaaaGreatDoorZgbr
import Derived.Test.YtibjhkpgaaapaaaGreatDoorZgah
import Derived.ProofKit
import Derived.OpenShut
import Derived.ChangeSlices
import Derived.Test.YtibjhkpgaaapaaaGreatDoorCards
import Derived.Test.YtibjhkpgaaapaaaGreatDoorTie
import Derived.Deep.DeepHandedRow
import Derived.Lib.LaidTab
set_option maxRecDepth 100000
set_option maxHeartbeats 4000000
namespace Go.Proofs.YtibjhkpgaaapaaaGreatDoor
open Go.RowKit Go.Proofs.Sha

theorem wsame_any (a b : Option Addr) (ps qs : List PairT) (c d : Nat) (w : World) (h : PArg a ps w) (h' : PArg b qs w) :
    Calls Tryz.prog 22 #[.slice a ps.length c, .slice b qs.length d] w fun e w' => e = .returned (.bool (decide (ps = qs))) ∧ Below w.heap.size w w' := by
  have hn := h.le
  have hm := h'.le
  obtain ⟨R, hR⟩ : ∃ R, decide (ps = qs) = R := ⟨_, rfl⟩
  rw [hR]
  have HR : Hid (decide (ps = qs) = R) := hR
  clear hR
  obtain ⟨N, hN⟩ : ∃ N, ps.length = N := ⟨_, rfl⟩
  obtain ⟨M, hM⟩ : ∃ M, qs.length = M := ⟨_, rfl⟩
  rw [hN] at hn ⊢
  rw [hM] at hm ⊢
  by_cases hNM : N = M
  · subst hNM
    have hNl : Hid (ps.length = N) := hN
    have hMl : Hid (qs.length = N) := hM
    clear hN hM
    go_enter Tryz.func22, Tryz.ntmps22
    go_wp2_with fail
    go_loopw [5] (fun t wr => ∃ k : Nat, k ≤ N ∧ t = .int .i64 (k : Int) ∧ Hid (ps.take k = qs.take k) ∧ Below w.heap.size w wr) (fun t _ => N - (intOf t).toNat)
    case atStart => exact ⟨0, Nat.zero_le _, rfl, rfl, Below.refl _ _⟩
    case round =>
      obtain ⟨k, hk, rfl, hsame, hbw⟩ := hrel
      by_cases hlt : k < N
      · have z1 : decide ((k : Int) < (N : Int)) = true := by simp; omega
        have hx0 : (0 : Int) ≤ (k : Int) := Int.natCast_nonneg _
        have hx1 : (k : Int) < (N : Int) := by omega
        obtain ⟨b1, off1, rfl, hbl1, hc⟩ := (h.below hbw).at_ (by rw [hNl.out]; omega)
        obtain ⟨b2, off2, rfl, hbl2, hd⟩ := (h'.below hbw).at_ (by rw [hMl.out]; omega)
        obtain ⟨hc1, hc2⟩ := hc k (by rw [hNl.out]; exact hlt)
        obtain ⟨hd1, hd2⟩ := hd k (by rw [hMl.out]; exact hlt)
        have hkl : k < ps.length := by rw [hNl.out]; exact hlt
        have hkm : k < qs.length := by rw [hMl.out]; exact hlt
        have g1 := getD_lt ps k hkl
        have g2 := getD_lt qs k hkm
        have hstep : ps.getD k noPair = qs.getD k noPair → ps.take (k + 1) = qs.take (k + 1) := fun e => by
          rw [List.take_succ_eq_append_getElem hkl, List.take_succ_eq_append_getElem hkm, hsame.out, ← g1, ← g2, e]
        have hneq : ps.getD k noPair ≠ qs.getD k noPair → R = false := fun e => by
          rw [← HR.out]
          exact decide_eq_false fun q => e (by rw [q])
        clear g1 g2 hkl hkm hc hd
        obtain ⟨x, hx⟩ : ∃ x, ps.getD k noPair = x := ⟨_, rfl⟩
        obtain ⟨y, hy⟩ : ∃ y, qs.getD k noPair = y := ⟨_, rfl⟩
        rw [hx] at hc1 hc2
        rw [hy] at hd1 hd2
        rw [hx, hy] at hstep hneq
        clear hx hy
        obtain ⟨xk, xv⟩ := x
        obtain ⟨yk, yv⟩ := y
        dsimp only at hc1 hc2 hd1 hd2
        replace hstep : Hid _ := hstep
        replace hneq : Hid _ := hneq
        cases v1 : (xk.toList == yk.toList) with
        | false =>
          have hRf : Hid (R = false) := hneq.out (fun e => by
            have : xk = yk := congrArg Prod.fst e
            subst this
            rw [beq_self_eq_true] at v1
            cases v1)
          clear hstep hneq HR hsame
          go_wp2_with fail
          go_quiet (fail)
          go_wp2_with fail
          go_ret
          exact ⟨by rw [hRf.out]; rfl, below_draws nq hbw⟩
        | true =>
          cases v2 : (xv.toList == yv.toList) with
          | false =>
            have hRf : Hid (R = false) := hneq.out (fun e => by
              have : xv = yv := congrArg Prod.snd e
              subst this
              rw [beq_self_eq_true] at v2
              cases v2)
            clear hstep hneq HR hsame
            go_wp2_with fail
            go_quiet (fail)
            go_wp2_with fail
            go_ret
            exact ⟨by rw [hRf.out]; rfl, below_draws nq hbw⟩
          | true =>
            have e1 : xk = yk := ByteArray.ext (Array.toList_inj.1 (by rw [beq_iff_eq, ByteArray.toList_eq, ByteArray.toList_eq] at v1; exact v1))
            have e2 : xv = yv := ByteArray.ext (Array.toList_inj.1 (by rw [beq_iff_eq, ByteArray.toList_eq, ByteArray.toList_eq] at v2; exact v2))
            have hs' : Hid (ps.take (k + 1) = qs.take (k + 1)) := hstep.out (by rw [e1, e2])
            clear hstep hneq HR hsame e1 e2
            go_wp2_with fail
            go_quiet (fail)
            go_wp2_with fail
            go_roundw
            case rel => exact ⟨k + 1, hlt, by go_num, hs', below_draws nq hbw⟩
            case measure => simp [intOf]; omega
      · obtain rfl : k = N := by omega
        have z1 : decide ((k : Int) < (k : Int)) = false := by simp
        have hRt : Hid (R = true) := by
          show R = true
          rw [← HR.out, decide_eq_true_eq]
          have e := hsame.out
          rw [List.take_of_length_le (by rw [hNl.out]; exact Nat.le_refl _), List.take_of_length_le (by rw [hMl.out]; exact Nat.le_refl _)] at e
          exact e
        clear hsame HR
        go_wp2_with fail
        go_ret
        exact ⟨by rw [hRt.out]; rfl, hbw⟩
  · have z0 : ((N : Int) != (M : Int)) = true := by rw [bne_iff_ne]; omega
    have hRf : Hid (R = false) := by
      show R = false
      rw [← HR.out]
      exact decide_eq_false fun e => hNM (by rw [← hN, ← hM, e])
    clear HR hN hM
    go_enter Tryz.func22, Tryz.ntmps22
    go_wp2_with fail
    go_ret
    exact ⟨by rw [hRf.out]; rfl, Below.refl _ _⟩

/-- The pairs that are shown, if a proof is accepted. -/
def shR (lo hi : ByteArray) : Option PT → List PairT
  | some t => shP lo hi t
  | none => []
theorem smallP_nil5 : SmallP [] := ⟨Nat.zero_le _, fun _j => ⟨Nat.zero_le _, Nat.zero_le _⟩⟩
/-- What both Verify answer. -/
def VrG (A : List PairT) (ok : Bool) (w : World) (e : Ending) (w' : World) : Prop := ∃ a c, e = .returned (.tuple #[.slice a A.length c, .bool ok]) ∧ PArg a A w' ∧ Below w.heap.size w w'
theorem sver_any (n : Int) (root lo hi s : ByteArray) (w : World) (hs : s.size ≤ 1048576) (hr : root.size ≤ 1048576) (hlo : lo.size ≤ 1048576) (hhi : hi.size ≤ 1048576) :
    Calls Tryz.prog 16 #[.int .i64 n, .string root, .string lo, .string hi, .string s] w (VrG (shR lo hi (accP n root lo hi s)) (accP n root lo hi s).isSome w) := by
  refine (sverify_any n root lo hi s w hs hr hlo hhi).mono ?_
  cases hR : accP n root lo hi s with
  | none =>
    rintro e w' ⟨_, h2, hb⟩
    obtain ⟨a, he, ho⟩ := h2 rfl
    exact ⟨a, 0, he, own2_parg (ps := []) ho smallP_nil5, hb⟩
  | some t =>
    rintro e w' ⟨h1, _, hb⟩
    obtain ⟨a, c, he, ho⟩ := h1 t rfl
    exact ⟨a, c, he, own2_parg ho (shP_smallP lo hi hR).1, hb⟩
theorem iver_any (n : Int) (root lo hi s : ByteArray) (w : World) (hs : s.size ≤ 1048576) (hr : root.size ≤ 1048576) (hK : KT w) :
    Calls Tryz.prog 17 #[.int .i64 n, .string root, .string lo, .string hi, .string s] w (VrG (shR lo hi (accP n root lo hi s)) (accP n root lo hi s).isSome w) := by
  refine (iverify_any n root lo hi s w hs hr hK).mono ?_
  cases hR : accP n root lo hi s with
  | none =>
    rintro e w' ⟨_, h2, hb⟩
    exact ⟨none, 0, h2 rfl, ⟨smallP_nil5.1, smallP_nil5.2, fun q => by cases q⟩, hb⟩
  | some t =>
    rintro e w' ⟨h1, _, hb⟩
    obtain ⟨a, c, he, ho⟩ := h1 t rfl
    exact ⟨a, c, he, own2_parg ho (shP_smallP lo hi hR).1, hb⟩
theorem txt_list5 (e : ByteArray) : (txt e).data.toList = 78 :: e.data.toList := by
  unfold txt
  rw [ByteArray.data_append]
  simp
theorem txt_ne5 {a b : ByteArray} (h : a ≠ b) : txt a ≠ txt b := fun e => h (by
  have := congrArg (fun t : ByteArray => t.data.toList) e
  simp only [txt_list5, List.cons.injEq, true_and] at this
  exact ByteArray.ext (Array.toList_inj.1 this))
theorem dig_txt5 (e : ByteArray) (n : Nat) : (⟨((sha (txt e).data.toList).take n).toArray⟩ : ByteArray) = digB e n := by rw [txt_list5]; rfl
/-- What is asked of Extract. -/
theorem ex_cases (n : Int) (root lo hi s1 s2 : ByteArray) :
    (exV (exR n lo hi (accP n root lo hi s1) (accP n root lo hi s2)) = .tuple #[.string ⟨#[]⟩, .string ⟨#[]⟩, .bool false] ∧ ((accP n root lo hi s1).isSome = false ∨ (accP n root lo hi s2).isSome = false ∨ shR lo hi (accP n root lo hi s1) = shR lo hi (accP n root lo hi s2))) ∨
    ((accP n root lo hi s1).isSome = true ∧ (accP n root lo hi s2).isSome = true ∧ shR lo hi (accP n root lo hi s1) ≠ shR lo hi (accP n root lo hi s2) ∧ ∃ t1 t2 dg : ByteArray, exV (exR n lo hi (accP n root lo hi s1) (accP n root lo hi s2)) = .tuple #[.string t1, .string t2, .bool true] ∧ t1 ≠ t2 ∧ ∀ w,
      Calls Tryz.prog 23 #[.string t1, .int .i64 n] w (fun e w' => e = .returned (.string dg) ∧ Below w.heap.size w w') ∧ Calls Tryz.prog 23 #[.string t2, .int .i64 n] w (fun e w' => e = .returned (.string dg) ∧ Below w.heap.size w w')) := by
  cases h1 : accP n root lo hi s1 with
  | none => exact .inl ⟨rfl, .inl rfl⟩
  | some s =>
    cases h2 : accP n root lo hi s2 with
    | none => exact .inl ⟨rfl, .inr (.inl rfl)⟩
    | some t =>
      by_cases hd : shP lo hi s = shP lo hi t
      · refine .inl ⟨?_, .inr (.inr hd)⟩
        have hx : exR n lo hi (some s) (some t) = none := if_pos hd
        rw [hx]
        rfl
      · refine .inr ⟨rfl, rfl, hd, ?_⟩
        obtain ⟨a, b, he, hne, hdg, ha, hb⟩ := exR_ok h1 h2 hd
        have hw0 : 1 ≤ n ∧ n ≤ 32 := by
          unfold accP at h1
          split at h1
          · rename_i hw
            unfold isW at hw
            simp only [Bool.and_eq_true, decide_eq_true_eq] at hw
            exact hw.1
          · cases h1
        obtain ⟨m, rfl⟩ : ∃ m : Nat, n = (m : Int) := ⟨n.toNat, by omega⟩
        have hw : 1 ≤ m ∧ m ≤ 32 := by omega
        rw [Int.toNat_natCast] at hdg
        rw [he]
        refine ⟨txt a, txt b, digB a m, rfl, txt_ne5 hne, fun w => ⟨?_, ?_⟩⟩
        · have := sdig_yes (txt a) m w (by unfold txt; rw [ByteArray.size_append]; show 1 + _ ≤ _; omega) hw.1 hw.2
          rw [dig_txt5] at this
          exact this
        · have := sdig_yes (txt b) m w (by unfold txt; rw [ByteArray.size_append]; show 1 + _ ≤ _; omega) hw.1 hw.2
          rw [dig_txt5, ← hdg] at this
          exact this
theorem forge_walk (a : Option Addr) (L cap : Nat) (w : World) (hL : L ≤ 1048576) (hK : KT w) (HD0 : Calls Tryz.prog 21 #[.slice a L cap] w (DxG w)) :
    Calls Tryz.prog 6 #[.slice a L cap] w fun e w' => e = .returned (.bool true) ∧ Below w.heap.size w w' := by
  have z0 : decide ((1048576 : Int) < (L : Int)) = false := by simp; omega
  have HD1 := fun (_ : Unit) => HD0
  have HD : Hid _ := HD1
  unfold DxG at HD
  clear HD1
  clear HD0
  have hKh : Hid (KT w) := hK
  clear hK
  go_enter Tryz.func6, Tryz.ntmps6
  go_upto_region 4 with (first | (go_at_call 21; refine (HD.out ()).mono ?_; rintro e w1 ⟨n, root, lo, hi, one, two, rfl, hr, hlo, hhi, h1, h2, hb1⟩))
  have hK1 : Hid (KT w1) := hKh.out.below hb1
  have HX := ex_cases n root lo hi one two
  have HE := fun w' hk => iextract_any n root lo hi one two w' (by omega) (by omega) (by omega) hk
  have HS1 := fun w' => sver_any n root lo hi one w' (by omega) (by omega) (by omega) (by omega)
  have HS2 := fun w' => sver_any n root lo hi two w' (by omega) (by omega) (by omega) (by omega)
  have HI1 := fun w' hk => iver_any n root lo hi one w' (by omega) (by omega) hk
  have HI2 := fun w' hk => iver_any n root lo hi two w' (by omega) (by omega) hk
  generalize exV (exR n lo hi (accP n root lo hi one) (accP n root lo hi two)) = EV at HX HE
  generalize shR lo hi (accP n root lo hi one) = A at HX HS1 HI1
  generalize shR lo hi (accP n root lo hi two) = B at HX HS2 HI2
  generalize (accP n root lo hi one).isSome = o1 at HX HS1 HI1
  generalize (accP n root lo hi two).isSome = o2 at HX HS2 HI2
  unfold VrG at HS1 HS2 HI1 HI2
  have W1 : Hid (∀ p q c d w', PArg p A w' → PArg q A w' → Calls Tryz.prog 22 #[.slice p A.length c, .slice q A.length d] w' fun e w'' => e = .returned (.bool true) ∧ Below w'.heap.size w' w'') := fun p q c d w' x y => by have := wsame_any p q A A c d w' x y; rw [decide_eq_true rfl] at this; exact this
  have W2 : Hid (∀ p q c d w', PArg p B w' → PArg q B w' → Calls Tryz.prog 22 #[.slice p B.length c, .slice q B.length d] w' fun e w'' => e = .returned (.bool true) ∧ Below w'.heap.size w' w'') := fun p q c d w' x y => by have := wsame_any p q B B c d w' x y; rw [decide_eq_true rfl] at this; exact this
  have W3 : Hid (∀ p q c d w', PArg p A w' → PArg q B w' → Calls Tryz.prog 22 #[.slice p A.length c, .slice q B.length d] w' fun e w'' => e = .returned (.bool (decide (A = B))) ∧ Below w'.heap.size w' w'') := fun p q c d w' x y => wsame_any p q A B c d w' x y
  obtain ⟨NA, hNA⟩ : ∃ N, A.length = N := ⟨_, rfl⟩
  obtain ⟨NB, hNB⟩ : ∃ N, B.length = N := ⟨_, rfl⟩
  rw [hNA] at HS1 HI1 W1
  rw [hNB] at HS2 HI2 W2
  rw [hNA, hNB] at W3
  replace HE : Hid _ := HE
  replace HS1 : Hid _ := HS1
  replace HS2 : Hid _ := HS2
  replace HI1 : Hid _ := HI1
  replace HI2 : Hid _ := HI2
  replace HX : Hid _ := HX
  clear hNA hNB hr hlo hhi h1 h2 HD hKh
  go_upto_region 5 with (first | (go_at_call 16; refine (HS1.out _).mono ?_; rintro e w2 ⟨a1, c1, rfl, hp1', hb2'⟩))
  have hb2 := hb1.trans (hb2'.mono hb1.size)
  have hK2 : Hid (KT w2) := hK1.out.below hb2'
  clear hb2' hK1 hb1
  go_upto_region 6 with (first | (go_at_call 16; refine (HS2.out _).mono ?_; rintro e w3 ⟨a2, c2, rfl, hp2', hb3'⟩))
  have hp1'' := hp1'.below hb3'
  have hb3 := hb2.trans (hb3'.mono hb2.size)
  have hK3 : Hid (KT w3) := hK2.out.below hb3'
  clear hb3' hK2 hb2 hp1'
  go_upto_region 7 with (first | (go_at_call 17; refine (HI1.out _ hK3.out).mono ?_; rintro e w4 ⟨a3, c3, rfl, hp3', hb4'⟩))
  have hp1''' := hp1''.below hb4'
  have hp2'' := hp2'.below hb4'
  have hb4 := hb3.trans (hb4'.mono hb3.size)
  have hK4 : Hid (KT w4) := hK3.out.below hb4'
  clear hb4' hK3 hb3 hp1'' hp2'
  go_upto_region 8 with (first | (go_at_call 17; refine (HI2.out _ hK4.out).mono ?_; rintro e w5 ⟨a4, c4, rfl, hp4, hb5'⟩))
  have hp1 := hp1'''.below hb5'
  have hp2 := hp2''.below hb5'
  have hp3 := hp3'.below hb5'
  have hb5 := hb4.trans (hb5'.mono hb4.size)
  have hK5 : Hid (KT w5) := hK4.out.below hb5'
  clear hb5' hK4 hb4 hp1''' hp2'' hp3' HS1 HS2 HI1 HI2
  have y1 : (o1 != o1) = false := by simp
  have y2 : (o2 != o2) = false := by simp
  go_upto_region 10 with (first | (go_at_call_of 22 (Value.slice a3 NA c3); refine (W1.out _ _ _ _ _ hp3 hp1).mono ?_; rintro e w6 ⟨rfl, hb6⟩) | (go_at_call_of 22 (Value.slice a4 NB c4); refine (W2.out _ _ _ _ _ (hp4.below hb6) (hp2.below hb6)).mono ?_; rintro e w7 ⟨rfl, hb7'⟩))
  have hb57 := hb6.trans (hb7'.mono hb6.size)
  have hp17 := hp1.below hb57
  have hp27 := hp2.below hb57
  have hb7 := hb5.trans (hb57.mono hb5.size)
  have hK7 : Hid (KT w7) := hK5.out.below hb57
  clear hb7' hb6 hb57 hp1 hp2 hp3 hp4 hK5 hb5 W1 W2 y1 y2
  rcases HX.out with ⟨hE, hC⟩ | ⟨rfl, rfl, hne, t1, t2, dg, hE, hte, hDg⟩
  · rw [hE] at HE
    go_upto_region 11 with (first | (go_at_call 10; refine (HE.out _ hK7.out).mono ?_; rintro e w8 ⟨rfl, hb8'⟩))
    have hp18 := hp17.below hb8'
    have hp28 := hp27.below hb8'
    have hb8 := hb7.trans (hb8'.mono hb7.size)
    clear hb8' hp17 hp27 hb7 HE hE HX hK7
    cases o1 with
    | false =>
      go_wp2_with fail
      go_ret
      exact ⟨rfl, hb8⟩
    | true =>
      cases o2 with
      | false =>
        go_wp2_with fail
        go_ret
        exact ⟨rfl, hb8⟩
      | true =>
        have hAB : A = B := by
          rcases hC with h | h | h
          · cases h
          · cases h
          · exact h
        rw [decide_eq_true hAB] at W3
        clear hC
        go_wp2_with (first | (go_at_call 22; refine (W3.out _ _ _ _ _ hp18 hp28).mono ?_; rintro e w9 ⟨rfl, hb9⟩))
        go_ret
        exact ⟨rfl, hb8.trans (hb9.mono hb8.size)⟩
  · rw [hE] at HE
    have zt : (t1.toList == t2.toList) = false := by rw [ba_eq, decide_eq_false hte]
    have zd2 : (dg.toList == dg.toList) = true := by rw [ba_eq, decide_eq_true rfl]
    rw [decide_eq_false hne] at W3
    replace hDg : Hid _ := hDg
    clear hte hne
    go_upto_region 11 with (first | (go_at_call 10; refine (HE.out _ hK7.out).mono ?_; rintro e w8 ⟨rfl, hb8'⟩))
    have hp18 := hp17.below hb8'
    have hp28 := hp27.below hb8'
    have hb8 := hb7.trans (hb8'.mono hb7.size)
    clear hb8' hp17 hp27 hb7 HE hE HX hK7
    go_wp2_with (first | (go_at_call 22; refine (W3.out _ _ _ _ _ hp18 hp28).mono ?_; rintro e w9 ⟨rfl, hb9'⟩; have hb9 := hb8.trans (hb9'.mono hb8.size)) | (go_at_call_of 23 (Value.string t1); refine (hDg.out _).1.mono ?_; rintro e w10 ⟨rfl, hb10'⟩; have hb10 := hb9.trans (hb10'.mono hb9.size)) | (go_at_call_of 23 (Value.string t2); refine (hDg.out _).2.mono ?_; rintro e w11 ⟨rfl, hb11'⟩; have hb11 := hb10.trans (hb11'.mono hb10.size)))
    go_ret
    exact ⟨rfl, hb11⟩
theorem law_fnforge (a : Option Addr) (xs : List Int) (c : Nat) (w : World) (_hl : xs.length ≤ maxLen) (hw : ∀ x ∈ xs, (Lit.int .u8 x).wf = true)
    (h : 0 < xs.length → ∃ b off : Nat, a = some ⟨b, off, none⟩ ∧ b < w.heap.size ∧ ∀ j, j < xs.length → w.cell? ⟨b, off + j, none⟩ = some (.int .u8 (xs.getD j 0)))
    (hK : ∀ j, j < 64 → w.cell? ⟨0, j, none⟩ = some (.int .u32 ((kTab.getD j 0).toNat : Int))) :
    Calls Tryz.prog 6 #[.slice a xs.length c] w fun e w' => e = .returned (.bool true) ∧ Below w.heap.size w w' := by
  by_cases g1 : 1048576 < xs.length
  · have z1 : decide ((1048576 : Int) < (xs.length : Int)) = true := by simp; omega
    clear hw h hK
    go_enter Tryz.func6, Tryz.ntmps6
    go_wp2_with fail
    go_ret
    exact ⟨rfl, Below.refl _ _⟩
  obtain ⟨ys, hyl, hX, hB⟩ := BL.of (by omega) hw h
  rw [← hyl]
  exact forge_walk a ys.length c w hX.le hK (dext_any a ys c hX w hB (fun t k w' ht h1 h2 => sdig_yes t k w' ht h1 h2))
end Go.Proofs.YtibjhkpgaaapaaaGreatDoor
namespace Go.Proofs.Disk
open Go Go.ChangeShapes Go.WideShapes Go.ChangeAt Go.RowKit

/-- A slice of numbers that is handed in: what it holds, and that it reads so in every world in which what was there is as it was. -/
theorem open_nums {P : Program} {H : Type} {enc : TypeId × Value → H} {W : World} {b0 : Nat} {t e : TypeId} {k : IntKind} {v : Value} {d : DataW H} {p : List MemPlace} (ht : P.underlying t = some (.slice e)) (he : P.underlying e = some (.int k)) (hc : P.cellsOf e = 1)
    (hv : Value.okWide P W .any b0 t v) (h : DataW.Trod enc P W 0 (fun _ => true) true t v d p) :
    ∃ (a : Option Addr) (c : Nat) (xs : List Int), v = .slice a xs.length c ∧ xs.length ≤ maxLen ∧ (∀ x ∈ xs, (Lit.int k x).wf = true) ∧
      (0 < xs.length → ∃ b off : Nat, a = some ⟨b, off, none⟩ ∧ b < W.heap.size ∧ ∀ j, j < xs.length → W.cell? ⟨b, off + j, none⟩ = some (.int k (xs.getD j 0))) ∧
      (∀ W' : World, Below W.heap.size W W' → DataW.Trod enc P W' 0 (fun b => decide (b < W.heap.size)) true t v d p) := by
  obtain ⟨a0, len, cap, rfl⟩ := okWide_slice ht hv
  obtain ⟨fuel, hf⟩ := h
  rcases open_ints ht he hc hf with ⟨h0, hx⟩ | ⟨a, len', cap', zs, hcs, _, hl, hm, hz, hx, hcell, hwz⟩
  · simp [Value.cells] at h0
    obtain ⟨rfl, rfl, rfl⟩ := h0
    simp only [Prod.mk.injEq] at hx
    obtain ⟨rfl, rfl⟩ := hx
    exact ⟨none, 0, [], rfl, Nat.zero_le _, (fun x hx => by cases hx), fun hx => absurd hx (Nat.lt_irrefl 0), fun W' _ => shut_slice_nil ht⟩
  · simp [Value.cells] at hcs
    obtain ⟨rfl, rfl, rfl⟩ := hcs
    simp only [Prod.mk.injEq] at hx
    obtain ⟨rfl, rfl⟩ := hx
    simp only [if_true] at hz
    have hlz : (zs.take len).length = len := by rw [List.length_take]; omega
    obtain ⟨b, off, spot⟩ := a
    have hspot : 0 < cap → spot = none := fun h => by simpa [Addr.add] using World.cell?_spot (hcell 0 (by omega))
    have hcells : 0 < cap → spot = none ∧ b < W.heap.size := fun h => by
      refine ⟨hspot h, ?_⟩
      have := hcell 0 (by omega)
      have e0 : (⟨b, off, spot⟩ : Addr).add 0 = ⟨b, off, spot⟩ := by simp [Addr.add]
      rw [e0, hspot h] at this
      exact World.block_lt_of_cell? _ _ this
    refine ⟨some ⟨b, off, spot⟩, cap, zs.take len, by rw [hlz], by rw [hlz]; omega, fun x hx => hwz x (List.mem_of_mem_take hx), fun hpos => ?_, fun W' hb => ?_⟩
    · rw [hlz] at hpos
      obtain ⟨rfl, hlt⟩ := hcells (by omega)
      refine ⟨b, off, rfl, hlt, fun j hj => ?_⟩
      rw [hlz] at hj
      rw [← add_plain, hcell j (by omega), List.getD_eq_getElem?_getD, List.getD_eq_getElem?_getD, List.getElem?_take, if_pos hj]
    · refine ⟨2, ?_⟩
      have := shut_ints (enc := enc) (w := W') (base := 0) (spare := fun b => decide (b < W.heap.size)) (held := true) (a := ⟨b, off, spot⟩) (len := len) (cap := cap) (zs := zs) 0 ht he hc (Nat.zero_le _) hl hm
        (by
          by_cases h0 : 0 < cap
          · rw [hz, if_pos (by simpa using (hcells h0).2)]
          · rw [hz]; split <;> omega)
        (fun i hi => by
          obtain ⟨rfl, hlt⟩ := hcells (by omega)
          rw [add_plain, hb.cell hlt, ← add_plain]
          exact hcell i hi) hwz
      simpa [Value.cells] using this
end Go.Proofs.Disk
namespace Go.Proofs.YtibjhkpgaaapaaaGreatDoor.fnForge
open Go.ChangeShapes Go.WideShapes Go.ChangeAt Go.RowKit Go.Proofs.Sha
open Go.ChangeMaps (open_string shut_string)

theorem own : ownKnob Tryz.prog.godebug = none := by kernel_rfl
theorem gTab : Tryz.prog.globalNamed "loop.example/s03048/impl.roundWords" = some 0 := by kernel_rfl
theorem gTabType : (Tryz.prog.globals[0]?).map (·.type) = some 294 := by kernel_rfl
theorem cellsTab : Tryz.prog.cellsOf 294 = 64 := by kernel_rfl
theorem cellsEl : Tryz.prog.cellsOf 177 = 1 := by kernel_rfl
def zs : List Int := kTab.map fun x => (x.toNat : Int)

/-- What the row's list gives: the table's cells hold its numbers. -/
theorem table {W : World} (h : laidMetH Tryz.prog Rows.fnForgeRow.laid W) : Lib.TabIs Tryz.prog W "loop.example/s03048/impl.roundWords" .u32 zs :=
  Lib.tabIs_of_head (rest := []) gTab gTabType Tryz.underlying294 Tryz.underlying177 cellsEl cellsTab h
theorem tabCells {W : World} (h : laidMetH Tryz.prog Rows.fnForgeRow.laid W) : ∀ j, j < 64 → W.cell? ⟨0, j, none⟩ = some (.int .u32 ((kTab.getD j 0).toNat : Int)) := fun j hj => by
  have h1 := (table h).cell gTab j (by exact hj)
  rw [h1]
  unfold zs
  rw [List.getD_eq_getElem?_getD, List.getElem?_map, List.getD_eq_getElem?_getD, List.getElem?_eq_getElem (by exact hj)]; rfl

def dat {H : Type} : DataW H := .agg (zs.map fun z => .lit (.int .u32 z))
/-- The table reads as itself, in whatever world. -/
theorem trod_tab {H : Type} (enc : TypeId × Value → H) (W : World) (sp : Nat → Bool) (hd : Bool) (n : Nat) : DataW.trod enc Tryz.prog W 0 sp hd (n + 2) 294 (kTab.map U) = some (dat, []) := by kernel_rfl
theorem trod_tab1 {H : Type} (enc : TypeId × Value → H) (W : World) (sp : Nat → Bool) (hd : Bool) : DataW.trod enc Tryz.prog W 0 sp hd 1 294 (kTab.map U) = none := by kernel_rfl

theorem contract (H : Type) (enc : TypeId × Value → H) (W : World) (base : Nat) (args : Array Value) (ds gs : List (DataW H)) (before : List MemPlace)
    (hval : ∀ (j : Nat) t v, Tryz.f6.params[j]? = some t → args[j]? = some v → Value.okWide Tryz.prog W .any base t v)
    (hW : DataW.Whole enc Tryz.prog Tryz.f6.params.toList Rows.fnForgeSpec.vars false W args.toList ds gs before) (hL : laidMetH Tryz.prog Rows.fnForgeRow.laid W) :
    Calls Tryz.prog 6 args W fun e W' => ∃ v, e = .returned v ∧ Rows.fnForgeSpec.post enc Tryz.prog Tryz.f6 false true false false W args v W' := by
  have hW' := hW
  obtain ⟨p, q, hA0, hV, rfl, hfz, hnd⟩ := hW
  have hA : DataW.TrodAll enc Tryz.prog W 0 (fun _ => true) true Tryz.f6.params.toList args.toList ds p := hA0
  rw [Tryz.params6] at hA hval
  obtain ⟨v0, vs0, d0, ds0, p0, q0, hargs, rfl, rfl, h0, r0⟩ := trodAll_cons hA
  obtain ⟨rfl, rfl, rfl⟩ := trodAll_nil r0
  obtain rfl : args = #[v0] := by cases args; simp_all
  obtain ⟨x0, c0, s0, rfl, hs0, hw0, hx0, hz0⟩ := Disk.open_nums Tryz.underlying41 Tryz.underlying5 (by kernel_rfl) (hval 0 41 v0 rfl rfl) h0
  obtain ⟨g, t, cs, fuel, d, p', rfl, hg, ht, hvar, hd, rfl⟩ := trodVars_one hV
  obtain rfl := Option.some.inj (gTab.symm.trans hg)
  obtain rfl := Option.some.inj (gTabType.symm.trans ht)
  have hcs : cs = (kTab.map U).toArray := Option.some.inj (hvar.symm.trans (table hL))
  subst hcs
  have hdd : d = dat ∧ p' = [] := by
    match fuel, hd with
    | 0, hd => simp [DataW.trod] at hd
    | 1, hd => rw [show (kTab.map U).toArray.toList = kTab.map U from rfl, trod_tab1] at hd; cases hd
    | n + 2, hd =>
      rw [show (kTab.map U).toArray.toList = kTab.map U from rfl, trod_tab] at hd
      cases hd
      exact ⟨rfl, rfl⟩
  obtain ⟨rfl, rfl⟩ := hdd
  have hcells := tabCells hL
  have hl0 : 0 < W.heap.size := World.block_lt_of_cell? W _ (hcells 0 (by omega))
  clear hA0
  refine (law_fnforge x0 s0 c0 W hs0 hw0 hx0 hcells).mono fun e W' ⟨he, hb⟩ => ?_
  subst he
  have hvar' : W'.var? Tryz.prog "loop.example/s03048/impl.roundWords" = some (kTab.map U).toArray := by
    unfold World.var? at hvar ⊢
    simp only [gTab, Option.bind_some] at hvar ⊢
    rw [hb.block 0 hl0]
    exact hvar
  exact ⟨_, rfl, ⟨_, _, _, [], _, MemPlace.row ⟨0, 0, none⟩ (kTab.map U).toArray.size ++ [], hW', trodAll_cons_mk (shut_bool Tryz.underlying4 _) trodAll_mk0, trodAll_cons_mk (hz0 W' hb) trodAll_mk0,
    trodVars_mk1 (fuel := 2) gTab gTabType hvar' (trod_tab enc W' _ _ 0), hb.frame _, fun h => by cases h⟩⟩

theorem laid_met (os : Os) : laidMet Tryz.prog Rows.fnForgeRow.laid (World.forCall ({ World.holding Tryz.prog os ⟨#[], #[], []⟩ with heap := (World.holding Tryz.prog os ⟨#[], #[], []⟩).heap.modify 0 fun | .cells _ t frozen => .cells (kTab.map U).toArray t frozen | o => o }) (fun _ _ => 0) ⟨#[], #[.slice none 0 0], []⟩).memory :=
  laidMet_of_run' 8 (by kernel_rfl) (by kernel_rfl)
theorem reads (os : Os) {H : Type} (enc : TypeId × Value → H) : ∃ places, DataW.whole enc Tryz.prog (World.forCall ({ World.holding Tryz.prog os ⟨#[], #[], []⟩ with heap := (World.holding Tryz.prog os ⟨#[], #[], []⟩).heap.modify 0 fun | .cells _ t frozen => .cells (kTab.map U).toArray t frozen | o => o }) (fun _ _ => 0) ⟨#[], #[.slice none 0 0], []⟩).memory Tryz.f6.params.toList Rows.fnForgeSpec.vars false #[Value.slice none 0 0].toList 8 = some ([.nil], [dat], places) :=
  ⟨MemPlace.row ⟨0, 0, none⟩ 64, by kernel_rfl⟩

theorem lifted (os : Os) (started : os.Started) (H : Type) (enc : TypeId × Value → H) (F : Stop.Interp) :
    ReturnsInHanded {} Tryz.checked os 6 .any ((OpenSpec.ofChange Rows.fnForgeSpec).preRow enc Tryz.prog Tryz.f6 Rows.fnForgeRow.domain false Rows.fnForgeRow.laid) (((OpenSpec.ofChange Rows.fnForgeSpec).at F).post enc Tryz.prog Tryz.f6 false true false false) := by
  obtain ⟨places, hx⟩ := reads os enc
  refine returnsInHanded_of_row (C := Tryz.checked) (s := OpenSpec.ofChange Rows.fnForgeSpec) own started (by kernel_rfl) Tryz.func6
    (witness_row_at (enc := enc) (C := Tryz.checked) false ({ World.holding Tryz.prog os ⟨#[], #[], []⟩ with heap := (World.holding Tryz.prog os ⟨#[], #[], []⟩).heap.modify 0 fun | .cells _ t frozen => .cells (kTab.map U).toArray t frozen | o => o }) #[.slice none 0 0] rfl (by kernel_rfl) (by kernel_rfl) (by kernel_rfl)
      (OpenSpec.preRow_of_cond 8 hx (by kernel_rfl) (fun k hk => by cases hk) (by kernel_rfl) (laid_met os))) ?_
  intro W base args ds gs before hval hW _ _ _ hL _ _
  exact contract H enc W base args ds gs before hval hW hL

theorem said : Rows.FnForgeSaid :=
  OpenClaim.holds_of_cond 6 Tryz.f6 rfl rfl rfl rfl rfl rfl rfl ⟨rfl, rfl, rfl, rfl, rfl⟩ rfl rfl rfl rfl rfl (by kernel_rfl) Tryz.func6 (by kernel_rfl)
    (of_decide_eq_true (by kernel_rfl)) (by unfold Func.isWrapper; first | (rw [if_pos (by decide +kernel)]; kernel_rfl) | (rw [if_neg (by decide +kernel)]; exact ⟨rfl, rfl⟩))
    (fun os started H enc _ F => by rw [OpenClaim.pre_eq_preRow]; exact lifted os started H enc F)

theorem plain (f : FuncId) (fn : Func) (hf : Tryz.pinned.checked.prog.funcNamed "loop.example/s03048/laws.FnForge" = some f) (hfn : Tryz.pinned.checked.prog.funcs[f]? = some fn) :
    true = Tryz.pinned.checked.prog.looks [] ∧ ∀ (j : Nat) t, fn.params[j]? = some t → Tryz.pinned.checked.prog.wantsStandIn t = false := by
  obtain rfl : f = 6 := Option.some.inj ((show Tryz.prog.funcNamed "loop.example/s03048/laws.FnForge" = some 6 by kernel_rfl).symm.trans hf) |>.symm
  obtain rfl : fn = Tryz.f6 := (Option.some.inj (Tryz.func6.symm.trans hfn)).symm
  refine ⟨by kernel_rfl, fun j t ht => ?_⟩
  rw [Tryz.params6] at ht
  have hm : t ∈ [41] := by simpa using Array.mem_of_getElem? ht
  have hall : ([41].all fun u => !Tryz.prog.wantsStandIn u) = true := by kernel_rfl
  exact (show Tryz.prog.wantsStandIn t = false by simpa using List.all_eq_true.1 hall t hm)
end Go.Proofs.YtibjhkpgaaapaaaGreatDoor.fnForge

namespace Go.Proofs.YtibjhkpgaaapaaaGreatDoor
/-- The card. -/
theorem fnForge_card : Rows.FnForgeCardSaid :=
  Claim7.holds_tied_plain_at .later [] _ _ _ _ fnForge.said (fun _ h => by cases h) (by kernel_rfl) (fun _ h => by cases h) fnForge_row_tie rfl ⟨rfl, rfl⟩ (by kernel_rfl) rfl fnForge.plain (by kernel_rfl)
#print axioms fnForge_card
end Go.Proofs.YtibjhkpgaaapaaaGreatDoor
