import Derived.Test.YtibjhkpgaaapaaaGreatDoorZxbu
namespace Go.Proofs.YtibjhkpgaaapaaaGreatDoor
open Go.RowKit Go.Proofs.Sha

/-- What Extract finds. -/
def exR (n : Int) (lo hi : ByteArray) (R1 R2 : Option PT) : Option (ByteArray × ByteArray) :=
  match R1, R2 with
  | some s, some t => if shP lo hi s = shP lo hi t then none else twinP n.toNat s t
  | _, _ => none
def exV (R : Option (ByteArray × ByteArray)) : Value := .tuple #[.string (resT R).1, .string (resT R).2, .bool (!R.isNone)]
set_option maxRecDepth 100000 in
set_option maxHeartbeats 2000000 in
theorem iextract_any (n : Int) (root lo hi s1 s2 : ByteArray) (w : World) (hs1 : s1.size ≤ 1048576) (hs2 : s2.size ≤ 1048576) (hr : root.size ≤ 1048576) (hK : KT w) :
    Calls Tryz.prog 10 #[.int .i64 n, .string root, .string lo, .string hi, .string s1, .string s2] w fun e w' => e = .returned (exV (exR n lo hi (accP n root lo hi s1) (accP n root lo hi s2))) ∧ Below w.heap.size w w' := by
  have hbA : Below w.heap.size w (w.alloc (.cells #[.string lo, .string hi] 75)) := (Below.refl _ _).alloc (Nat.le_refl _) _
  have nA := heap_alloc_new w (.cells #[.string lo, .string hi] 75)
  have HA := acc_any n root lo hi s1 (w.alloc (.cells #[.string lo, .string hi] 75)) hs1 hr (hK.below hbA)
  have HB := fun w' (hb : Below w.heap.size w w') => acc_any n root lo hi s2 w' hs2 hr (hK.below hb)
  have hsm1 := fun t => shP_smallP lo hi (n := n) (root := root) (s := s1) (t := t)
  have hsm2 := fun t => shP_smallP lo hi (n := n) (root := root) (s := s2) (t := t)
  have hcn1 := fun t => accP_cnt (n := n) (root := root) (lo := lo) (hi := hi) (s := s1) (t := t)
  have hcn2 := fun t => accP_cnt (n := n) (root := root) (lo := lo) (hi := hi) (s := s2) (t := t)
  generalize accP n root lo hi s1 = R1 at HA hsm1 hcn1 ⊢
  generalize accP n root lo hi s2 = R2 at HB hsm2 hcn2 ⊢
  have c0 := Lib.cell_of_heap nA 0
  have c1 := Lib.cell_of_heap nA 1
  clear hK hs1 hs2 hr
  cases R1 with
  | none =>
    have HA2 : Calls Tryz.prog 41 #[.int .i64 n, .string root, .agg #[.string lo, .string hi], .string s1] (w.alloc (.cells #[.string lo, .string hi] 75)) fun e w' => e = .returned (.tuple #[.nilIface, .bool false]) ∧ Below w.heap.size w w' := by
      refine HA.mono ?_
      rintro e w' ⟨_, he, hb⟩
      exact ⟨he rfl, hbA.trans (hb.mono hbA.size)⟩
    have HP : Hid (∀ w', Below w.heap.size w w' → Ending.returned (.tuple #[.string ⟨#[]⟩, .string ⟨#[]⟩, .bool false]) = .returned (exV (exR n lo hi none R2)) ∧ Below w.heap.size w w') := fun w' hb => ⟨rfl, hb⟩
    clear HA HB hsm1 hsm2 hcn1 hcn2 nA
    go_enter Tryz.func10, Tryz.ntmps10
    go_wp2_with (first | (go_at_call 41; refine HA2.mono ?_; rintro e w2 ⟨rfl, hb2⟩))
    exact bodyPost_ret (v := .tuple #[.string ⟨#[]⟩, .string ⟨#[]⟩, .bool false]) (by simp [results, Tryz.results10, go_sem]) rfl (HP.out _ hb2)
  | some s =>
    have hct1 := hcn1 s rfl
    have hsa := (hsm1 s rfl).1
    have HA2 : Calls Tryz.prog 41 #[.int .i64 n, .string root, .agg #[.string lo, .string hi], .string s1] (w.alloc (.cells #[.string lo, .string hi] 75)) fun e w' => ∃ T y, e = .returned (.tuple #[.iface T y, .bool true]) ∧ PA n.toNat 0 s (.iface T y) w' ∧ Below w.heap.size w w' ∧ w'.heap[w.heap.size]? = some (.cells #[.string lo, .string hi] 75) := by
      refine HA.mono ?_
      rintro e w' ⟨hy, _, hb⟩
      obtain ⟨T, y, he, hp⟩ := hy s rfl
      have n2 := below_cells hb nA
      exact ⟨T, y, he, hp.mono (Nat.zero_le _), hbA.trans (hb.mono hbA.size), n2⟩
    obtain ⟨ga, hga⟩ : ∃ ga, w.heap.size = ga := ⟨_, rfl⟩
    cases R2 with
    | none =>
      have HB2 : Hid (∀ W, Below w.heap.size w W → W.heap[ga]? = some (.cells #[.string lo, .string hi] 75) → Calls Tryz.prog 41 #[.int .i64 n, .string root, .agg #[.string lo, .string hi], .string s2] W fun e w' => e = .returned (.tuple #[.nilIface, .bool false]) ∧ Below w.heap.size w w' ∧ w'.heap[ga]? = some (.cells #[.string lo, .string hi] 75)) := fun W hW hn => by
        refine (HB W hW).mono ?_
        rintro e w' ⟨_, he, hb⟩
        exact ⟨he rfl, hW.trans (hb.mono hW.size), below_cells hb hn⟩
      have HP : Hid (∀ w', Below w.heap.size w w' → Ending.returned (.tuple #[.string ⟨#[]⟩, .string ⟨#[]⟩, .bool false]) = .returned (exV (exR n lo hi (some s) none)) ∧ Below w.heap.size w w') := fun w' hb => ⟨rfl, hb⟩
      clear HA HB hsm1 hsm2 hcn1 hcn2 nA hct1 hsa
      go_enter Tryz.func10, Tryz.ntmps10
      go_upto_region 3 with (first | (go_at_call_of 41 (Value.string s1); refine HA2.mono ?_; rintro e w2 ⟨tx, yx, rfl, hp2, hb2, n2⟩))
      rw [hga] at n2
      try rw [hga]
      have d0 := Lib.cell_of_heap n2 0
      have d1 := Lib.cell_of_heap n2 1
      go_upto_region 6 with (first | (go_at_call_of 41 (Value.string s2); refine (HB2.out _ hb2 n2).mono ?_; rintro e w3 ⟨rfl, hb3, n3⟩))
      clear d0 d1
      have d0 := Lib.cell_of_heap n3 0
      have d1 := Lib.cell_of_heap n3 1
      go_quiet (first | fail)
      go_wp2_with fail
      exact bodyPost_ret (v := .tuple #[.string ⟨#[]⟩, .string ⟨#[]⟩, .bool false]) (by simp [results, Tryz.results10, go_sem]) rfl (HP.out _ (draws_below _ hb3))
    | some t =>
      have hct2 := hcn2 t rfl
      have hsb := (hsm2 t rfl).1
      have HB2 : Hid (∀ W, Below w.heap.size w W → Calls Tryz.prog 41 #[.int .i64 n, .string root, .agg #[.string lo, .string hi], .string s2] W fun e w' => ∃ T y, e = .returned (.tuple #[.iface T y, .bool true]) ∧ PA n.toNat 0 t (.iface T y) w' ∧ Below W.heap.size W w') := fun W hW => by
        refine (HB W hW).mono ?_
        rintro e w' ⟨hy, _, hb⟩
        obtain ⟨T, y, he, hp⟩ := hy t rfl
        exact ⟨T, y, he, hp.mono (Nat.zero_le _), hb⟩
      have HS1 : Hid (∀ T y W, PA n.toNat 0 s (.iface T y) W → Calls Tryz.prog 43 #[.iface T y, .agg #[.string lo, .string hi]] W fun e W' => ∃ a c, e = .returned (.slice a (shP lo hi s).length c) ∧ PArg a (shP lo hi s) W' ∧ Below W.heap.size W W') := fun T y W hp => by
        refine (shownBy_any n.toNat _ lo hi s _ W hp hct1).mono ?_
        rintro e w'' ⟨⟨a, c, he, ho⟩, hb2⟩
        exact ⟨a, c, he, own_parg ho hsa, hb2⟩
      have HS2 : Hid (∀ T y W, PA n.toNat 0 t (.iface T y) W → Calls Tryz.prog 43 #[.iface T y, .agg #[.string lo, .string hi]] W fun e W' => ∃ a c, e = .returned (.slice a (shP lo hi t).length c) ∧ PArg a (shP lo hi t) W' ∧ Below W.heap.size W W') := fun T y W hp => by
        refine (shownBy_any n.toNat _ lo hi t _ W hp hct2).mono ?_
        rintro e w'' ⟨⟨a, c, he, ho⟩, hb2⟩
        exact ⟨a, c, he, own_parg ho hsb, hb2⟩
      have HT : Hid (∀ W p q, PB n.toNat 0 s p W → PB n.toNat 0 t q W → Calls Tryz.prog 44 #[.agg #[.pointer p, .pointer q], .func (.func 46) #[] #[]] W fun e W' => e = .returned (exV (twinP n.toNat s t)) ∧ Below W.heap.size W W') := fun W p q h1 h2 => twins5_any n.toNat 0 s t p q W h1 h2
      have HF1 : Hid (∀ T y W, PA n.toNat 0 s (.iface T y) W → Calls Tryz.prog 45 #[.iface T y] W fun e W' => e = .returned (.pointer (ptrV (.iface T y))) ∧ W = W') := fun T y W hp => asFull_any n.toNat 0 s _ W hp
      have HF2 : Hid (∀ T y W, PA n.toNat 0 t (.iface T y) W → Calls Tryz.prog 45 #[.iface T y] W fun e W' => e = .returned (.pointer (ptrV (.iface T y))) ∧ W = W') := fun T y W hp => asFull_any n.toNat 0 t _ W hp
      have hex : Hid (exR n lo hi (some s) (some t) = if shP lo hi s = shP lo hi t then none else twinP n.toNat s t) := rfl
      obtain ⟨RR, hRR⟩ : ∃ RR, exR n lo hi (some s) (some t) = RR := ⟨_, rfl⟩
      rw [hRR] at hex ⊢
      clear HA HB hsm1 hsm2 hcn1 hcn2 nA hct1 hsa hct2 hsb hRR
      generalize shP lo hi s = P at HS1 hex
      generalize shP lo hi t = Q at HS2 hex
      have HE : Hid (∀ a c b d W, PArg a P W → PArg b Q W → Calls Tryz.prog 42 #[.slice a P.length c, .slice b Q.length d] W fun e W' => e = .returned (.bool (decide (P = Q))) ∧ Below W.heap.size W W') := fun a c b d W h1 h2 => equal_any a b P Q c d W h1 h2
      generalize P.length = LP at HS1 HE
      generalize Q.length = LQ at HS2 HE
      go_enter Tryz.func10, Tryz.ntmps10
      go_upto_region 5 with (first | (go_at_call_of 41 (Value.string s1); refine HA2.mono ?_; rintro e w2 ⟨tx, yx, rfl, hp2, hb2, n2⟩))
      rw [hga] at n2
      try rw [hga]
      have d0 := Lib.cell_of_heap n2 0
      have d1 := Lib.cell_of_heap n2 1
      go_upto_region 6 with (first | (go_at_call_of 41 (Value.string s2); refine (HB2.out _ hb2).mono ?_; rintro e w3 ⟨ty, yy, rfl, hq3, hb3⟩))
      have hp3 := hp2.below hb3
      have n3 := below_cells hb3 n2
      have hw3 := hb2.trans (hb3.mono hb2.size)
      clear hb3 n2 hb2 hp2 d0 d1 HA2 HB2 c0 c1 hbA
      have d0 := Lib.cell_of_heap n3 0
      have d1 := Lib.cell_of_heap n3 1
      have hC : Hid (∀ W : World, Below w3.heap.size w3 W → W.cell? ⟨ga, 0, none⟩ = some (.string lo) ∧ W.cell? ⟨ga, 1, none⟩ = some (.string hi)) := fun W hW => ⟨Lib.cell_of_heap (below_cells hW n3) 0, Lib.cell_of_heap (below_cells hW n3) 1⟩
      cases heq : decide (P = Q) with
      | true =>
        have hR : Hid (exV RR = .tuple #[.string ⟨#[]⟩, .string ⟨#[]⟩, .bool false]) := by
          show exV RR = _
          rw [hex.out, if_pos (of_decide_eq_true heq)]
          rfl
        rw [heq] at HE
        clear hex heq
        go_region_held3 (fun W => W.cell? ⟨ga, 0, none⟩ = some (.string lo) ∧ W.cell? ⟨ga, 1, none⟩ = some (.string hi)) (first | exact ⟨d0, d1⟩ | exact hC.out _ hx6 | exact hC.out _ hx5 | exact hC.out _ hx4) (first | (go_at_call_of 43 (Value.iface tx yx); refine (HS1.out _ _ _ (hp3.below (Below.refl w3.heap.size w3).drew)).mono ?_; rintro e w4 ⟨a4, c4, rfl, pa4, hb4⟩; have hx4 : Below w3.heap.size w3 w4 := (Below.refl w3.heap.size w3).drew.trans hb4) | (go_at_call_of 43 (Value.iface ty yy); refine (HS2.out _ _ _ (hq3.below hx4)).mono ?_; rintro e w5 ⟨a5, c5, rfl, pa5, hb5⟩; have hx5 : Below w3.heap.size w3 w5 := hx4.trans (hb5.mono hx4.size); have pa4' := pa4.below hb5) | (go_at_call 42; refine (HE.out _ _ _ _ _ pa4' pa5).mono ?_; rintro e w6 ⟨rfl, hb6⟩; have hx6 : Below w3.heap.size w3 w6 := hx5.trans (hb6.mono hx5.size)))
        have hw6 := hw3.trans (hx6.mono hw3.size)
        go_wp2_with fail
        exact bodyPost_ret (v := .tuple #[.string ⟨#[]⟩, .string ⟨#[]⟩, .bool false]) (by simp [results, Tryz.results10, go_sem]) rfl ⟨by rw [hR.out], hw6⟩
      | false =>
        have hR : Hid (RR = twinP n.toNat s t) := by
          show RR = _
          rw [hex.out, if_neg (of_decide_eq_false heq)]
        rw [heq] at HE
        clear hex heq
        go_region_held3 (fun W => W.cell? ⟨ga, 0, none⟩ = some (.string lo) ∧ W.cell? ⟨ga, 1, none⟩ = some (.string hi)) (first | exact ⟨d0, d1⟩ | exact hC.out _ hx6 | exact hC.out _ hx5 | exact hC.out _ hx4) (first | (go_at_call_of 43 (Value.iface tx yx); refine (HS1.out _ _ _ (hp3.below (Below.refl w3.heap.size w3).drew)).mono ?_; rintro e w4 ⟨a4, c4, rfl, pa4, hb4⟩; have hx4 : Below w3.heap.size w3 w4 := (Below.refl w3.heap.size w3).drew.trans hb4) | (go_at_call_of 43 (Value.iface ty yy); refine (HS2.out _ _ _ (hq3.below hx4)).mono ?_; rintro e w5 ⟨a5, c5, rfl, pa5, hb5⟩; have hx5 : Below w3.heap.size w3 w5 := hx4.trans (hb5.mono hx4.size); have pa4' := pa4.below hb5) | (go_at_call 42; refine (HE.out _ _ _ _ _ pa4' pa5).mono ?_; rintro e w6 ⟨rfl, hb6⟩; have hx6 : Below w3.heap.size w3 w6 := hx5.trans (hb6.mono hx5.size)))
        have hw6 := hw3.trans (hx6.mono hw3.size)
        have hp6 := hp3.below hx6
        have hq6 := hq3.below hx6
        have HF1' := HF1.out _ _ _ hp6
        have HF2' := HF2.out _ _ _ hq6
        have HT' := HT.out w6 _ _ hp6.pb hq6.pb
        generalize ptrV (.iface tx yx) = px at HF1' HT'
        generalize ptrV (.iface ty yy) = py at HF2' HT'
        obtain ⟨⟨x1, x2⟩, hx12⟩ : ∃ X : ByteArray × ByteArray, resT (twinP n.toNat s t) = X := ⟨_, rfl⟩
        obtain ⟨x3, hx3⟩ : ∃ x3, (!(twinP n.toNat s t).isNone) = x3 := ⟨_, rfl⟩
        have hv : Hid (exV RR = .tuple #[.string x1, .string x2, .bool x3]) := by
          show exV RR = _
          rw [hR.out]
          unfold exV
          rw [hx12, hx3]
        unfold exV at HT'
        rw [hx12, hx3] at HT'
        clear HF1 HF2 HT hp6 hq6 hx12 hx3 hR hp3 hq3 HS1 HS2 HE pa4 pa5 pa4' hC
        go_wp2_with (first | (go_at_call_of 45 (Value.iface tx yx); refine HF1'.mono ?_; rintro e w7 ⟨rfl, rfl⟩) | (go_at_call_of 45 (Value.iface ty yy); refine HF2'.mono ?_; rintro e w8 ⟨rfl, rfl⟩) | (go_at_call 44; refine HT'.mono ?_; rintro e w9 ⟨rfl, hb9⟩))
        exact bodyPost_ret (v := .tuple #[.string x1, .string x2, .bool x3]) (by simp [results, Tryz.results10, go_sem]) rfl ⟨by rw [hv.out], hw6.trans (hb9.mono hw6.size)⟩
end Go.Proofs.YtibjhkpgaaapaaaGreatDoor
namespace Go.Proofs.YtibjhkpgaaapaaaGreatDoor
open Go.RowKit Go.Proofs.Sha

/-- How far l5Skip goes. -/
def skn : List UInt8 → Nat → Nat
  | _, 0 => 0
  | [], _ => 0
  | c :: l, o + 1 => 1 + skn l (if c = 70 then o + 2 else o)
theorem skn_zero (l : List UInt8) : skn l 0 = 0 := by cases l <;> rfl
theorem skn_shape : ∀ (t : PT) (rest : List UInt8) (o : Nat), skn (shapeP t ++ rest) (o + 1) = (shapeP t).length + skn rest o
  | .e, rest, o => by show 1 + skn rest o = 1 + _; rfl
  | .s _, rest, o => by show 1 + skn rest o = 1 + _; rfl
  | .f k v l r, rest, o => by
    show 1 + skn (shapeP l ++ shapeP r ++ rest) (o + 2) = (70 :: (shapeP l ++ shapeP r)).length + _
    rw [List.append_assoc, skn_shape l _ (o + 1), skn_shape r _ o, List.length_cons, List.length_append]
    omega
theorem skn_step (y : ByteArray) (x o : Nat) (h : x < y.size) : skn (y.data.toList.drop x) (o + 1) = 1 + skn (y.data.toList.drop (x + 1)) (if y.data.toList.getD x 0 = 70 then o + 2 else o) := by
  have hl : x < y.data.toList.length := h
  rw [List.drop_eq_getElem_cons hl, skn, List.getD_eq_getElem?_getD, List.getElem?_eq_getElem hl]
  rfl
set_option maxRecDepth 100000 in
theorem skip_any (y : ByteArray) (x : Nat) (w : World) (hy : y.size ≤ 100000) (hx : x ≤ y.size) : Calls Tryz.prog 87 #[.string y, .int .i64 (x : Int)] w fun e w' => e = .returned (.int .i64 ((x + skn (y.data.toList.drop x) 1 : Nat) : Int)) ∧ Below w.heap.size w w' := by
  obtain ⟨E, hE⟩ : ∃ E, x + skn (y.data.toList.drop x) 1 = E := ⟨_, rfl⟩
  rw [hE]
  have HE : Hid (x + skn (y.data.toList.drop x) 1 = E) := hE
  clear hE
  go_enter Tryz.func87, Tryz.ntmps87
  go_wp2_with fail
  go_loopw [1, 5] (fun t1 t3 wr => ∃ k o : Nat, k ≤ y.size ∧ o ≤ k + 1 ∧ t1 = .int .i64 (k : Int) ∧ t3 = .int .i64 (o : Int) ∧ Hid (k + skn (y.data.toList.drop k) o = E) ∧ Below w.heap.size w wr) (fun t1 _ _ => y.size - (intOf t1).toNat)
  case atStart => exact ⟨x, 1, hx, by omega, rfl, rfl, HE, Below.refl _ _⟩
  case round =>
    obtain ⟨k, o, hk, ho, rfl, rfl, HL, hb⟩ := hrel
    by_cases h0 : o = 0
    · subst h0
      have hkE : k = E := by rw [← HL.out, skn_zero]; rfl
      subst hkE
      clear HL HE
      go_wp2_with fail
      go_ret
      exact ⟨rfl, hb⟩
    obtain ⟨o', rfl⟩ : ∃ o', o = o' + 1 := ⟨o - 1, by omega⟩
    have y0 : decide ((0 : Int) < ((o' + 1 : Nat) : Int)) = true := by rw [decide_eq_true_eq]; omega
    by_cases h1 : k < y.size
    · have z1 : (0 : Int) ≤ (k : Int) := by omega
      have z2 : (k : Int) < (y.size : Int) := by omega
      have hst := skn_step y k o' h1
      have HL2 := HL.out
      rw [hst] at HL2
      clear hst HL HE
      obtain ⟨c, hc⟩ : ∃ c, y.data.toList.getD k 0 = c := ⟨_, rfl⟩
      rw [hc] at HL2
      have HC : Hid (y.data.toList.getD k 0 = c) := hc
      clear hc
      have hbg := bget y k h1
      rw [HC.out] at hbg
      by_cases h70 : c = 70
      · have c0 : ((c.toNat : Int) == 70) = true := by rw [h70]; rfl
        rw [if_pos h70] at HL2
        have HL3 : Hid (k + 1 + skn (y.data.toList.drop (k + 1)) (o' + 2) = E) := by show _ = _; omega
        clear HL2 h70 HC
        go_wp2_with fail
        go_roundw
        case rel => exact ⟨k + 1, o' + 2, by omega, by omega, by go_num, by go_num, HL3, hb⟩
        case measure => simp [intOf]; omega
      · have c0 : ((c.toNat : Int) == 70) = false := by
          rw [beq_eq_false_iff_ne]; intro e; exact h70 (UInt8.toNat_inj.1 (by show c.toNat = 70; omega))
        rw [if_neg h70] at HL2
        have HL3 : Hid (k + 1 + skn (y.data.toList.drop (k + 1)) o' = E) := by show _ = _; omega
        clear HL2 h70 HC
        go_wp2_with fail
        go_roundw
        case rel => exact ⟨k + 1, o', by omega, by omega, by go_num, by go_num, HL3, hb⟩
        case measure => simp [intOf]; omega
    · have hkE : k = E := by
        have := HL.out
        rw [List.drop_eq_nil_of_le (show y.data.toList.length ≤ k from by show y.size ≤ k; omega)] at this
        simpa [skn] using this
      subst hkE
      clear HL HE
      have z2 : decide ((k : Int) < (y.size : Int)) = false := by rw [decide_eq_false_iff_not]; omega
      go_wp2_with fail
      go_ret
      exact ⟨rfl, hb⟩
end Go.Proofs.YtibjhkpgaaapaaaGreatDoor
namespace Go.Proofs.YtibjhkpgaaapaaaGreatDoor
open Go.RowKit Go.Proofs.Sha

theorem count_shape : ∀ t : PT, (shapeP t).count 70 = cP t
  | .e => rfl
  | .s _ => rfl
  | .f k v l r => by
    show (70 :: (shapeP l ++ shapeP r)).count 70 = cP l + 1 + cP r
    rw [List.count_cons, List.count_append, count_shape l, count_shape r]
    simp
    omega
/-- A shape stands in a text at a place. -/
def ShAt (y : ByteArray) (x : Nat) (t : PT) : Prop := ∃ rest, y.data.toList.drop x = shapeP t ++ rest
theorem ShAt.le {y : ByteArray} {x : Nat} {t : PT} (h : ShAt y x t) : x + (shapeP t).length ≤ y.size := by
  obtain ⟨rest, h⟩ := h
  have h1 := congrArg List.length h
  rw [List.length_drop, List.length_append] at h1
  have h2 := shapeP_len t
  have : y.data.toList.length = y.size := rfl
  omega
theorem ShAt.left {y : ByteArray} {x : Nat} {k v : ByteArray} {l r : PT} (h : ShAt y x (.f k v l r)) : ShAt y (x + 1) l := by
  obtain ⟨rest, h⟩ := h
  refine ⟨shapeP r ++ rest, ?_⟩
  rw [← List.drop_drop, h]
  show (shapeP l ++ shapeP r ++ rest) = _
  rw [List.append_assoc]
theorem ShAt.right {y : ByteArray} {x : Nat} {k v : ByteArray} {l r : PT} (h : ShAt y x (.f k v l r)) : ShAt y (x + 1 + (shapeP l).length) r := by
  obtain ⟨rest, h⟩ := h
  refine ⟨rest, ?_⟩
  rw [← List.drop_drop, ← List.drop_drop, h]
  show (shapeP l ++ shapeP r ++ rest).drop _ = _
  rw [List.append_assoc, List.drop_left]
theorem ShAt.get {y : ByteArray} {x : Nat} {t : PT} (h : ShAt y x t) (j : Nat) (hj : j < (shapeP t).length) : y.data.toList.getD (x + j) 0 = (shapeP t).getD j 0 := by
  obtain ⟨rest, h⟩ := h
  have h1 : (y.data.toList.drop x)[j]? = (shapeP t ++ rest)[j]? := by rw [h]
  rw [List.getElem?_drop, List.getElem?_append_left hj] at h1
  rw [List.getD_eq_getElem?_getD, h1, List.getD_eq_getElem?_getD]
theorem ShAt.skip {y : ByteArray} {x : Nat} {t : PT} (h : ShAt y x t) (w : World) (hy : y.size ≤ 100000) : Calls Tryz.prog 87 #[.string y, .int .i64 (x : Int)] w fun e w' => e = .returned (.int .i64 ((x + (shapeP t).length : Nat) : Int)) ∧ Below w.heap.size w w' := by
  have := skip_any y x w hy (by have := h.le; omega)
  obtain ⟨rest, h⟩ := h
  rw [h, skn_shape t rest 0, skn_zero] at this
  exact this
set_option maxRecDepth 100000 in
theorem ShAt.count {y : ByteArray} {x : Nat} {t : PT} (h : ShAt y x t) (w : World) (hy : y.size ≤ 100000) : Calls Tryz.prog 88 #[.string y, .int .i64 (x : Int)] w fun e w' => e = .returned (.int .i64 ((cP t : Nat) : Int)) ∧ Below w.heap.size w w' := by
  have HS := h.skip w hy
  have hle := h.le
  have hget := h.get
  have hcs := count_shape t
  clear h
  have hlt : Hid ((shapeP t).length = (shapeP t).length) := rfl
  obtain ⟨L, hL⟩ : ∃ L, (shapeP t).length = L := ⟨_, rfl⟩
  rw [hL] at HS hle hget
  generalize cP t = C at hcs ⊢
  have HC : Hid ((shapeP t).count 70 = C ∧ (shapeP t).length = L) := ⟨hcs, hL⟩
  have HG : Hid (∀ j, j < L → y.data.toList.getD (x + j) 0 = (shapeP t).getD j 0) := hget
  clear hcs hL hget hlt
  obtain ⟨M, hM⟩ : ∃ M, x + L = M := ⟨_, rfl⟩
  rw [hM] at HS hle
  have HM : Hid (x + L = M) := hM
  have hL5 : L ≤ 100000 := by omega
  clear hM
  go_enter Tryz.func88, Tryz.ntmps88
  go_wp2_with (go_at_call 87; refine HS.mono ?_; rintro e w1 ⟨rfl, hb1⟩)
  go_loopw [5, 7] (fun t1 t3 wr => ∃ k o m : Nat, k ≤ L ∧ o ≤ k ∧ t1 = .int .i64 (o : Int) ∧ t3 = .int .i64 (m : Int) ∧ Hid (x + k = m) ∧ Hid (((shapeP t).take k).count 70 = o) ∧ Below w.heap.size w wr) (fun _ t3 _ => M - (intOf t3).toNat)
  case atStart => exact ⟨0, 0, x, Nat.zero_le _, Nat.le_refl _, rfl, rfl, rfl, rfl, hb1⟩
  case round =>
    obtain ⟨k, o, m, hk, ho, rfl, rfl, Hm, HL, hb⟩ := hrel
    have hm := Hm.out
    have hMM := HM.out
    by_cases h1 : k < L
    · have z1 : (0 : Int) ≤ (m : Int) := by omega
      have z2 : (m : Int) < (y.size : Int) := by omega
      have z3 : decide ((m : Int) < (M : Int)) = true := by rw [decide_eq_true_eq]; omega
      have hG := HG.out k h1
      have hst : ((shapeP t).take (k + 1)).count 70 = o + (if (shapeP t).getD k 0 = 70 then 1 else 0) := by
        have hl : k < (shapeP t).length := by rw [HC.out.2]; exact h1
        rw [List.take_succ_eq_append_getElem hl, List.count_append, HL.out, List.getD_eq_getElem?_getD, List.getElem?_eq_getElem hl]
        simp [List.count_cons]
      obtain ⟨c, hc⟩ : ∃ c, (shapeP t).getD k 0 = c := ⟨_, rfl⟩
      rw [hc] at hG hst
      clear hc HL
      have hml : m < y.size := by omega
      have hbg := bget y m hml
      rw [hm] at hG
      rw [hG] at hbg
      clear hG
      have hm1 : Hid (x + (k + 1) = m + 1) := by show _ = _; omega
      have hmM : Hid (m < M) := by show _ < _; omega
      by_cases h70 : c = 70
      · have c0 : ((c.toNat : Int) == 70) = true := by rw [h70]; rfl
        rw [if_pos h70] at hst
        have HL3 : Hid (((shapeP t).take (k + 1)).count 70 = o + 1) := hst
        clear hst h70 hm hMM
        go_wp2_with fail
        go_roundw
        case rel => exact ⟨k + 1, o + 1, m + 1, by omega, by omega, by go_num, by go_num, hm1, HL3, hb⟩
        case measure => have := hmM.out; simp [intOf]; omega
      · have c0 : ((c.toNat : Int) == 70) = false := by
          rw [beq_eq_false_iff_ne]; intro e; exact h70 (UInt8.toNat_inj.1 (by show c.toNat = 70; omega))
        rw [if_neg h70] at hst
        have HL3 : Hid (((shapeP t).take (k + 1)).count 70 = o) := hst
        clear hst h70 hm hMM
        go_wp2_with fail
        go_roundw
        case rel => exact ⟨k + 1, o, m + 1, by omega, by omega, rfl, by go_num, hm1, HL3, hb⟩
        case measure => have := hmM.out; simp [intOf]; omega
    · obtain rfl : k = L := by omega
      have hoC : o = C := by rw [← HL.out, ← HC.out.1, List.take_of_length_le (by rw [HC.out.2]; exact Nat.le_refl _)]
      subst hoC
      have z3 : decide ((m : Int) < (M : Int)) = false := by rw [decide_eq_false_iff_not]; omega
      have z4 : decide (m < M) = false := by rw [decide_eq_false_iff_not]; omega
      clear HL HC HG hm hMM Hm HM
      go_wp2_with fail
      go_ret
      exact ⟨rfl, hb⟩
end Go.Proofs.YtibjhkpgaaapaaaGreatDoor
namespace Go.Proofs.YtibjhkpgaaapaaaGreatDoor
open Go.RowKit Go.Proofs.Sha

/-- Small parts throughout. -/
def smP (wd : Nat) : PT → Prop
  | .f k v l r => (k.size ≤ 1048576 ∧ v.size ≤ 1048576 ∧ (hashP wd l).size ≤ 1048576 ∧ (hashP wd r).size ≤ 1048576) ∧ smP wd l ∧ smP wd r
  | _ => True
theorem rdP_sm {s lo hi : ByteArray} {wd : Nat} (h32 : wd ≤ 32) : ∀ (f a : Nat) (over under par : ByteArray) (cnt : Nat) (t : PT) (a' c' : Nat), rdP s lo hi wd f a over under par cnt = some (t, a', c') → smP wd t
  | 0, _, _, _, _, _, _, _, _, h => by cases h
  | f + 1, a, over, under, par, cnt, t, a', c', h => by
    rw [rdP] at h
    split at h
    · split at h
      · cases h; trivial
      · split at h
        · split at h
          · cases h; trivial
          · cases h
        · split at h
          · split at h
            · rename_i hx
              obtain ⟨_, _, _, hat⟩ := hx
              split at h
              · cases h
              · rename_i l a3 c3 hl
                split at h
                · cases h
                · rename_i r a4 c4 hr
                  cases h
                  unfold okAt at hat
                  obtain ⟨h1, h2⟩ := (Bool.and_eq_true _ _).mp hat
                  obtain ⟨hk, hv⟩ := (Bool.and_eq_true _ _).mp h1
                  obtain ⟨hi', _⟩ := (Bool.and_eq_true _ _).mp h2
                  unfold okKey at hk
                  unfold okVal at hv
                  have hk := of_decide_eq_true hk
                  have hv := of_decide_eq_true hv
                  have s1 := rdP_hsz f _ _ _ _ _ _ _ _ hl h32
                  have s2 := rdP_hsz f _ _ _ _ _ _ _ _ hr h32
                  exact ⟨⟨by have := hk.2; omega, by omega, by omega, by omega⟩, rdP_sm h32 f _ _ _ _ _ _ _ _ hl, rdP_sm h32 f _ _ _ _ _ _ _ _ hr⟩
            · cases h
          · cases h
    · cases h
theorem accP_sm {n : Int} {root lo hi s : ByteArray} {t : PT} (h : accP n root lo hi s = some t) : smP n.toNat t ∧ ∃ m : Nat, n = (m : Int) := by
  unfold accP at h
  split at h
  · rename_i hw
    obtain ⟨m, rfl, _, hm2⟩ := isW_out ((Bool.and_eq_true _ _).mp hw).1
    cases hr : rdP s lo hi (m : Int).toNat 501 0 ⟨#[]⟩ ⟨#[]⟩ ⟨#[]⟩ 0 with
    | none => rw [hr] at h; cases h
    | some Y =>
      obtain ⟨t', a', c'⟩ := Y
      rw [hr] at h
      unfold accQ at h
      simp only at h
      split at h
      · cases h; exact ⟨rdP_sm (by omega) 501 _ _ _ _ _ _ _ _ hr, m, rfl⟩
      · cases h
  · cases h
/-- A proof's nodes stand in a list at a place. -/
def NdAt (wd : Nat) (ns : List NodeT) (i : Nat) (t : PT) : Prop := ∃ rest, ns.drop i = nodesP wd t ++ rest
theorem NdAt.left {wd : Nat} {ns : List NodeT} {i : Nat} {k v : ByteArray} {l r : PT} (h : NdAt wd ns i (.f k v l r)) : NdAt wd ns (i + 1) l := by
  obtain ⟨rest, h⟩ := h
  refine ⟨nodesP wd r ++ rest, ?_⟩
  rw [← List.drop_drop, h]
  show (nodesP wd l ++ nodesP wd r ++ rest) = _
  rw [List.append_assoc]
theorem NdAt.right {wd : Nat} {ns : List NodeT} {i : Nat} {k v : ByteArray} {l r : PT} (h : NdAt wd ns i (.f k v l r)) : NdAt wd ns (i + 1 + cP l) r := by
  obtain ⟨rest, h⟩ := h
  refine ⟨rest, ?_⟩
  rw [← List.drop_drop, ← List.drop_drop, h]
  show (nodesP wd l ++ nodesP wd r ++ rest).drop _ = _
  rw [List.append_assoc, ← nodesP_len wd l, List.drop_left]
theorem NdAt.top {wd : Nat} {ns : List NodeT} {i : Nat} {k v : ByteArray} {l r : PT} (h : NdAt wd ns i (.f k v l r)) : i < ns.length ∧ ns.getD i noNode = (k, v, hashP wd l, hashP wd r) := by
  obtain ⟨rest, h⟩ := h
  have h0 : (ns.drop i)[0]? = some (k, v, hashP wd l, hashP wd r) := by rw [h]; rfl
  rw [List.getElem?_drop, Nat.add_zero] at h0
  exact ⟨(List.getElem?_eq_some_iff.1 h0).1, by rw [List.getD_eq_getElem?_getD, h0]; rfl⟩
/-- Where the first two nodes that differ stand. -/
def seekI (wd : Nat) : Nat → Nat → PT → PT → Option (Nat × Nat)
  | i, j, .f k v l r, .f k2 v2 l2 r2 => if encF wd k v l r ≠ encF wd k2 v2 l2 r2 then some (i, j) else match seekI wd (i + 1) (j + 1) l l2 with | some q => some q | none => seekI wd (i + 1 + cP l) (j + 1 + cP l2) r r2
  | _, _, _, _ => none
def seekV : Option (Nat × Nat) → Value
  | some (p, q) => .tuple #[.int .i64 (p : Int), .int .i64 (q : Int)]
  | none => .tuple #[.int .i64 (-1), .int .i64 (-1)]
def encN (wd : Nat) (x : NodeT) : ByteArray := encS x.1 x.2.1 x.2.2.1 x.2.2.2 wd
theorem seek_twin (wd : Nat) (n1 n2 : List NodeT) : ∀ (s t : PT) (i j : Nat), NdAt wd n1 i s → NdAt wd n2 j t → (seekI wd i j s t = none ∧ twinP wd s t = none) ∨ ∃ p q, seekI wd i j s t = some (p, q) ∧ p < n1.length ∧ q < n2.length ∧ twinP wd s t = some (encN wd (n1.getD p noNode), encN wd (n2.getD q noNode)) := by
  intro s
  induction s with
  | e => intro t i j _ _; exact .inl ⟨by unfold seekI; rfl, by unfold twinP; rfl⟩
  | s h => intro t i j _ _; exact .inl ⟨by unfold seekI; rfl, by unfold twinP; rfl⟩
  | f k v l r ihl ihr =>
    intro t i j h1 h2
    cases t with
    | e => exact .inl ⟨by unfold seekI; rfl, by unfold twinP; rfl⟩
    | s h => exact .inl ⟨by unfold seekI; rfl, by unfold twinP; rfl⟩
    | f k2 v2 l2 r2 =>
      rw [seekI, twinP]
      by_cases hne : encF wd k v l r ≠ encF wd k2 v2 l2 r2
      · rw [if_pos hne, if_pos hne]
        obtain ⟨q1, q2⟩ := h1.top
        obtain ⟨q3, q4⟩ := h2.top
        exact .inr ⟨i, j, rfl, q1, q3, by rw [q2, q4]; rfl⟩
      · rw [if_neg hne, if_neg hne]
        rcases ihl l2 _ _ h1.left h2.left with ⟨e1, e2⟩ | ⟨p, q, e1, e2, e3, e4⟩
        · rw [e1, e2]
          exact ihr r2 _ _ h1.right h2.right
        · rw [e1, e4]
          exact .inr ⟨p, q, rfl, e2, e3, rfl⟩
end Go.Proofs.YtibjhkpgaaapaaaGreatDoor
