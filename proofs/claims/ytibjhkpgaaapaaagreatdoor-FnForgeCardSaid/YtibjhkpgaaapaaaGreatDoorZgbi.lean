import Derived.Test.YtibjhkpgaaapaaaGreatDoorZgbh
import Derived.Test.YtibjhkpgaaapaaaGreatDoorZgan
import Derived.Test.YtibjhkpgaaapaaaGreatDoorZgbd
set_option maxRecDepth 100000
set_option maxHeartbeats 2000000
namespace Go.Proofs.YtibjhkpgaaapaaaGreatDoor
open Go.RowKit Go.Proofs.Sha

/-- What Extract finds. -/
def exR (n : Int) (lo hi : ByteArray) (R1 R2 : Option PT) : Option (ByteArray × ByteArray) :=
  match R1, R2 with
  | some s, some t => if shP lo hi s = shP lo hi t then none else twinP n.toNat s t
  | _, _ => none
def exV (R : Option (ByteArray × ByteArray)) : Value := .tuple #[.string (resT R).1, .string (resT R).2, .bool (!R.isNone)]
theorem iextract_any (n : Int) (root lo hi s1 s2 : ByteArray) (w : World) (hs1 : s1.size ≤ 1048576) (hs2 : s2.size ≤ 1048576) (hr : root.size ≤ 1048576) (hK : KT w) :
    Calls Tryz.prog 10 #[.int .i64 n, .string root, .string lo, .string hi, .string s1, .string s2] w fun e w' => e = .returned (exV (exR n lo hi (accP n root lo hi s1) (accP n root lo hi s2))) ∧ Below w.heap.size w w' := by
  have hbA : Below w.heap.size w (w.alloc (.cells #[.string lo, .string hi] 75)) := (Below.refl _ _).alloc (Nat.le_refl _) _
  have nA := heap_alloc_new w (.cells #[.string lo, .string hi] 75)
  have HA := acc_any n root lo hi s1 (w.alloc (.cells #[.string lo, .string hi] 75)) hs1 hr (hK.below hbA)
  have HB := fun w' (hb : Below w.heap.size w w') => acc_any n root lo hi s2 w' hs2 hr (hK.below hb)
  have hsm1 := fun t => shP_smallP lo hi (n := n) (root := root) (s := s1) (t := t)
  have hsm2 := fun t => shP_smallP lo hi (n := n) (root := root) (s := s2) (t := t)
  have hcn1 := fun t => accP_cnt (n := n) (root := root) (lo := lo) (hi := hi) (s := s1) (t := t)
  have hcn2 := fun t => accP_cnt (n := n) (root := root) (lo := lo) (hi := hi) (s := s2) (t := t)
  generalize accP n root lo hi s1 = R1 at HA hsm1 hcn1 ⊢
  generalize accP n root lo hi s2 = R2 at HB hsm2 hcn2 ⊢
  have c0 := Lib.cell_of_heap nA 0
  have c1 := Lib.cell_of_heap nA 1
  clear hK hs1 hs2 hr
  cases R1 with
  | none =>
    have HA2 : Calls Tryz.prog 41 #[.int .i64 n, .string root, .agg #[.string lo, .string hi], .string s1] (w.alloc (.cells #[.string lo, .string hi] 75)) fun e w' => e = .returned (.tuple #[.nilIface, .bool false]) ∧ Below w.heap.size w w' := by
      refine HA.mono ?_
      rintro e w' ⟨_, he, hb⟩
      exact ⟨he rfl, hbA.trans (hb.mono hbA.size)⟩
    have HP : Hid (∀ w', Below w.heap.size w w' → Ending.returned (.tuple #[.string ⟨#[]⟩, .string ⟨#[]⟩, .bool false]) = .returned (exV (exR n lo hi none R2)) ∧ Below w.heap.size w w') := fun w' hb => ⟨rfl, hb⟩
    clear HA HB hsm1 hsm2 hcn1 hcn2 nA
    go_enter Tryz.func10, Tryz.ntmps10
    go_wp2_with (first | (go_at_call 41; refine HA2.mono ?_; rintro e w2 ⟨rfl, hb2⟩))
    exact bodyPost_ret (v := .tuple #[.string ⟨#[]⟩, .string ⟨#[]⟩, .bool false]) (by simp [results, Tryz.results10, go_sem]) rfl (HP.out _ hb2)
  | some s =>
    have hct1 := hcn1 s rfl
    have hsa := (hsm1 s rfl).1
    have HA2 : Calls Tryz.prog 41 #[.int .i64 n, .string root, .agg #[.string lo, .string hi], .string s1] (w.alloc (.cells #[.string lo, .string hi] 75)) fun e w' => ∃ T y, e = .returned (.tuple #[.iface T y, .bool true]) ∧ PA n.toNat 0 s (.iface T y) w' ∧ Below w.heap.size w w' ∧ w'.heap[w.heap.size]? = some (.cells #[.string lo, .string hi] 75) := by
      refine HA.mono ?_
      rintro e w' ⟨hy, _, hb⟩
      obtain ⟨T, y, he, hp⟩ := hy s rfl
      have n2 := below_cells hb nA
      exact ⟨T, y, he, hp.mono (Nat.zero_le _), hbA.trans (hb.mono hbA.size), n2⟩
    obtain ⟨ga, hga⟩ : ∃ ga, w.heap.size = ga := ⟨_, rfl⟩
    cases R2 with
    | none =>
      have HB2 : Hid (∀ W, Below w.heap.size w W → W.heap[ga]? = some (.cells #[.string lo, .string hi] 75) → Calls Tryz.prog 41 #[.int .i64 n, .string root, .agg #[.string lo, .string hi], .string s2] W fun e w' => e = .returned (.tuple #[.nilIface, .bool false]) ∧ Below w.heap.size w w' ∧ w'.heap[ga]? = some (.cells #[.string lo, .string hi] 75)) := fun W hW hn => by
        refine (HB W hW).mono ?_
        rintro e w' ⟨_, he, hb⟩
        exact ⟨he rfl, hW.trans (hb.mono hW.size), below_cells hb hn⟩
      have HP : Hid (∀ w', Below w.heap.size w w' → Ending.returned (.tuple #[.string ⟨#[]⟩, .string ⟨#[]⟩, .bool false]) = .returned (exV (exR n lo hi (some s) none)) ∧ Below w.heap.size w w') := fun w' hb => ⟨rfl, hb⟩
      clear HA HB hsm1 hsm2 hcn1 hcn2 nA hct1 hsa
      go_enter Tryz.func10, Tryz.ntmps10
      go_upto_region 3 with (first | (go_at_call_of 41 (Value.string s1); refine HA2.mono ?_; rintro e w2 ⟨tx, yx, rfl, hp2, hb2, n2⟩))
      rw [hga] at n2
      try rw [hga]
      have d0 := Lib.cell_of_heap n2 0
      have d1 := Lib.cell_of_heap n2 1
      go_upto_region 6 with (first | (go_at_call_of 41 (Value.string s2); refine (HB2.out _ hb2 n2).mono ?_; rintro e w3 ⟨rfl, hb3, n3⟩))
      clear d0 d1
      have d0 := Lib.cell_of_heap n3 0
      have d1 := Lib.cell_of_heap n3 1
      go_quiet (first | fail)
      go_wp2_with fail
      exact bodyPost_ret (v := .tuple #[.string ⟨#[]⟩, .string ⟨#[]⟩, .bool false]) (by simp [results, Tryz.results10, go_sem]) rfl (HP.out _ (draws_below _ hb3))
    | some t =>
      have hct2 := hcn2 t rfl
      have hsb := (hsm2 t rfl).1
      have HB2 : Hid (∀ W, Below w.heap.size w W → Calls Tryz.prog 41 #[.int .i64 n, .string root, .agg #[.string lo, .string hi], .string s2] W fun e w' => ∃ T y, e = .returned (.tuple #[.iface T y, .bool true]) ∧ PA n.toNat 0 t (.iface T y) w' ∧ Below W.heap.size W w') := fun W hW => by
        refine (HB W hW).mono ?_
        rintro e w' ⟨hy, _, hb⟩
        obtain ⟨T, y, he, hp⟩ := hy t rfl
        exact ⟨T, y, he, hp.mono (Nat.zero_le _), hb⟩
      have HS1 : Hid (∀ T y W, PA n.toNat 0 s (.iface T y) W → Calls Tryz.prog 43 #[.iface T y, .agg #[.string lo, .string hi]] W fun e W' => ∃ a c, e = .returned (.slice a (shP lo hi s).length c) ∧ PArg a (shP lo hi s) W' ∧ Below W.heap.size W W') := fun T y W hp => by
        refine (shownBy_any n.toNat _ lo hi s _ W hp hct1).mono ?_
        rintro e w'' ⟨⟨a, c, he, ho⟩, hb2⟩
        exact ⟨a, c, he, own_parg ho hsa, hb2⟩
      have HS2 : Hid (∀ T y W, PA n.toNat 0 t (.iface T y) W → Calls Tryz.prog 43 #[.iface T y, .agg #[.string lo, .string hi]] W fun e W' => ∃ a c, e = .returned (.slice a (shP lo hi t).length c) ∧ PArg a (shP lo hi t) W' ∧ Below W.heap.size W W') := fun T y W hp => by
        refine (shownBy_any n.toNat _ lo hi t _ W hp hct2).mono ?_
        rintro e w'' ⟨⟨a, c, he, ho⟩, hb2⟩
        exact ⟨a, c, he, own_parg ho hsb, hb2⟩
      have HT : Hid (∀ W p q, PB n.toNat 0 s p W → PB n.toNat 0 t q W → Calls Tryz.prog 44 #[.agg #[.pointer p, .pointer q], .func (.func 46) #[] #[]] W fun e W' => e = .returned (exV (twinP n.toNat s t)) ∧ Below W.heap.size W W') := fun W p q h1 h2 => twins5_any n.toNat 0 s t p q W h1 h2
      have HF1 : Hid (∀ T y W, PA n.toNat 0 s (.iface T y) W → Calls Tryz.prog 45 #[.iface T y] W fun e W' => e = .returned (.pointer (ptrV (.iface T y))) ∧ W = W') := fun T y W hp => asFull_any n.toNat 0 s _ W hp
      have HF2 : Hid (∀ T y W, PA n.toNat 0 t (.iface T y) W → Calls Tryz.prog 45 #[.iface T y] W fun e W' => e = .returned (.pointer (ptrV (.iface T y))) ∧ W = W') := fun T y W hp => asFull_any n.toNat 0 t _ W hp
      have hex : Hid (exR n lo hi (some s) (some t) = if shP lo hi s = shP lo hi t then none else twinP n.toNat s t) := rfl
      obtain ⟨RR, hRR⟩ : ∃ RR, exR n lo hi (some s) (some t) = RR := ⟨_, rfl⟩
      rw [hRR] at hex ⊢
      clear HA HB hsm1 hsm2 hcn1 hcn2 nA hct1 hsa hct2 hsb hRR
      generalize shP lo hi s = P at HS1 hex
      generalize shP lo hi t = Q at HS2 hex
      have HE : Hid (∀ a c b d W, PArg a P W → PArg b Q W → Calls Tryz.prog 42 #[.slice a P.length c, .slice b Q.length d] W fun e W' => e = .returned (.bool (decide (P = Q))) ∧ Below W.heap.size W W') := fun a c b d W h1 h2 => equal_any a b P Q c d W h1 h2
      generalize P.length = LP at HS1 HE
      generalize Q.length = LQ at HS2 HE
      go_enter Tryz.func10, Tryz.ntmps10
      go_upto_region 5 with (first | (go_at_call_of 41 (Value.string s1); refine HA2.mono ?_; rintro e w2 ⟨tx, yx, rfl, hp2, hb2, n2⟩))
      rw [hga] at n2
      try rw [hga]
      have d0 := Lib.cell_of_heap n2 0
      have d1 := Lib.cell_of_heap n2 1
      go_upto_region 6 with (first | (go_at_call_of 41 (Value.string s2); refine (HB2.out _ hb2).mono ?_; rintro e w3 ⟨ty, yy, rfl, hq3, hb3⟩))
      have hp3 := hp2.below hb3
      have n3 := below_cells hb3 n2
      have hw3 := hb2.trans (hb3.mono hb2.size)
      clear hb3 n2 hb2 hp2 d0 d1 HA2 HB2 c0 c1 hbA
      have d0 := Lib.cell_of_heap n3 0
      have d1 := Lib.cell_of_heap n3 1
      have hC : Hid (∀ W : World, Below w3.heap.size w3 W → W.cell? ⟨ga, 0, none⟩ = some (.string lo) ∧ W.cell? ⟨ga, 1, none⟩ = some (.string hi)) := fun W hW => ⟨Lib.cell_of_heap (below_cells hW n3) 0, Lib.cell_of_heap (below_cells hW n3) 1⟩
      cases heq : decide (P = Q) with
      | true =>
        have hR : Hid (exV RR = .tuple #[.string ⟨#[]⟩, .string ⟨#[]⟩, .bool false]) := by
          show exV RR = _
          rw [hex.out, if_pos (of_decide_eq_true heq)]
          rfl
        rw [heq] at HE
        clear hex heq
        go_region_held3 (fun W => W.cell? ⟨ga, 0, none⟩ = some (.string lo) ∧ W.cell? ⟨ga, 1, none⟩ = some (.string hi)) (first | exact ⟨d0, d1⟩ | exact hC.out _ hx6 | exact hC.out _ hx5 | exact hC.out _ hx4) (first | (go_at_call_of 43 (Value.iface tx yx); refine (HS1.out _ _ _ (hp3.below (Below.refl w3.heap.size w3).drew)).mono ?_; rintro e w4 ⟨a4, c4, rfl, pa4, hb4⟩; have hx4 : Below w3.heap.size w3 w4 := (Below.refl w3.heap.size w3).drew.trans hb4) | (go_at_call_of 43 (Value.iface ty yy); refine (HS2.out _ _ _ (hq3.below hx4)).mono ?_; rintro e w5 ⟨a5, c5, rfl, pa5, hb5⟩; have hx5 : Below w3.heap.size w3 w5 := hx4.trans (hb5.mono hx4.size); have pa4' := pa4.below hb5) | (go_at_call 42; refine (HE.out _ _ _ _ _ pa4' pa5).mono ?_; rintro e w6 ⟨rfl, hb6⟩; have hx6 : Below w3.heap.size w3 w6 := hx5.trans (hb6.mono hx5.size)))
        have hw6 := hw3.trans (hx6.mono hw3.size)
        go_wp2_with fail
        exact bodyPost_ret (v := .tuple #[.string ⟨#[]⟩, .string ⟨#[]⟩, .bool false]) (by simp [results, Tryz.results10, go_sem]) rfl ⟨by rw [hR.out], hw6⟩
      | false =>
        have hR : Hid (RR = twinP n.toNat s t) := by
          show RR = _
          rw [hex.out, if_neg (of_decide_eq_false heq)]
        rw [heq] at HE
        clear hex heq
        go_region_held3 (fun W => W.cell? ⟨ga, 0, none⟩ = some (.string lo) ∧ W.cell? ⟨ga, 1, none⟩ = some (.string hi)) (first | exact ⟨d0, d1⟩ | exact hC.out _ hx6 | exact hC.out _ hx5 | exact hC.out _ hx4) (first | (go_at_call_of 43 (Value.iface tx yx); refine (HS1.out _ _ _ (hp3.below (Below.refl w3.heap.size w3).drew)).mono ?_; rintro e w4 ⟨a4, c4, rfl, pa4, hb4⟩; have hx4 : Below w3.heap.size w3 w4 := (Below.refl w3.heap.size w3).drew.trans hb4) | (go_at_call_of 43 (Value.iface ty yy); refine (HS2.out _ _ _ (hq3.below hx4)).mono ?_; rintro e w5 ⟨a5, c5, rfl, pa5, hb5⟩; have hx5 : Below w3.heap.size w3 w5 := hx4.trans (hb5.mono hx4.size); have pa4' := pa4.below hb5) | (go_at_call 42; refine (HE.out _ _ _ _ _ pa4' pa5).mono ?_; rintro e w6 ⟨rfl, hb6⟩; have hx6 : Below w3.heap.size w3 w6 := hx5.trans (hb6.mono hx5.size)))
        have hw6 := hw3.trans (hx6.mono hw3.size)
        have hp6 := hp3.below hx6
        have hq6 := hq3.below hx6
        have HF1' := HF1.out _ _ _ hp6
        have HF2' := HF2.out _ _ _ hq6
        have HT' := HT.out w6 _ _ hp6.pb hq6.pb
        generalize ptrV (.iface tx yx) = px at HF1' HT'
        generalize ptrV (.iface ty yy) = py at HF2' HT'
        obtain ⟨⟨x1, x2⟩, hx12⟩ : ∃ X : ByteArray × ByteArray, resT (twinP n.toNat s t) = X := ⟨_, rfl⟩
        obtain ⟨x3, hx3⟩ : ∃ x3, (!(twinP n.toNat s t).isNone) = x3 := ⟨_, rfl⟩
        have hv : Hid (exV RR = .tuple #[.string x1, .string x2, .bool x3]) := by
          show exV RR = _
          rw [hR.out]
          unfold exV
          rw [hx12, hx3]
        unfold exV at HT'
        rw [hx12, hx3] at HT'
        clear HF1 HF2 HT hp6 hq6 hx12 hx3 hR hp3 hq3 HS1 HS2 HE pa4 pa5 pa4' hC
        go_wp2_with (first | (go_at_call_of 45 (Value.iface tx yx); refine HF1'.mono ?_; rintro e w7 ⟨rfl, rfl⟩) | (go_at_call_of 45 (Value.iface ty yy); refine HF2'.mono ?_; rintro e w8 ⟨rfl, rfl⟩) | (go_at_call 44; refine HT'.mono ?_; rintro e w9 ⟨rfl, hb9⟩))
        exact bodyPost_ret (v := .tuple #[.string x1, .string x2, .bool x3]) (by simp [results, Tryz.results10, go_sem]) rfl ⟨by rw [hv.out], hw6.trans (hb9.mono hw6.size)⟩
theorem IsEnc.inj {s : ByteArray} {n : Int} {k v l r k2 v2 l2 r2 : ByteArray} (h : IsEnc s n k v l r) (h2 : IsEnc s n k2 v2 l2 r2) : k = k2 ∧ v = v2 ∧ l = l2 ∧ r = r2 := by
  obtain ⟨_, e1, p1⟩ := h.parts
  obtain ⟨_, e2, p2⟩ := h2.parts
  obtain ⟨_, e3, p3⟩ := p1 _ rfl
  obtain ⟨_, e4, p4⟩ := p2 _ rfl
  obtain ⟨e5, e6⟩ := p3 _ rfl
  obtain ⟨e7, e8⟩ := p4 _ rfl
  obtain ⟨s1, s2⟩ := h.sides e5 e6
  obtain ⟨s3, s4⟩ := h2.sides e7 e8
  refine ⟨e1.trans e2.symm, e3.trans e4.symm, ?_⟩
  by_cases hf : (s.data.toList.getD (0 + 2 + szAt s 0 + 2 + szAt s (0 + 2 + szAt s 0)) 0).toNat % 2 = 1
  · exact ⟨(s1 hf).2.1.trans (s3 hf).2.1.symm, (s1 hf).2.2.trans (s3 hf).2.2.symm⟩
  · exact ⟨(s2 hf).1.trans (s4 hf).1.symm, (s2 hf).2.trans (s4 hf).2.symm⟩
theorem okNode (k v l r : ByteArray) (m : Nat) (h1 : 1 ≤ m) (h2 : m ≤ 32) (hk : okKey k = true) (hv : okVal v = true) (hl : l.size = 0 ∨ l.size = m) (hr : r.size = 0 ∨ r.size = m) : nodeOk k.size v.size l.size r.size (m : Int) = true := by
  unfold okKey at hk
  unfold okVal at hv
  rw [decide_eq_true_eq] at hk hv
  unfold nodeOk hashOk
  rw [Bool.and_eq_true, Bool.and_eq_true, decide_eq_true_eq]
  refine ⟨by omega, ?_, ?_⟩
  · rw [Bool.or_eq_true, decide_eq_true_eq, decide_eq_true_eq]; omega
  · rw [Bool.or_eq_true, decide_eq_true_eq, decide_eq_true_eq]; omega
/-- What a proof that was read keeps to. -/
def vwP (wd : Nat) (lo hi : ByteArray) : ByteArray → ByteArray → PT → Prop
  | _, _, .e => True
  | over, under, .s h => canW over under lo hi = false ∧ h.size = wd
  | over, under, .f k v l r => canW over under lo hi = true ∧ okKey k = true ∧ okVal v = true ∧ vwP wd lo hi over k l ∧ vwP wd lo hi k under r
theorem rdP_vw {s lo hi : ByteArray} {wd : Nat} : ∀ (f a : Nat) (over under par : ByteArray) (cnt : Nat) (t : PT) (a' c' : Nat), rdP s lo hi wd f a over under par cnt = some (t, a', c') → vwP wd lo hi over under t
  | 0, _, _, _, _, _, _, _, _, h => by cases h
  | f + 1, a, over, under, par, cnt, t, a', c', h => by
    rw [rdP] at h
    split at h
    · split at h
      · cases h; exact True.intro
      · split at h
        · split at h
          · rename_i hh
            cases h
            refine ⟨hh.1, ?_⟩
            rw [ByteArray.size_extract]
            omega
          · cases h
        · split at h
          · rename_i hF
            split at h
            · rename_i hx
              obtain ⟨_, _, _, ho⟩ := hx
              split at h
              · cases h
              · rename_i l a3 c3 hl
                split at h
                · cases h
                · rename_i r a4 c4 hr
                  cases h
                  unfold okAt at ho
                  simp only [Bool.and_eq_true] at ho
                  exact ⟨hF.2, ho.1.1, ho.1.2, rdP_vw f _ _ _ _ _ _ _ _ hl, rdP_vw f _ _ _ _ _ _ _ _ hr⟩
            · cases h
          · cases h
    · cases h
theorem vwP_sz (wd : Nat) (h2 : wd ≤ 32) (lo hi : ByteArray) {over under : ByteArray} {t : PT} (h : vwP wd lo hi over under t) : (hashP wd t).size = 0 ∨ (hashP wd t).size = wd := by
  cases t with
  | e => exact .inl rfl
  | s x => exact .inr h.2
  | f k v l r => exact .inr (digB_size _ _ h2)
/-- What a search through two proofs tells. -/
def twG (wd : Nat) (lo hi : ByteArray) (s t : PT) : Option (ByteArray × ByteArray) → Prop
  | some q => q.1 ≠ q.2 ∧ digB q.1 wd = digB q.2 wd ∧ q.1.size ≤ 10000 ∧ q.2.size ≤ 10000
  | none => shP lo hi s = shP lo hi t
/-- Two proofs that show one hash: they show the same pairs, or two encodings with one digest. -/
theorem twinP_sh (wd : Nat) (h1 : 1 ≤ wd) (h2 : wd ≤ 32) (lo hi : ByteArray) : ∀ (s t : PT) (over under : ByteArray), vwP wd lo hi over under s → vwP wd lo hi over under t → hashP wd s = hashP wd t →
    twG wd lo hi s t (twinP wd s t)
  | .e, .e, _, _, _, _, _ => rfl
  | .e, .s x, _, _, _, hb, he => by
    exfalso
    have e := congrArg ByteArray.size he
    have e2 : (hashP wd (.s x)).size = wd := hb.2
    have e3 : (hashP wd .e).size = 0 := rfl
    omega
  | .e, .f k v l r, _, _, _, _, he => by
    exfalso
    have e := congrArg ByteArray.size he
    have e2 : (hashP wd (.f k v l r)).size = wd := digB_size _ _ h2
    have e3 : (hashP wd .e).size = 0 := rfl
    omega
  | .s x, .e, _, _, ha, _, he => by
    exfalso
    have e := congrArg ByteArray.size he
    have e2 : (hashP wd (.s x)).size = wd := ha.2
    have e3 : (hashP wd .e).size = 0 := rfl
    omega
  | .f k v l r, .e, _, _, _, _, he => by
    exfalso
    have e := congrArg ByteArray.size he
    have e2 : (hashP wd (.f k v l r)).size = wd := digB_size _ _ h2
    have e3 : (hashP wd .e).size = 0 := rfl
    omega
  | .s _, .s _, _, _, _, _, _ => rfl
  | .s _, .f _ _ _ _, _, _, ha, hb, _ => by have := ha.1.symm.trans hb.1; cases this
  | .f _ _ _ _, .s _, _, _, ha, hb, _ => by have := ha.1.symm.trans hb.1; cases this
  | .f k v l r, .f k2 v2 l2 r2, over, under, ⟨_, ak, av, al, ar⟩, ⟨_, bk, bv, bl, br⟩, he => by
    by_cases hE : encF wd k v l r = encF wd k2 v2 l2 r2
    · have a1 := okNode k v _ _ wd h1 h2 ak av (vwP_sz wd h2 lo hi al) (vwP_sz wd h2 lo hi ar)
      have a2 := okNode k2 v2 _ _ wd h1 h2 bk bv (vwP_sz wd h2 lo hi bl) (vwP_sz wd h2 lo hi br)
      have i1 : IsEnc (encF wd k v l r) wd k v (hashP wd l) (hashP wd r) := ⟨a1, by show encS _ _ _ _ _ = _; unfold encS; rw [if_pos a1]⟩
      have i2 : IsEnc (encF wd k2 v2 l2 r2) wd k2 v2 (hashP wd l2) (hashP wd r2) := ⟨a2, by show encS _ _ _ _ _ = _; unfold encS; rw [if_pos a2]⟩
      rw [← hE] at i2
      obtain ⟨e1, e2, e3, e4⟩ := i1.inj i2
      subst e1 e2
      have hT : twinP wd (.f k v l r) (.f k v l2 r2) = match twinP wd l l2 with | some q => some q | none => twinP wd r r2 := by
        show (if encF wd k v l r ≠ encF wd k v l2 r2 then _ else _) = _
        rw [if_neg (fun h => h hE)]
        cases twinP wd l l2 <;> rfl
      rw [hT]
      have il := twinP_sh wd h1 h2 lo hi l l2 over k al bl e3
      have ir := twinP_sh wd h1 h2 lo hi r r2 k under ar br e4
      cases hc : twinP wd l l2 with
      | some q => rw [hc] at il; exact il
      | none =>
        rw [hc] at il
        show twG wd lo hi _ _ (twinP wd r r2)
        cases hd : twinP wd r r2 with
        | some q => rw [hd] at ir; exact ir
        | none =>
          rw [hd] at ir
          replace il : shP lo hi l = shP lo hi l2 := il
          replace ir : shP lo hi r = shP lo hi r2 := ir
          show shP lo hi l ++ _ ++ shP lo hi r = shP lo hi l2 ++ _ ++ shP lo hi r2
          rw [il, ir]
    · have hT : twinP wd (.f k v l r) (.f k2 v2 l2 r2) = some (encF wd k v l r, encF wd k2 v2 l2 r2) := by
        show (if encF wd k v l r ≠ encF wd k2 v2 l2 r2 then _ else _) = _
        rw [if_pos hE]
      rw [hT]
      exact ⟨hE, he, (encS_size ..).1, (encS_size ..).1⟩
/-- What Extract finds, of two proofs that are accepted. -/
theorem exR_ok {n : Int} {root lo hi s1 s2 : ByteArray} {s t : PT} (h1 : accP n root lo hi s1 = some s) (h2 : accP n root lo hi s2 = some t) (hd : shP lo hi s ≠ shP lo hi t) :
    ∃ a b, exR n lo hi (some s) (some t) = some (a, b) ∧ a ≠ b ∧ digB a n.toNat = digB b n.toNat ∧ a.size ≤ 10000 ∧ b.size ≤ 10000 := by
  have key : ∀ {q : ByteArray} {u : PT}, accP n root lo hi q = some u → 1 ≤ n ∧ n ≤ 32 ∧ vwP n.toNat lo hi ⟨#[]⟩ ⟨#[]⟩ u ∧ hashP n.toNat u = root := by
    intro q u h
    unfold accP at h
    split at h
    · rename_i hw
      cases hr : rdP q lo hi n.toNat 501 0 ⟨#[]⟩ ⟨#[]⟩ ⟨#[]⟩ 0 with
      | none => rw [hr] at h; cases h
      | some Y =>
        obtain ⟨t', a', c'⟩ := Y
        rw [hr] at h
        unfold accQ at h
        simp only at h
        split at h
        · rename_i hx
          cases h
          unfold isW at hw
          simp only [Bool.and_eq_true, decide_eq_true_eq] at hw
          exact ⟨hw.1.1, hw.1.2, rdP_vw 501 _ _ _ _ _ _ _ _ hr, hx.2⟩
        · cases h
    · cases h
  obtain ⟨w1, w2, v1, e1⟩ := key h1
  obtain ⟨_, _, v2, e2⟩ := key h2
  have h := twinP_sh n.toNat (by omega) (by omega) lo hi s t _ _ v1 v2 (e1.trans e2.symm)
  have hx : exR n lo hi (some s) (some t) = twinP n.toNat s t := if_neg hd
  rw [hx]
  cases hc : twinP n.toNat s t with
  | none => rw [hc] at h; exact absurd h hd
  | some q => rw [hc] at h; exact ⟨q.1, q.2, rfl, h⟩
end Go.Proofs.YtibjhkpgaaapaaaGreatDoor
