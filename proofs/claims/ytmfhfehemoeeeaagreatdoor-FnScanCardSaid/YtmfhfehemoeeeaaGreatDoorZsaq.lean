import Derived.Test.YtmfhfehemoeeeaaGreatDoorZsap
set_option maxRecDepth 100000
set_option maxHeartbeats 1000000
namespace Go.Proofs.YtmfhfehemoeeeaaGreatDoor
open Go.RowKit Go.Proofs.Sha

/-- What stands once the text is taken. -/
structure CS (w : World) (fb r : Nat) (s : ByteArray) (a : Nat) (f : Bool) (W : World) : Prop where
  sz : w.heap.size = fb
  lt : r < fb
  rd : Rd r s a f W
  mv : Mv r w W
  rb : RB (fb + 1) 0 ⟨#[]⟩ 0 ⟨#[]⟩ 0 W
theorem BS.low {w : World} {fb r b : Nat} {s : ByteArray} {a : Nat} {f : Bool} {l : List UInt8} {W W' : World} (h : BS w fb r b s a f l W) (hb : Below b W W') : CS w fb r s a f W' :=
  have h1 := h.lt; have h2 := h.bb; have h3 := h.sz
  ⟨h.sz, h.lt, (hb.block r (by omega)).trans h.rd, ⟨hb.os.trans h.mv.os, hb.tape.trans h.mv.tape, hb.output.trans h.mv.output, Nat.le_trans h.mv.size hb.size, fun k hk hr => (hb.block k (by omega)).trans (h.mv.block k hk hr)⟩, (hb.block (fb + 1) (by omega)).trans h.rb⟩
theorem CS.below {w : World} {fb r : Nat} {s : ByteArray} {a : Nat} {f : Bool} {W W' : World} (h : CS w fb r s a f W) (hb : Below W.heap.size W W') : CS w fb r s a f W' :=
  ⟨h.sz, h.lt, h.rd.below hb, h.mv.trans (Mv.of_below r hb), below_cells hb h.rb⟩
theorem CS.move {w : World} {fb r : Nat} {s : ByteArray} {a : Nat} {f : Bool} {W W' : World} (h : CS w fb r s a f W) {a' : Nat} {f' : Bool} (hr : Rd r s a' f' W') (hm : Mv r W W') : CS w fb r s a' f' W' :=
  have h1 := h.lt
  ⟨h.sz, h.lt, hr, h.mv.trans hm, hm.cells h.rb (by omega)⟩

theorem nodeRec_take (r : Nat) (s : ByteArray) (a : Nat) (w : World) (h : Rd r s a false w) (ha : a ≤ s.size) (hs : s.size ≤ 1048576) :
    Calls Tryz.prog 132 #[.agg #[], .pointer (some ⟨r, 0, none⟩)] w fun e w' => ∃ (k v nx : Int) (enc root : ByteArray) (a' : Nat) (f' : Bool), e = .returned (recV k enc v root nx) ∧ Hid (NodeR s a k enc v root nx a' f') ∧ a' ≤ s.size ∧ Rd r s a' f' w' ∧ Mv r w w' := by
  have hlt := h.lt
  obtain ⟨fb, hfb⟩ : ∃ fb, w.heap.size = fb := ⟨_, rfl⟩
  obtain ⟨w0, hw0⟩ : ∃ w0, w0 = (w.alloc (.cells #[] 68)).alloc (.cells #[.int .i64 0, .string ⟨#[]⟩, .int .i64 0, .string ⟨#[]⟩, .int .i64 0] 66) := ⟨_, rfl⟩
  have hr0 : Rd r s a false w0 := by rw [hw0]; exact (h.alloc _).alloc _
  have hm0 : Mv r w w0 := by rw [hw0]; exact ((Mv.refl r w).alloc _).alloc _
  have hb0 : RB (fb + 1) 0 ⟨#[]⟩ 0 ⟨#[]⟩ 0 w0 := by
    rw [hw0]; unfold RB; rw [show fb + 1 = (w.alloc (.cells #[] 68)).heap.size by simp [hfb]]; exact heap_alloc_new _ _
  have hz0 : fb + 2 ≤ w0.heap.size := by rw [hw0]; simp [hfb]
  go_enter Tryz.func132, Tryz.ntmps132
  go_wp2_with fail
  rw [← hw0]
  clear hw0 h
  refine (rsec 83 r s a false _ hr0 ha hs (by omega) (by omega)).mono ?_
  rintro e w1 ⟨t1, a1, f1, rfl, H1, hf1, ha1, ht1, hr1, hm1⟩
  have hmw1 := hm0.trans hm1
  have hb1 : RB (fb + 1) 0 ⟨#[]⟩ 0 ⟨#[]⟩ 0 w1 := hm1.cells hb0 (by omega)
  have hz1 : fb + 2 ≤ w1.heap.size := Nat.le_trans hz0 hm1.size
  clear hm0 hm1 hb0 hr0 hz0
  go_wp2_with fail
  refine (recNum_any _).mono ?_
  rintro e w2 ⟨rfl, hb2⟩
  obtain ⟨r2, hr2e⟩ : ∃ r2, w1.heap.size = r2 := ⟨_, rfl⟩
  have hr2 : Rd r2 t1 0 false w2 := Rd.below (by unfold Rd; rw [← hr2e]; exact heap_alloc_new _ _) hb2
  have hA2 : Below w1.heap.size w1 w2 := ((Below.refl _ w1).alloc (Nat.le_refl _) _).trans (hb2.mono (by simp))
  rw [hr2e]
  go_wp2_with fail
  refine (rint 4 true r2 t1 0 false _ hr2 (Nat.zero_le _) (by omega) (by omega) (by omega)).mono ?_
  rintro e w3 ⟨N, t3, a3, f3, rfl, H3, HV, ha3, hN, hr3, hm3⟩
  have hA3 : Below w1.heap.size w1 w3 := hA2.trans (hm3.to_below (by have := hA2.size; omega) (by omega))
  have hrr3 : Rd r s a1 f1 w3 := hr1.below hA3
  have hmw3 : Mv r w w3 := hmw1.trans (Mv.of_below r hA3)
  have hb3 : RB (fb + 1) 0 ⟨#[]⟩ 0 ⟨#[]⟩ 0 w3 := below_cells hA3 hb1
  have hz3 : fb + 2 ≤ w3.heap.size := Nat.le_trans hz1 hA3.size
  clear hA3 hA2 hm3 hr3 hb2 hr2 hr1 hmw1 hb1 hz1
  have HVs : Hid (∀ w', Calls Tryz.prog 29 #[.int .i64 (N : Int)] w' fun e w'' => e = .returned (.bool (decide (1 ≤ N ∧ N ≤ 4000))) ∧ w' = w'') := fun w' => vsize_any N w'
  have hfirst := num_first H1.out hf1 H3.out HV.out
  by_cases hv : 1 ≤ N ∧ N ≤ 4000
  · rw [decide_eq_true hv] at HVs
    have hmk := hfirst.2 hv.1
    obtain ⟨rfl, ht1e, rfl, HNn⟩ := hfirst.1 hmk
    have HT1 : Hid (t1 = s.extract a (a + 63)) := ht1e
    have HNum : Hid (N = numAt s a) := HNn
    have HMK : Hid (a + 64 ≤ s.size ∧ (s.data.toList.getD (a + 63) 0).toNat = 83) := hmk
    clear hfirst H1 H3 HV hf1 ht1e HNn hmk
    go_wp2_with (first | (go_at_call 29; refine (HVs.out _).mono ?_; rintro e w4 ⟨rfl, rfl⟩))
    have ht1s : t1.size ≤ 63 := by rw [HT1.out, ByteArray.size_extract]; omega
    obtain ⟨b, hb⟩ : ∃ b, w3.heap.size = b := ⟨_, rfl⟩
    have hS3 : BS w fb r b s (a + 64) false [] (w3.alloc (.cells #[.pointer none, .slice none 0 0] 106)) := by
      refine ⟨hfb, by omega, by omega, ?_, hrr3.alloc _, hmw3.alloc _, below_cells ((Below.refl _ _).alloc (Nat.le_refl _) _) hb3⟩
      rw [← hb]; exact fresh_bld w3
    rw [hb]
    refine (ws_any b [] t1 _ hS3.bld (by show 0 + t1.size ≤ _; omega)).mono ?_
    rintro e w4 ⟨rfl, hp4⟩
    have hS4 := hS3.put hp4
    rw [List.nil_append] at hS4
    clear hp4 hS3 hb3 hmw3 hrr3 HVs
    go_wp2_with fail
    refine (recNum_any _).mono ?_
    rintro e w5 ⟨rfl, hb5⟩
    have hS5 := hS4.below hb5
    clear hS4 hb5
    obtain ⟨q, hq⟩ : ∃ q, secs N = q := ⟨_, rfl⟩
    have hq1 : 1 ≤ q ∧ q ≤ 65 ∧ N + 4 ≤ 63 * q := by rw [← hq]; unfold secs; omega
    have HQ : Hid (secs N = q) := hq
    have HSF : Hid (∀ w', Calls Tryz.prog 140 #[.int .i64 (4 + (N : Int))] w' fun e w'' => e = .returned (.int .i64 (q : Int)) ∧ w' = w'') := fun w' => by
      have := secsFor_any (4 + N) w' (by omega)
      rw [show ((4 + N : Nat) : Int) = 4 + (N : Int) by omega, show (4 + N + 62) / 63 = q by rw [← hq]; unfold secs; congr 1; omega] at this
      exact this
    clear hq
    have hfld : ∀ w : World, (Instr.field 197 (.agg #[.int .i64 4, .bool true]) 0).run Tryz.prog w = .ok (.int .i64 4) w := fun _ => by kernel_rfl
    have y1 : IntKind.i64.wrap (4 + (N : Int)) = 4 + (N : Int) := wrap_i64_in _ (by omega) (by omega)
    have y2 : IntKind.i64.wrap ((q : Int) - 1) = (q : Int) - 1 := wrap_i64_in _ (by omega) (by omega)
    go_wp2_with (first | (go_at_call 140; refine (HSF.out _).mono ?_; rintro e w6 ⟨rfl, rfl⟩))
    have HM0 : Hid (MI s a 0 (a + 64) false t1.data.toList) := .inl ⟨rfl, fun j h1 h2 => by omega, by omega, by rw [unTo, unTo, List.nil_append, HT1.out]; rfl⟩
    have ha64 : a + 64 ≤ s.size := HMK.out.1
    clear hfld HSF
    go_loopw [34] (fun t34 wr => ∃ (i a' : Nat) (f' : Bool) (l : List UInt8), i + 1 ≤ q ∧ t34 = .int .i64 (i : Int) ∧ BS w fb r b s a' f' l wr ∧ a' ≤ s.size ∧ l.length ≤ 63 * (i + 1) ∧ Hid (MI s a i a' f' l)) (fun t34 _ => q - (intOf t34).toNat)
    case atStart => exact ⟨0, a + 64, false, t1.data.toList, hq1.1, rfl, hS5, ha64, ht1s, HM0⟩
    case round =>
      obtain ⟨i, a', f', l, hi, rfl, hS, ha', hl, HM⟩ := hrel
      by_cases h1 : i + 1 < q
      · have z1 : decide ((i : Int) < (q : Int) - 1) = true := by simp; omega
        have z1' : decide ((i : Int) + 1 < (q : Int)) = true := by simp; omega
        go_wp2_with fail
        refine (rsec 77 r s a' f' _ hS.rd ha' hs (by omega) (by omega)).mono ?_
        rintro e w7 ⟨t7, a7, f7, rfl, H7, hf7, ha7, ht7, hr7, hm7⟩
        have hS7 := hS.move hr7 hm7
        have h7s := H7.out.small hf7
        have HM7 : Hid (MI s a (i + 1) a7 f7 (l ++ t7.data.toList)) := HM.out.step H7.out
        clear hr7 hm7 hf7 H7 HM
        go_wp2_with fail
        refine (ws_any b l t7 _ hS7.bld (by omega)).mono ?_
        rintro e w8 ⟨rfl, hp8⟩
        have hS8 := hS7.put hp8
        go_wp2_with fail
        refine ⟨⟨i + 1, a7, f7, l ++ t7.data.toList, by omega, congrArg (Value.int .i64) (by omega), hS8, ha7, ?_, HM7⟩, ?_⟩
        · rw [List.length_append]; show l.length + t7.size ≤ _; omega
        · show q - ((i : Int) + 1).toNat < q - ((i : Int)).toNat
          omega
      · have e : i + 1 = q := by omega
        have z1 : decide ((i : Int) < (q : Int) - 1) = false := by simp; omega
        have z1' : decide ((i : Int) + 1 < (q : Int)) = false := by simp; omega
        go_wp2_with fail
        refine (bstring b l _ hS.bld).mono ?_
        rintro e w7 ⟨rfl, hb7⟩
        have hS7 := hS.low hb7
        go_wp2_with fail
        refine (nodeBody_any _).mono ?_
        rintro e w8 ⟨rfl, hb8⟩
        have hS8 := hS7.below hb8
        go_wp2_with fail
        refine (whole_S (T l) _ (by rw [T_size]; omega)).mono ?_
        rintro e w9 ⟨t, t', a2, f2, bb, rfl, HP, HB, ht', ha2, hts, hb9⟩
        have hS9 := hS8.below hb9
        clear hS8 hS7 hS hb7 hb8 hb9
        have HNo : Hid (¬ (f' = false ∧ f2 = false ∧ a2 = (T l).size) → ∀ enc, ¬ IsNode s a enc) := fun hno enc => node_no HQ.out HNum.out e HM.out HP.out hno enc
        have HYes : Hid (f' = false → f2 = false → a2 = (T l).size → IsNode s a t ∧ a' = a + 64 * secs t.size) := fun hf hf2 h2 => by
          subst hf hf2
          exact node_yes HQ.out HNum.out hv.1 hv.2 HMK.out e HM.out HP.out h2
        clear HM HP HQ HNum HMK HT1 HM0 hS5 z1 z1' e
        by_cases hok : f2 = false ∧ a2 = (T l).size
        · have hbb : bb = true := by rw [HB.out, decide_eq_true hok]
          subst hbb
          have htt : t' = t := by rw [ht', if_pos rfl]
          subst htt
          have HO : Hid (f2 = false ∧ a2 = (T l).size) := hok
          clear hok ht' HB
          obtain ⟨c0, c1, c2, c3, c4, g0, g1, g2, g3, g4⟩ := RB.at hS9.rb
          go_wp2_with fail
          have hF := fin5 hS9.rd hS9.mv hfb (Nat.le_succ fb) (by omega)
          refine retRec rfl (RecAt.set5 ⟨c0, c1, c2, c3, c4, g0, g1, g2, g3, g4⟩ 1 t' 0 ⟨#[]⟩ 0) rfl rfl ⟨1, 0, 0, t', ⟨#[]⟩, a', f', rfl, ?_, ha', (hF _ _ _ _ _).1, (hF _ _ _ _ _).2⟩
          cases f'
          · have := HYes.out rfl HO.out.1 HO.out.2
            exact .inl ⟨rfl, this.1, this.2, rfl, rfl, rfl, rfl⟩
          · exact .inr ⟨rfl, HNo.out (by rintro ⟨h, _⟩; cases h)⟩
        · have hbb : bb = false := by rw [HB.out, decide_eq_false hok]
          subst hbb
          have htt : t' = ⟨#[]⟩ := by rw [ht', if_neg (by simp)]
          subst htt
          have HO : Hid (∀ enc, ¬ IsNode s a enc) := HNo.out fun h => hok h.2
          clear hok ht' HB
          go_wp2_with (first | (go_at_call 97; refine (fail_any r s a' f' _ hS9.rd).mono ?_; rintro e wA ⟨rfl, hrA, hmA⟩; have hSA := hS9.move hrA hmA; obtain ⟨c0, c1, c2, c3, c4, g0, g1, g2, g3, g4⟩ := RB.at hSA.rb))
          have hF := fin5 hSA.rd hSA.mv hfb (Nat.le_succ fb) (by omega)
          exact retRec rfl (RecAt.set5 ⟨c0, c1, c2, c3, c4, g0, g1, g2, g3, g4⟩ 1 ⟨#[]⟩ 0 ⟨#[]⟩ 0) rfl rfl ⟨1, 0, 0, ⟨#[]⟩, ⟨#[]⟩, a', true, rfl, .inr ⟨rfl, HO.out⟩, ha', (hF _ _ _ _ _).1, (hF _ _ _ _ _).2⟩
  · rw [decide_eq_false hv] at HVs
    have HNo : Hid (∀ enc', ¬ IsNode s a enc') := fun enc' hE => by
      have hp := hE.parts
      have := (hfirst.1 ⟨hp.1, by rw [hp.2.1]; rfl⟩).2.2.2
      rw [hp.2.2.1] at this
      exact hv ⟨by rw [this]; exact hE.1, by rw [this]; exact hE.2.1⟩
    clear hfirst H1 H3 HV hf1
    go_wp2_with (first | (go_at_call 29; refine (HVs.out _).mono ?_; rintro e w4 ⟨rfl, rfl⟩) | (go_at_call 97; refine (fail_any r s a1 f1 _ hrr3).mono ?_; rintro e w5 ⟨rfl, hr5, hm5⟩; obtain ⟨c0, c1, c2, c3, c4, g0, g1, g2, g3, g4⟩ := RB.at (show RB (fb + 1) 0 ⟨#[]⟩ 0 ⟨#[]⟩ 0 w5 from hm5.cells hb3 (by omega))))
    have hF := fin5 hr5 (hmw3.trans hm5) hfb (Nat.le_succ fb) (by omega)
    exact retRec rfl (RecAt.set5 ⟨c0, c1, c2, c3, c4, g0, g1, g2, g3, g4⟩ 0 ⟨#[]⟩ 0 ⟨#[]⟩ 0) rfl rfl ⟨0, 0, 0, ⟨#[]⟩, ⟨#[]⟩, a1, true, rfl, .inr ⟨rfl, HNo.out⟩, ha1, (hF _ _ _ _ _).1, (hF _ _ _ _ _).2⟩
theorem vcommit_any (v : Nat) (root : ByteArray) (w : World) : Calls Tryz.prog 31 #[.int .i64 (v : Int), .string root] w fun e w' => e = .returned (.bool (decide (1 ≤ v ∧ v ≤ 1000000 ∧ root.size ≤ 32))) ∧ w = w' := by
  by_cases h1 : 1 ≤ v
  · by_cases h2 : v ≤ 1000000
    · by_cases h3 : root.size ≤ 32
      · have z1 : decide ((1 : Int) ≤ (v : Int)) = true := by simp; omega
        have z2 : decide ((v : Int) ≤ 1000000) = true := by simp; omega
        have z3 : decide ((root.size : Int) ≤ 32) = true := by simp; omega
        rw [decide_eq_true ⟨h1, h2, h3⟩]
        go_enter Tryz.func31, Tryz.ntmps31
        go_wp2
        go_ret
        exact ⟨rfl, rfl⟩
      · have z1 : decide ((1 : Int) ≤ (v : Int)) = true := by simp; omega
        have z2 : decide ((v : Int) ≤ 1000000) = true := by simp; omega
        have z3 : decide ((root.size : Int) ≤ 32) = false := by simp; omega
        rw [decide_eq_false (by omega)]
        go_enter Tryz.func31, Tryz.ntmps31
        go_wp2
        go_ret
        exact ⟨rfl, rfl⟩
    · have z1 : decide ((1 : Int) ≤ (v : Int)) = true := by simp; omega
      have z2 : decide ((v : Int) ≤ 1000000) = false := by simp; omega
      rw [decide_eq_false (by omega)]
      go_enter Tryz.func31, Tryz.ntmps31
      go_wp2
      go_ret
      exact ⟨rfl, rfl⟩
  · have z1 : decide ((1 : Int) ≤ (v : Int)) = false := by simp; omega
    rw [decide_eq_false (by omega)]
    go_enter Tryz.func31, Tryz.ntmps31
    go_wp2
    go_ret
    exact ⟨rfl, rfl⟩

/-- What commitForm.take answers and leaves. -/
def KR (s : ByteArray) (a : Nat) (f : Bool) (v : Nat) (root : ByteArray) (a' : Nat) (f' : Bool) : Prop :=
  ∃ (t1 : ByteArray) (a1 : Nat) (f1 f2 : Bool), NX s a f 4 t1 a1 f1 ∧ v = valTo 4 true (byteAt t1) t1.size ∧ SX 1 false s a1 f1 root a' f2 ∧ f' = (f2 || !decide (1 ≤ v ∧ v ≤ 1000000 ∧ root.size ≤ 32))

theorem RB.s2 {g : Nat} {k : Int} {enc : ByteArray} {v : Int} {root : ByteArray} {nx : Int} {w : World} (h : RB g k enc v root nx w) (x : Int) : RB g k enc x root nx (w.setCell ⟨g, 2, none⟩ (.int .i64 x)) := heap_setCell_same w g 2 _ 66 _ h
theorem RB.s3 {g : Nat} {k : Int} {enc : ByteArray} {v : Int} {root : ByteArray} {nx : Int} {w : World} (h : RB g k enc v root nx w) (x : ByteArray) : RB g k enc v x nx (w.setCell ⟨g, 3, none⟩ (.string x)) := heap_setCell_same w g 3 _ 66 _ h

/-- What stands while a commit is read. -/
structure KS (w : World) (fb r : Nat) (s : ByteArray) (a : Nat) (f : Bool) (v : Int) (root : ByteArray) (W : World) : Prop where
  sz : w.heap.size = fb
  lt : r < fb
  rd : Rd r s a f W
  mv : Mv r w W
  rb : RB (fb + 1) 0 ⟨#[]⟩ 0 ⟨#[]⟩ 0 W
  nb : RB (fb + 1 + 1) 2 ⟨#[]⟩ v root 0 W
section
variable {w : World} {fb r : Nat} {s : ByteArray} {a : Nat} {f : Bool} {v : Int} {root : ByteArray} {W W' : World}
theorem KS.below (h : KS w fb r s a f v root W) (hb : Below W.heap.size W W') : KS w fb r s a f v root W' :=
  ⟨h.sz, h.lt, h.rd.below hb, h.mv.trans (Mv.of_below r hb), below_cells hb h.rb, below_cells hb h.nb⟩
theorem KS.move (h : KS w fb r s a f v root W) {a' : Nat} {f' : Bool} (hr : Rd r s a' f' W') (hm : Mv r W W') : KS w fb r s a' f' v root W' :=
  have hl := h.lt
  ⟨h.sz, h.lt, hr, h.mv.trans hm, hm.cells h.rb (by omega), hm.cells h.nb (by omega)⟩
theorem KS.s2 (h : KS w fb r s a f v root W) (y : Int) : KS w fb r s a f y root (W.setCell ⟨fb + 1 + 1, 2, none⟩ (.int .i64 y)) :=
  have hl := h.lt
  ⟨h.sz, h.lt, h.rd.other (by omega), h.mv.other h.sz (by omega), set_other h.rb (by omega), h.nb.s2 y⟩
theorem KS.s3 (h : KS w fb r s a f v root W) (y : ByteArray) : KS w fb r s a f v y (W.setCell ⟨fb + 1 + 1, 3, none⟩ (.string y)) :=
  have hl := h.lt
  ⟨h.sz, h.lt, h.rd.other (by omega), h.mv.other h.sz (by omega), set_other h.rb (by omega), h.nb.s3 y⟩
end

theorem commit_take (r : Nat) (s : ByteArray) (a : Nat) (f : Bool) (w : World) (h : Rd r s a f w) (ha : a ≤ s.size) (hs : s.size ≤ 1048576) :
    Calls Tryz.prog 202 #[.agg #[], .pointer (some ⟨r, 0, none⟩)] w fun e w' => ∃ (v : Nat) (root : ByteArray) (a' : Nat) (f' : Bool), e = .returned (recV 2 ⟨#[]⟩ (v : Int) root 0) ∧ Hid (KR s a f v root a' f') ∧ a' ≤ s.size ∧ Rd r s a' f' w' ∧ Mv r w w' := by
  have hlt := h.lt
  obtain ⟨fb, hfb⟩ : ∃ fb, w.heap.size = fb := ⟨_, rfl⟩
  obtain ⟨w0, hw0⟩ : ∃ w0, w0 = ((w.alloc (.cells #[] 219)).alloc (.cells #[.int .i64 0, .string ⟨#[]⟩, .int .i64 0, .string ⟨#[]⟩, .int .i64 0] 66)).alloc (.cells #[.int .i64 2, .string ⟨#[]⟩, .int .i64 0, .string ⟨#[]⟩, .int .i64 0] 66) := ⟨_, rfl⟩
  have hS0 : KS w fb r s a f 0 ⟨#[]⟩ w0 := by
    refine ⟨hfb, by omega, ?_, ?_, ?_, ?_⟩
    · rw [hw0]; exact ((h.alloc _).alloc _).alloc _
    · rw [hw0]; exact (((Mv.refl r w).alloc _).alloc _).alloc _
    · rw [hw0]; refine below_cells ((Below.refl _ _).alloc (Nat.le_refl _) _) ?_
      rw [show fb + 1 = (w.alloc (.cells #[] 219)).heap.size by simp [hfb]]; exact heap_alloc_new _ _
    · rw [hw0]; unfold RB; rw [show fb + 1 + 1 = ((w.alloc (.cells #[] 219)).alloc (.cells #[.int .i64 0, .string ⟨#[]⟩, .int .i64 0, .string ⟨#[]⟩, .int .i64 0] 66)).heap.size by simp [hfb]]; exact heap_alloc_new _ _
  go_enter Tryz.func202, Tryz.ntmps202
  go_wp2_with fail
  rw [← hw0]
  clear hw0 h
  refine (recNum_any _).mono ?_
  rintro e w1 ⟨rfl, hb1⟩
  have hS1 := hS0.below hb1
  clear hS0 hb1
  go_wp2_with fail
  refine (rint 4 true r s a f _ hS1.rd ha hs (by omega) (by omega)).mono ?_
  rintro e w2 ⟨v, t1, a1, f1, rfl, H1, HV, ha1, hv, hr2, hm2⟩
  have hS2 := hS1.move hr2 hm2
  clear hS1 hr2 hm2
  have c2 : w2.cell? ⟨fb + 1 + 1, 2, none⟩ = some (.int .i64 0) := Lib.cell_of_heap hS2.nb 2
  have g2 : w2.frozen? ⟨fb + 1 + 1, 2, none⟩ = false := frozen_of_heap hS2.nb
  go_wp2_with fail
  obtain ⟨w3, hw3⟩ : ∃ w3, w3 = w2.setCell ⟨fb + 1 + 1, 2, none⟩ (.int .i64 (v : Int)) := ⟨_, rfl⟩
  have hS3 : KS w fb r s a1 f1 (v : Int) ⟨#[]⟩ w3 := by rw [hw3]; exact hS2.s2 _
  rw [← hw3]
  clear hw3 hS2 c2 g2
  refine (rsized 1 false r s a1 f1 _ hS3.rd ha1 hs (by omega) (by omega)).mono ?_
  rintro e w4 ⟨root, a', f2, rfl, H2, ha', hrt, hr4, hm4⟩
  have hS4 := hS3.move hr4 hm4
  clear hS3 hr4 hm4
  have HK : Hid (∀ f', f' = (f2 || !decide (1 ≤ v ∧ v ≤ 1000000 ∧ root.size ≤ 32)) → KR s a f v root a' f') := fun f' hf' => ⟨t1, a1, f1, f2, H1.out, HV.out, H2.out, hf'⟩
  obtain ⟨z, hz⟩ : ∃ z, decide (1 ≤ v ∧ v ≤ 1000000 ∧ root.size ≤ 32) = z := ⟨_, rfl⟩
  have HVc : Hid (∀ w', Calls Tryz.prog 31 #[.int .i64 (v : Int), .string root] w' fun e w'' => e = .returned (.bool z) ∧ w' = w'') := fun w' => by rw [← hz]; exact vcommit_any v root w'
  rw [hz] at HK
  clear H1 HV H2 hz
  have c3 : w4.cell? ⟨fb + 1 + 1, 3, none⟩ = some (.string ⟨#[]⟩) := Lib.cell_of_heap hS4.nb 3
  have g3 : w4.frozen? ⟨fb + 1 + 1, 3, none⟩ = false := frozen_of_heap hS4.nb
  have c2 : w4.cell? ⟨fb + 1 + 1, 2, none⟩ = some (.int .i64 (v : Int)) := Lib.cell_of_heap hS4.nb 2
  go_wp2_with fail
  obtain ⟨w5, hw5⟩ : ∃ w5, w5 = w4.setCell ⟨fb + 1 + 1, 3, none⟩ (.string root) := ⟨_, rfl⟩
  have hS5 : KS w fb r s a' f2 (v : Int) root w5 := by rw [hw5]; exact hS4.s3 _
  rw [← hw5]
  clear hw5 hS4 c3 g3 c2
  refine (HVc.out _).mono ?_
  rintro e w6 ⟨rfl, rfl⟩
  have HEnd : Hid (∀ (W : World) (f' : Bool), f' = (f2 || !z) → KS w fb r s a' f' (v : Int) root W → ∀ (A : Act), A.tmps.getD 4 undef = .pointer (some ⟨fb + 1, 0, none⟩) → A.defers = [] →
      bodyPost Tryz.prog Tryz.f202 (fun e w' => ∃ (v : Nat) (root : ByteArray) (a' : Nat) (f' : Bool), e = .returned (recV 2 ⟨#[]⟩ (v : Int) root 0) ∧ Hid (KR s a f v root a' f') ∧ a' ≤ s.size ∧ Rd r s a' f' w' ∧ Mv r w w') .ret A
        (((((W.setCell ⟨fb + 1, 0, none⟩ (.int .i64 2)).setCell ⟨fb + 1, 1, none⟩ (.string ⟨#[]⟩)).setCell ⟨fb + 1, 2, none⟩ (.int .i64 (v : Int))).setCell ⟨fb + 1, 3, none⟩ (.string root)).setCell ⟨fb + 1, 4, none⟩ (.int .i64 0))) := by
    intro W f' hf' hS A h4 hd
    have hF := fin5 hS.rd hS.mv hfb (Nat.le_succ fb) (by omega)
    exact retRec rfl (RecAt.set5 (RB.at hS.rb) 2 ⟨#[]⟩ (v : Int) root 0) h4 hd ⟨v, root, a', f', rfl, HK.out f' hf', ha', (hF _ _ _ _ _).1, (hF _ _ _ _ _).2⟩
  clear HK HVc
  cases z
  · go_wp2_with fail
    refine (fail_any r s a' f2 _ hS5.rd).mono ?_
    rintro e w7 ⟨rfl, hr7, hm7⟩
    have hS7 := hS5.move hr7 hm7
    obtain ⟨c0, c1, c2, c3, c4, g0, g1, g2, g3, g4⟩ := RB.at hS7.rb
    obtain ⟨d0, d1, d2, d3, d4, k0, k1, k2, k3, k4⟩ := RB.at hS7.nb
    go_wp2_with fail
    exact HEnd.out _ true (by simp) hS7 _ rfl rfl
  · obtain ⟨c0, c1, c2, c3, c4, g0, g1, g2, g3, g4⟩ := RB.at hS5.rb
    obtain ⟨d0, d1, d2, d3, d4, k0, k1, k2, k3, k4⟩ := RB.at hS5.nb
    go_wp2_with fail
    exact HEnd.out _ f2 (by simp) hS5 _ rfl rfl
end Go.Proofs.YtmfhfehemoeeeaaGreatDoor
