import Derived.Test.YtibjhkpgaaapaaaGreatDoorZgay
import Derived.Test.YtibjhkpgaaapaaaGreatDoorZgam
import Derived.Defers
import Derived.Recover
set_option maxRecDepth 100000
set_option maxHeartbeats 4000000
namespace Go.Proofs.YtibjhkpgaaapaaaGreatDoor
open Go.RowKit Go.Proofs.Sha

theorem SubPost.bad {q rb wd : Nat} {lo hi s : ByteArray} {R : Option (PT × Nat × Nat)} {w w' : World} (hR : R = none) (hm : Mw q rb w w') : SubPost q rb wd lo hi s R w badP w' := ⟨fun t a' c' h => (by rw [hR] at h; cases h), fun _ => rfl, hm⟩
theorem SubPost.good {q rb wd : Nat} {lo hi s : ByteArray} {R : Option (PT × Nat × Nat)} {w w' : World} {t : PT} {a c : Nat} {x : Value} (hR : R = some (t, a, c)) (hp : PA wd w.heap.size t x w') (hr : RS q rb wd lo hi s a c w') (hm : Mw q rb w w') : SubPost q rb wd lo hi s R w (.returned x) w' := ⟨fun t' a' c' h => (by rw [hR] at h; cases h; exact ⟨x, rfl, hp, hr⟩), fun h => (by rw [hR] at h; cases h), hm⟩
theorem sub_step (q rb wd : Nat) (h1 : 1 ≤ wd) (h2 : wd ≤ 32) (lo hi s : ByteArray) (hs : s.size ≤ 1048576) (f : Nat) (HS : Hid (SubSaid q rb wd lo hi s f)) : SubSaid q rb wd lo hi s (f + 1) := by
  intro over under pk par a cnt w hR hP hK ha hc hfu
  obtain ⟨R, hRe⟩ : ∃ R, rdP s lo hi wd (f + 1) a over under pk cnt = R := ⟨_, rfl⟩
  rw [hRe]
  rw [rdP] at hRe
  have hRe : Hid _ := hRe
  have hA : Below w.heap.size w (w.alloc (.cells #[.string over, .string under, .pointer par] 144)) := (Below.refl _ _).alloc (Nat.le_refl _) _
  have nA := heap_alloc_new w (.cells #[.string over, .string under, .pointer par] 144)
  have hF0 : ∃ ga, FF q rb wd lo hi s over under pk par ga w a cnt (w.alloc (.cells #[.string over, .string under, .pointer par] 144)) := ⟨w.heap.size, hR.below hA, Mw.of_below hA, rfl, nA, hP.mw hR (Mw.of_below hA), hK.below hA⟩
  clear hR hP hK nA
  go_enter Tryz.func96, Tryz.ntmps96
  go_upto_region 1 with fail
  generalize w.alloc (.cells #[.string over, .string under, .pointer par] 144) = W0 at hF0 hA ⊢
  obtain ⟨ga, hF⟩ := hF0
  rw [hF.sz]
  clear hA
  by_cases hlt : a < s.size
  case neg =>
    have hRn : Hid (R = none) := by show _ = _; rw [← hRe.out, if_neg hlt]
    have HN : Hid (∀ W, FF q rb wd lo hi s over under pk par ga w a cnt W → Calls Tryz.prog 140 #[.pointer (some ⟨q, 0, none⟩), .iface 208 (.agg #[.int .i64 1, .bool false])] W fun e W' => e = badP ∧ Mw q rb w W') := fun W hW => by
      refine (rp_letter_no q rb wd lo hi s cnt a W hW.rs.pr hW.rs.rd hs ha hlt).mono ?_
      rintro e W' ⟨he, hm⟩
      exact ⟨he, hW.mw.trans (Mw.of_mv hm)⟩
    clear hlt
    go_wp2_with (first | (go_at_call 141; refine (letter_any _).mono ?_; rintro e w2 ⟨rfl, hb2⟩; have hF1 := hF.below hb2) | (go_at_call 140; refine (HN.out _ hF1).mono ?_; rintro e w3 ⟨rfl, hm3⟩))
    exact ⟨rfl, SubPost.bad hRn.out hm3⟩
  have HL : Hid (∀ W, FF q rb wd lo hi s over under pk par ga w a cnt W → Calls Tryz.prog 140 #[.pointer (some ⟨q, 0, none⟩), .iface 208 (.agg #[.int .i64 1, .bool false])] W fun e W' => e = .returned (.int .i64 (bAt s a : Int)) ∧ FF q rb wd lo hi s over under pk par ga w (a + 1) cnt W') := fun W hW => by
    refine (rp_letter_ok q rb wd lo hi s cnt a W hW.rs.pr hW.rs.rd hs hlt).mono ?_
    rintro e W' ⟨he, hr, hm⟩
    exact ⟨he, hW.step (hW.rs.step hr hm) (Mw.of_mv hm)⟩
  have HC : Hid (∀ W, Calls Tryz.prog 142 #[.agg #[.string lo, .string hi], .agg #[.string over, .string under, .pointer par]] W fun e W' => e = .returned (.bool (canW over under lo hi)) ∧ Below W.heap.size W W') := fun W => can_any lo hi over under par W
  have hRe2 : Hid ((if bAt s a = 69 then some (PT.e, a + 1, cnt)
      else if bAt s a = 83 then
        if canW over under lo hi = false ∧ a + 1 + wd ≤ s.size then some (PT.s (s.extract (a + 1) (a + 1 + wd)), a + 1 + wd, cnt) else none
      else if bAt s a = 70 ∧ canW over under lo hi = true then rdF s lo hi wd f (a + 1) over under pk cnt else none) = R) := by
    show _ = _
    rw [← hRe.out, if_pos hlt]
    rfl
  have ha1 : a + 1 ≤ s.size := hlt
  clear hRe hlt
  obtain ⟨b, hb⟩ : ∃ b, bAt s a = b := ⟨_, rfl⟩
  rw [hb] at HL hRe2
  clear hb
  obtain ⟨cw, hcw⟩ : ∃ cw, canW over under lo hi = cw := ⟨_, rfl⟩
  rw [hcw] at HC hRe2
  clear hcw
  go_upto_region 2 with (first | (go_at_call 141; refine (letter_any _).mono ?_; rintro e w2 ⟨rfl, hb2⟩; have hF1 := hF.below hb2) | (go_at_call 140; refine (HL.out _ hF1).mono ?_; rintro e w3 ⟨rfl, hF2⟩))
  clear hF hF1 hb2 HL
  clear w2 W0
  have a0 : w3.cell? ⟨ga, 0, none⟩ = some (.string over) := Lib.cell_of_heap hF2.na 0
  have a1' : w3.cell? ⟨ga, 1, none⟩ = some (.string under) := Lib.cell_of_heap hF2.na 1
  have a2' : w3.cell? ⟨ga, 2, none⟩ = some (.pointer par) := Lib.cell_of_heap hF2.na 2
  have q2 : w3.cell? ⟨q, 2, none⟩ = some (.string lo) := Lib.cell_of_heap hF2.rs.pr 2
  have q3 : w3.cell? ⟨q, 3, none⟩ = some (.string hi) := Lib.cell_of_heap hF2.rs.pr 3
  have hC2 : Hid (∀ W, FF q rb wd lo hi s over under pk par ga w (a + 1) cnt W → W.cell? ⟨ga, 0, none⟩ = some (.string over) ∧ W.cell? ⟨ga, 1, none⟩ = some (.string under) ∧ W.cell? ⟨ga, 2, none⟩ = some (.pointer par) ∧ W.cell? ⟨q, 2, none⟩ = some (.string lo) ∧ W.cell? ⟨q, 3, none⟩ = some (.string hi)) := fun W hW => ⟨Lib.cell_of_heap hW.na 0, Lib.cell_of_heap hW.na 1, Lib.cell_of_heap hW.na 2, Lib.cell_of_heap hW.rs.pr 2, Lib.cell_of_heap hW.rs.pr 3⟩
  go_region_held3 (fun W => W.cell? ⟨ga, 0, none⟩ = some (.string over) ∧ W.cell? ⟨ga, 1, none⟩ = some (.string under) ∧ W.cell? ⟨ga, 2, none⟩ = some (.pointer par) ∧ W.cell? ⟨q, 2, none⟩ = some (.string lo) ∧ W.cell? ⟨q, 3, none⟩ = some (.string hi)) (first | exact ⟨a0, a1', a2', q2, q3⟩ | exact hC2.out _ hF3) (first | (go_at_call 142; refine (HC.out _).mono ?_; rintro e w4 ⟨rfl, hb4'⟩; have hb4 : Below w3.heap.size w3 w4 := (Below.refl w3.heap.size w3).drew.trans hb4'; have hF3 := hF2.below hb4))
  clear hF2 hb4 hb4' a0 a1' a2' q2 q3 HC hC2
  clear w3
  by_cases hbE : b = 69
  · subst hbE
    have hRv : Hid (R = some (.e, a + 1, cnt)) := by show _ = _; rw [← hRe2.out, if_pos rfl]
    clear hRe2
    go_wp2_with fail
    go_ret
    exact SubPost.good hRv.out rfl hF3.rs hF3.mw
  have zE : ((b : Int) == 69) = false := by simp; omega
  by_cases hbS : b = 83
  · subst hbS
    cases cw with
    | true =>
      have hRn : Hid (R = none) := by show _ = _; rw [← hRe2.out, if_neg (by decide), if_pos rfl, if_neg (by simp)]
      clear hRe2
      go_wp2_with fail
      exact ⟨rfl, SubPost.bad hRn.out hF3.mw⟩
    | false =>
      have q1 : w4.cell? ⟨q, 1, none⟩ = some (.int .i64 (wd : Int)) := Lib.cell_of_heap hF3.rs.pr 1
      by_cases hw : a + 1 + wd ≤ s.size
      · have hRv : Hid (R = some (.s (s.extract (a + 1) (a + 1 + wd)), a + 1 + wd, cnt)) := by show _ = _; rw [← hRe2.out, if_neg (by decide), if_pos rfl, if_pos ⟨rfl, hw⟩]
        have HP : Hid (∀ W, FF q rb wd lo hi s over under pk par ga w (a + 1) cnt W → Calls Tryz.prog 143 #[.pointer (some ⟨q, 0, none⟩), .iface 214 (.agg #[.int .i64 (wd : Int)])] W fun e W' => e = .returned (.string (s.extract (a + 1) (a + 1 + wd))) ∧ FF q rb wd lo hi s over under pk par ga w (a + 1 + wd) cnt W') := fun W hW => by
          refine (rp_plain_ok wd h2 q rb wd lo hi s cnt (a + 1) W hW.rs.pr hW.rs.rd hs hw).mono ?_
          rintro e W' ⟨he, hr, hm⟩
          exact ⟨he, hW.step (hW.rs.step hr hm) (Mw.of_mv hm)⟩
        generalize s.extract (a + 1) (a + 1 + wd) = X at HP hRv
        clear hRe2 hw
        go_wp2_with (first | (go_at_call 143; refine (HP.out _ hF3).mono ?_; rintro e w5 ⟨rfl, hF5⟩))
        go_ret
        exact SubPost.good hRv.out rfl hF5.rs hF5.mw
      · have hRn : Hid (R = none) := by show _ = _; rw [← hRe2.out, if_neg (by decide), if_pos rfl, if_neg (fun h => hw h.2)]
        have HP : Hid (∀ W, FF q rb wd lo hi s over under pk par ga w (a + 1) cnt W → Calls Tryz.prog 143 #[.pointer (some ⟨q, 0, none⟩), .iface 214 (.agg #[.int .i64 (wd : Int)])] W fun e W' => e = badP ∧ Mw q rb w W') := fun W hW => by
          refine (rp_plain_no wd h2 q rb wd lo hi s cnt (a + 1) W hW.rs.pr hW.rs.rd hs ha1 hw).mono ?_
          rintro e W' ⟨he, hm⟩
          exact ⟨he, hW.mw.trans (Mw.of_mv hm)⟩
        clear hRe2 hw
        go_wp2_with (first | (go_at_call 143; refine (HP.out _ hF3).mono ?_; rintro e w5 ⟨rfl, hm5⟩))
        exact ⟨rfl, SubPost.bad hRn.out hm5⟩
  have zS : ((b : Int) == 83) = false := by simp; omega
  by_cases hbF : b = 70
  · subst hbF
    cases cw with
    | false =>
      have hRn : Hid (R = none) := by show _ = _; rw [← hRe2.out, if_neg (by decide), if_neg (by decide), if_neg (by simp)]
      clear hRe2
      go_wp2_with fail
      exact ⟨rfl, SubPost.bad hRn.out hF3.mw⟩
    | true =>
      have hRv : Hid (rdF s lo hi wd f (a + 1) over under pk cnt = R) := by show _ = _; rw [← hRe2.out, if_neg (by decide), if_neg (by decide), if_pos ⟨rfl, rfl⟩]
      have a0 : w4.cell? ⟨ga, 0, none⟩ = some (.string over) := Lib.cell_of_heap hF3.na 0
      have a1' : w4.cell? ⟨ga, 1, none⟩ = some (.string under) := Lib.cell_of_heap hF3.na 1
      have a2' : w4.cell? ⟨ga, 2, none⟩ = some (.pointer par) := Lib.cell_of_heap hF3.na 2
      have HU := full_any q rb wd h1 h2 lo hi s hs f HS over under pk par (a + 1) cnt w4 hF3.rs hF3.pa hF3.kt ha1 hc (by omega)
      rw [hRv.out] at HU
      clear hRv hRe2
      cases R with
      | none =>
        have HU2 : Calls Tryz.prog 144 #[.pointer (some ⟨q, 0, none⟩), .agg #[.string over, .string under, .pointer par]] w4 fun e w' => e = badP ∧ Mw q rb w w' := by
          refine HU.mono ?_
          rintro e w' ⟨_, he, hm⟩
          exact ⟨he rfl, hF3.mw.trans hm⟩
        clear HU
        go_wp2_with (first | (go_at_call 144; refine HU2.mono ?_; rintro e w5 ⟨rfl, hm5⟩))
        exact ⟨rfl, SubPost.bad rfl hm5⟩
      | some Y =>
        obtain ⟨t, a', c'⟩ := Y
        have HU2 : Calls Tryz.prog 144 #[.pointer (some ⟨q, 0, none⟩), .agg #[.string over, .string under, .pointer par]] w4 fun e w' => ∃ b, e = .returned (.pointer (some ⟨b, 0, none⟩)) ∧ SubPost q rb wd lo hi s (some (t, a', c')) w (.returned (.iface 84 (.pointer (some ⟨b, 0, none⟩)))) w' := by
          refine HU.mono ?_
          rintro e w' ⟨hy, _, hm⟩
          obtain ⟨b, he, hp, hr⟩ := hy t a' c' rfl
          exact ⟨b, he, SubPost.good rfl (hp.mono hF3.mw.size) hr (hF3.mw.trans hm)⟩
        clear HU
        go_wp2_with (first | (go_at_call 144; refine HU2.mono ?_; rintro e w5 ⟨pb, rfl, hp5⟩))
        go_ret
        exact hp5
  have zF : ((b : Int) == 70) = false := by simp; omega
  have hRn : Hid (R = none) := by show _ = _; rw [← hRe2.out, if_neg hbE, if_neg hbS, if_neg (fun h => hbF h.1)]
  clear hRe2 hbE hbS hbF
  go_wp2_with fail
  exact ⟨rfl, SubPost.bad hRn.out hF3.mw⟩
theorem sub_all (q rb wd : Nat) (h1 : 1 ≤ wd) (h2 : wd ≤ 32) (lo hi s : ByteArray) (hs : s.size ≤ 1048576) : ∀ f, SubSaid q rb wd lo hi s f
  | 0 => fun _ _ _ _ _ _ _ _ _ _ _ h h' => by omega
  | f + 1 => sub_step q rb wd h1 h2 lo hi s hs f (sub_all q rb wd h1 h2 lo hi s hs f)
theorem catch_panics (gp gk : Nat) (u : TypeId) (pv : Value) (older : List PanicEntry) (w : World) (x y : Value) (hp : w.cell? ⟨gp, 0, none⟩ = some x) (hk : w.cell? ⟨gk, 0, none⟩ = some y) (fp : w.frozen? ⟨gp, 0, none⟩ = false) (fk : w.frozen? ⟨gk, 0, none⟩ = false) (hne : gp ≠ gk) :
    CallsD Tryz.prog 92 #[.pointer (some ⟨gp, 0, none⟩), .pointer (some ⟨gk, 0, none⟩)] (.panicking ({ v := .iface u pv, recovered := false } :: older)) w fun e u' w' =>
      e = .returned (.tuple #[]) ∧ u' = .panicking ({ v := .iface u pv, recovered := true } :: older) ∧ w' = (w.setCell ⟨gp, 0, none⟩ .nilIface).setCell ⟨gk, 0, none⟩ (.bool false) := by
  refine callsD_of_wpS Tryz.func92 rfl fun c₀ cs hu => ?_
  apply wpS_seq
  apply wpS_region
  simp [wpOpsS, go_sem, recoverD, hu, Tryz.ntmps92, Exit.thenS]
  refine wpS_cond (t := true) (by simp [Act.eval, Array.replicate]) ?_
  simp only [if_true]
  apply wpS_region
  simp [wpOpsS, go_sem, hp, hk, fp, fk, bodyPostS, results, Tryz.results92]
theorem catch_idle (gp gk : Nat) (w : World) :
    CallsD Tryz.prog 92 #[.pointer (some ⟨gp, 0, none⟩), .pointer (some ⟨gk, 0, none⟩)] .returning w fun e u' w' => e = .returned (.tuple #[]) ∧ u' = .returning ∧ w' = w := by
  refine callsD_of_wpS Tryz.func92 rfl fun c₀ cs hu => ?_
  apply wpS_seq
  apply wpS_region
  simp [wpOpsS, go_sem, recoverD, hu, Tryz.ntmps92, Exit.thenS]
  refine wpS_cond (t := false) (by simp [Act.eval, Array.replicate]) ?_
  simp only [Bool.false_eq_true, if_false]
  refine wpS_of_wp (wp_skip ?_)
  cases c₀
  simp_all [bodyPostS, results, Tryz.results92]
/-- What is left of a reading: it must be whole, and show the root. -/
def accQ (wd : Nat) (root s : ByteArray) : Option (PT × Nat × Nat) → Option PT
  | none => none
  | some (t, a', _) => if a' = s.size ∧ hashP wd t = root then some t else none
/-- The proof that is accepted for a root. -/
def accP (n : Int) (root lo hi s : ByteArray) : Option PT :=
  if (isW n && hashOk root.size n) = true then accQ n.toNat root s (rdP s lo hi n.toNat 501 0 ⟨#[]⟩ ⟨#[]⟩ ⟨#[]⟩ 0) else none
/-- What 'accepted' answers. -/
def AccAt (n : Int) (R : Option PT) (w : World) (e : Ending) (w' : World) : Prop :=
  (∀ t, R = some t → ∃ T y, e = .returned (.tuple #[.iface T y, .bool true]) ∧ PA n.toNat w.heap.size t (.iface T y) w') ∧ (R = none → e = .returned (.tuple #[.nilIface, .bool false])) ∧ Below w.heap.size w w'
/-- The three blocks of a call of 'accepted'. -/
structure A3 (w : World) (gp gk : Nat) (x y : Value) (W : World) : Prop where
  bl : Below w.heap.size w W
  lp : w.heap.size ≤ gp
  lk : w.heap.size ≤ gk
  ne : gp ≠ gk
  np : W.heap[gp]? = some (.cells #[x] 77)
  nk : W.heap[gk]? = some (.cells #[y] 4)
theorem A3.mk0 (w : World) (lo hi : ByteArray) : A3 w (w.heap.size + 1) (w.heap.size + 1 + 1) .nilIface (.bool false) (((w.alloc (.cells #[.string lo, .string hi] 75)).alloc (.cells #[.nilIface] 77)).alloc (.cells #[.bool false] 4)) := by
  have e2 := heap_alloc_new (w.alloc (.cells #[.string lo, .string hi] 75)) (.cells #[.nilIface] 77)
  have e3 := heap_alloc_new ((w.alloc (.cells #[.string lo, .string hi] 75)).alloc (.cells #[.nilIface] 77)) (.cells #[.bool false] 4)
  simp only [World.size_alloc] at e2 e3
  exact ⟨(((Below.refl _ _).alloc (Nat.le_refl _) _).alloc (by simp) _).alloc (by simp; omega) _, by omega, by omega, by omega, by rw [Below.heap_alloc _ _ _ (by simp)]; exact e2, e3⟩
theorem A3.below {w : World} {gp gk : Nat} {x y : Value} {W W' : World} (h : A3 w gp gk x y W) (hb : Below W.heap.size W W') : A3 w gp gk x y W' := ⟨h.bl.trans (hb.mono h.bl.size), h.lp, h.lk, h.ne, below_cells hb h.np, below_cells hb h.nk⟩
theorem A3.panic {n : Int} {w : World} {gp gk : Nat} {x y : Value} {W : World} (h : A3 w gp gk x y W) {R : Option PT} (hR : R = none) (tm : Array Value) (h8 : tm[8]?.getD undef = .pointer (some ⟨gp, 0, none⟩)) (h9 : tm[9]?.getD undef = .pointer (some ⟨gk, 0, none⟩)) :
    bodyPostD Tryz.prog Tryz.f41 (AccAt n R w) (.panic [{ v := .iface 205 (.agg #[]), recovered := false }]) { tmps := tm, defers := [{ target := .fn (.func 92) #[.pointer (some ⟨gp, 0, none⟩), .pointer (some ⟨gk, 0, none⟩)], args := #[] }] } W := by
  subst hR
  refine leaves_cons (f := 92) (args := #[.pointer (some ⟨gp, 0, none⟩), .pointer (some ⟨gk, 0, none⟩)]) (by simp) (by simp [go_sem]) ?_
  refine (catch_panics gp gk 205 _ [] _ x y (Lib.cell_of_heap h.np 0) (Lib.cell_of_heap h.nk 0) (frozen_of_heap h.np) (frozen_of_heap h.nk) h.ne).mono ?_
  rintro e u' w'' ⟨rfl, rfl, rfl⟩
  have n1 := heap_setCell_same W gp 0 _ 77 .nilIface h.np
  have n2 := set_other (i := 0) (x := .bool false) n1 h.ne
  have n3 := heap_setCell_same (W.setCell ⟨gp, 0, none⟩ .nilIface) gk 0 _ 4 (.bool false) (set_other h.nk h.ne.symm)
  have d1 : ((W.setCell ⟨gp, 0, none⟩ .nilIface).setCell ⟨gk, 0, none⟩ (.bool false)).cell? ⟨gp, 0, none⟩ = some .nilIface := Lib.cell_of_heap n2 0
  have d2 : ((W.setCell ⟨gp, 0, none⟩ .nilIface).setCell ⟨gk, 0, none⟩ (.bool false)).cell? ⟨gk, 0, none⟩ = some (.bool false) := Lib.cell_of_heap n3 0
  have hb : Below w.heap.size w ((W.setCell ⟨gp, 0, none⟩ .nilIface).setCell ⟨gk, 0, none⟩ (.bool false)) := (h.bl.setCell h.lp _).setCell h.lk _
  generalize (W.setCell ⟨gp, 0, none⟩ .nilIface).setCell ⟨gk, 0, none⟩ (.bool false) = W2 at d1 d2 hb ⊢
  simp [Leaves, settle, results, Tryz.results41, go_sem, h8, h9, d1, d2]
  exact ⟨fun t h => (by cases h), fun _ => rfl, hb⟩
theorem acc_bad (n : Int) (root lo hi s : ByteArray) (w : World) (_hs : s.size ≤ 1048576) (hr : root.size ≤ 1048576) (hb : (isW n && hashOk root.size n) = false) :
    Calls Tryz.prog 41 #[.int .i64 n, .string root, .agg #[.string lo, .string hi], .string s] w (AccAt n none w) := by
  have hmf : ∀ (fn : Fn) (first cap : Array Value) (w : World), (Instr.makeFunc fn first cap).run Tryz.prog w = .ok (.func fn first cap) w := fun _ _ _ _ => rfl
  have HW : Hid (∀ w', Calls Tryz.prog 94 #[.int .i64 n] w' fun e w'' => e = .returned (.bool (isW n)) ∧ w' = w'') := fun w' => (isW_any n w').mono (by rintro e w'' ⟨he, hw⟩; exact ⟨he, hw.symm⟩)
  have HV : Hid (∀ w', Calls Tryz.prog 95 #[.string root, .int .i64 n] w' fun e w'' => e = .returned (.bool (hashOk root.size n)) ∧ w' = w'') := fun w' => vlink_any root n w' hr
  have hA := A3.mk0 w lo hi
  cases hw : isW n with
  | false =>
    rw [hw] at HW
    clear hb hw
    go_enter_defers Tryz.func41, Tryz.ntmps41
    go_wp2_with (first | (go_at_call 94; refine (HW.out _).mono ?_; rintro e w2 ⟨rfl, rfl⟩) | (go_at_call 93; refine (req_no _).mono ?_; rintro e w2 ⟨rfl, rfl⟩))
    exact hA.panic rfl _ rfl rfl
  | true =>
    rw [hw] at HW
    have hb2 : hashOk root.size n = false := by rw [hw] at hb; simpa using hb
    rw [hb2] at HV
    clear hb hw hb2
    go_enter_defers Tryz.func41, Tryz.ntmps41
    go_wp2_with (first | (go_at_call 94; refine (HW.out _).mono ?_; rintro e w2 ⟨rfl, rfl⟩) | (go_at_call 95; refine (HV.out _).mono ?_; rintro e w2 ⟨rfl, rfl⟩) | (go_at_call 93; refine (req_no _).mono ?_; rintro e w2 ⟨rfl, rfl⟩))
    exact hA.panic rfl _ rfl rfl
end Go.Proofs.YtibjhkpgaaapaaaGreatDoor
