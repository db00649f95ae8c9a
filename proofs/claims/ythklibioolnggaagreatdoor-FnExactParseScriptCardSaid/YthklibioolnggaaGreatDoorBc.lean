import Derived.Test.YthklibioolnggaaGreatDoorBb
namespace Go.Proofs.YthklibioolnggaaGreatDoor
open Go.RowKit Go.Proofs.Sha

set_option maxRecDepth 100000 in
set_option maxHeartbeats 1000000 in
theorem heldOps_any (M : Nat → ByteArray) (HM : Hid (MarkSaid M)) (base : Nat) (es : List OE) (a : Option Addr) (c k0 : Nat) (w : World) (h : OpsAt base (mkEs M k0 es) a c w) (h1 : 1 ≤ k0) (h2 : kE k0 es ≤ 1000000000000) :
    Calls Tryz.prog 18 #[.slice a es.length c, .int .i64 (k0 : Int)] w fun e w' => e = .returned (.int .i64 ((kE k0 es : Nat) : Int)) ∧ Below w.heap.size w w' := by
  obtain ⟨n, hn⟩ : ∃ n, es.length = n := ⟨_, rfl⟩
  have hno : Hid (es.length = n) := hn
  obtain ⟨R, hR⟩ : ∃ R : Ending → World → Prop, (fun e w' => e = .returned (.int .i64 ((kE k0 es : Nat) : Int)) ∧ Below w.heap.size w w') = R := ⟨_, rfl⟩
  have hRo : Hid ((fun e w' => e = .returned (.int .i64 ((kE k0 es : Nat) : Int)) ∧ Below w.heap.size w w') = R) := hR
  have hn2 : n ≤ 1000000000000 := by
    have : ∀ (xs : List OE) k, xs.length + k ≤ kE k xs := by
      intro xs
      induction xs with
      | nil => intro k; simp [kE]
      | cons e r ih => intro k; rw [kE, List.length_cons]; have := ih (k + 5 + e.1.picks.length); omega
    have := this es k0
    omega
  rw [hn, hR]
  clear hn hR
  go_enter Tryz.func18, Tryz.ntmps18
  go_wp2_with fail
  go_loopw [1, 5] (fun t1 t5 wr => ∃ (A B : List OE), es = A ++ B ∧ t1 = .int .i64 ((kE k0 A : Nat) : Int) ∧ t5 = .int .i64 ((A.length : Nat) : Int) ∧ Below w.heap.size w wr) (fun _ t5 _ => n - (intOf t5).toNat)
  case atStart => exact ⟨[], es, rfl, rfl, rfl, Below.refl _ _⟩
  case round =>
    obtain ⟨A, B, hAB, rfl, rfl, hbw⟩ := hrel
    have hlen : A.length + B.length = n := by rw [← hno.out, hAB, List.length_append]
    cases B with
    | cons e B =>
      have hkA : kE k0 A + 5 + e.1.picks.length ≤ 1000000000000 := by
        have h3 : kE k0 es = kE (kE k0 A + 5 + e.1.picks.length) B := by rw [hAB, kE_app, kE]
        have := kE_ge B (kE k0 A + 5 + e.1.picks.length)
        omega
      have hk1 := kE_ge A k0
      have hkn : Hid (kE k0 (A ++ [e]) = kE k0 A + 5 + e.1.picks.length) := by show _ = _; rw [kE_app]; rfl
      have hAB2 : Hid (es = (A ++ [e]) ++ B) := by show _ = _; rw [hAB]; simp
      have hAl : Hid (A.length + 1 = (A ++ [e]).length) := by show _ = _; simp
      have hO : OpsAt base (mkEs M k0 A ++ mkE M (kE k0 A) e :: mkEs M (kE k0 A + 5 + e.1.picks.length) B) a c w := by
        have := h
        rw [hAB, mkEs_app, mkEs] at this
        exact this
      have hml := mkEs_len M A k0
      have hk : A.length < (mkEs M k0 A ++ mkE M (kE k0 A) e :: mkEs M (kE k0 A + 5 + e.1.picks.length) B).length := by rw [List.length_append, hml, List.length_cons]; omega
      have hget : (mkEs M k0 A ++ mkE M (kE k0 A) e :: mkEs M (kE k0 A + 5 + e.1.picks.length) B)[A.length] = mkE M (kE k0 A) e := by
        rw [List.getElem_append_right (by rw [hml]; exact Nat.le_refl _)]
        simp [hml]
      obtain ⟨g, rfl, hcs⟩ := hO.cells A.length hk
      have hpk := hO.picks A.length hk
      rw [hget] at hcs hpk
      simp only [mkE, marksI_len] at hcs hpk
      obtain ⟨p, hp⟩ : ∃ p, kE k0 A = p := ⟨_, rfl⟩
      obtain ⟨k, hk'⟩ : ∃ k, A.length = k := ⟨_, rfl⟩
      rw [hp] at hkA hk1 hkn hcs hpk
      rw [hk'] at hlen hAl hcs
      rw [hp, hk']
      have hx0 : (0 : Int) ≤ (k : Int) := Int.natCast_nonneg _
      have hx1 : (k : Int) < (n : Int) := by simp at hlen; omega
      have K1 := HM.out (p + 1) (by omega) (by omega)
      have K2 := HM.out (p + 2) (by omega) (by omega)
      rw [show ((p + 1 : Nat) : Int) = (p : Int) + 1 by omega] at K1
      rw [show ((p + 2 : Nat) : Int) = (p : Int) + 1 + 1 by omega] at K2
      generalize M (p + 1) = X1 at K1 hcs
      generalize M (p + 2) = X2 at K2 hcs
      have HI := fun W (hW : Below w.heap.size w W) => heldInt_any e.2.1 e.2.2 e.1.picks.length (p + 5) W (hpk.below hW) (by omega) (by omega)
      rw [show ((p + 5 : Nat) : Int) = (p : Int) + 1 + 1 + 1 + 1 + 1 by omega] at HI
      have hkn2 : Hid (((p + 5 + e.1.picks.length : Nat) : Int) = ((kE k0 (A ++ [e]) : Nat) : Int)) := by show _ = _; rw [hkn.out]
      clear hget hO hk
      generalize e.1.picks.length = pl at HI hcs hkn hkn2 hkA
      generalize e.2.1 = ae at HI hcs
      generalize e.2.2 = ce at HI hcs
      have HC : Hid _ := hcs
      have HI2 : Hid _ := HI
      have K1' : Hid _ := K1
      have K2' : Hid _ := K2
      have hpb : p ≤ 1000000000000 := by omega
      have hplb : pl ≤ 1000000000000 := by omega
      have d0 := (HC.out wr hbw).1
      have q1 : (X1.toList != X1.toList) = false := by simp
      have q2 : (X2.toList != X2.toList) = false := by simp
      have hdw : ∀ W : World, Below w.heap.size w W → Below w.heap.size w W.drew := fun W hW => hW.drew
      have HD : Hid _ := hdw
      clear hp hk' hno HM h h2 hAB hpk hml hcs HI K1 K2 hdw
      go_upto_region 7 with fail
      have d1 := (HC.out wr hbw).2.1
      go_region_held3 (fun W => W.cell? ⟨g, k * 6 + 1, none⟩ = some (.string X1)) (first | exact d1 | exact (HC.out _ hb1).2.1) (first | (go_at_call 29; refine (K1'.out _).mono ?_; rintro e1 w1 ⟨rfl, hb1'⟩; have hb1 : Below w.heap.size w w1 := (HD.out _ hbw).trans (hb1'.mono hbw.size); clear hb1'))
      go_upto_region 10 with fail
      have d2 := (HC.out w1 hb1).2.2.1
      go_region_held3 (fun W => W.cell? ⟨g, k * 6 + 2, none⟩ = some (.string X2)) (first | exact d2 | exact (HC.out _ hb2).2.2.1) (first | (go_at_call 29; refine (K2'.out _).mono ?_; rintro e1 w2 ⟨rfl, hb2'⟩; have hb2 : Below w.heap.size w w2 := (HD.out _ hb1).trans (hb2'.mono hb1.size); clear hb2'))
      obtain ⟨_, _, _, d3, d4, d5⟩ := HC.out w2 hb2
      have hneg : ¬ ((p : Int) + 5 + (pl : Int) < 0) := by omega
      go_wp2_with (first | (go_at_call 31; refine (HI2.out _ hb2).mono ?_; rintro e1 w5 ⟨rfl, hb5⟩))
      go_roundw
      case rel => exact ⟨A ++ [e], B, hAB2.out, by rw [← hkn2.out]; exact int_eq (by omega), by rw [← hAl.out]; rfl, hb2.trans (hb5.mono hb2.size)⟩
      case measure => simp [intOf]; simp at hlen; omega
    | nil =>
      rw [List.append_nil] at hAB
      have hx1 : ¬ (((A.length : Nat) : Int) < (n : Int)) := by simp at hlen; omega
      have hfin : Hid (∀ e W, e = .returned (.int .i64 ((kE k0 A : Nat) : Int)) → W = wr → R e W) := fun e W h3 h4 => by
        rw [← hRo.out, hAB]; subst h4; exact ⟨h3, hbw⟩
      clear hRo hAB HM h
      go_wp2_with fail
      exact hfin.out _ _ rfl rfl

set_option maxRecDepth 100000 in
set_option maxHeartbeats 400000 in
theorem markScript_any (M : Nat → ByteArray) (HM : Hid (MarkSaid M)) (x y : Int) (base : Nat) (es : List OE) (a : Option Addr) (c k0 : Nat) (w : World) (h : OpsAt base es a c w) (hb : base ≤ w.heap.size) (h1 : 1 ≤ k0) (h2 : kE k0 es ≤ 1000000000000) :
    Calls Tryz.prog 7 #[.agg #[.int .i64 x, .int .i64 y, .slice a es.length c], .int .i64 (k0 : Int)] w fun e w' => e = .returned (.int .i64 ((kE k0 es : Nat) : Int)) ∧ OpsAt base (mkEs M k0 es) a c w' ∧ Below base w w' ∧ MkF w w' := by
  have HE : Hid (∀ W, Below w.heap.size w W → Calls Tryz.prog 17 #[.slice a es.length c, .int .i64 (k0 : Int)] W fun e w' => e = .returned (.int .i64 ((kE k0 es : Nat) : Int)) ∧ OpsAt base (mkEs M k0 es) a c w' ∧ Below base W w' ∧ MkF W w') := fun W hW => markOps_any M HM base es a c k0 W (h.below hW) (Nat.le_trans hb hW.size) h1 h2
  generalize es.length = N at HE ⊢
  have b1 : Below w.heap.size w (w.alloc (.cells #[.int .i64 x, .int .i64 y, .slice a N c] 24)) := (Below.refl _ w).alloc (Nat.le_refl _) _
  generalize kE k0 es = z at HE h2 ⊢
  clear h HM
  go_enter Tryz.func7, Tryz.ntmps7
  go_wp2_with (first | (go_at_call 17; refine (HE.out _ b1).mono ?_; rintro e w1 ⟨rfl, hO1, hb1, hm1⟩))
  go_ret
  exact ⟨rfl, hO1, (b1.mono hb).trans hb1, ((MkF.refl w).below b1).trans hm1⟩
set_option maxRecDepth 100000 in
set_option maxHeartbeats 400000 in
theorem heldScript_any (M : Nat → ByteArray) (HM : Hid (MarkSaid M)) (x y : Int) (base : Nat) (es : List OE) (a : Option Addr) (c k0 : Nat) (w : World) (h : OpsAt base (mkEs M k0 es) a c w) (h1 : 1 ≤ k0) (h2 : kE k0 es ≤ 1000000000000) :
    Calls Tryz.prog 8 #[.agg #[.int .i64 x, .int .i64 y, .slice a es.length c], .int .i64 (k0 : Int)] w fun e w' => e = .returned (.int .i64 ((kE k0 es : Nat) : Int)) ∧ Below w.heap.size w w' := by
  have HE : Hid (∀ W, Below w.heap.size w W → Calls Tryz.prog 18 #[.slice a es.length c, .int .i64 (k0 : Int)] W fun e w' => e = .returned (.int .i64 ((kE k0 es : Nat) : Int)) ∧ Below W.heap.size W w') := fun W hW => heldOps_any M HM base es a c k0 W (h.below hW) h1 h2
  generalize es.length = N at HE ⊢
  have b1 : Below w.heap.size w (w.alloc (.cells #[.int .i64 x, .int .i64 y, .slice a N c] 24)) := (Below.refl _ w).alloc (Nat.le_refl _) _
  generalize kE k0 es = z at HE h2 ⊢
  have hz : ¬ ((z : Int) < 0) := by omega
  clear h HM
  go_enter Tryz.func8, Tryz.ntmps8
  go_wp2_with (first | (go_at_call 18; refine (HE.out _ b1).mono ?_; rintro e w1 ⟨rfl, hb1⟩))
  go_ret
  exact ⟨rfl, b1.trans (hb1.mono b1.size)⟩
end Go.Proofs.YthklibioolnggaaGreatDoor
