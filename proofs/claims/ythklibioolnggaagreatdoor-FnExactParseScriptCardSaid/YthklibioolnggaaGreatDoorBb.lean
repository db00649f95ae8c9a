import Derived.Test.YthklibioolnggaaGreatDoorBa
namespace Go.Proofs.YthklibioolnggaaGreatDoor
open Go.RowKit Go.Proofs.Sha

theorem opL_len (e : OE) : (opL e).length = 6 := rfl
theorem flatE_set (A B : List OE) (e e' : OE) (f : Nat) (v : Value) (hf : f < 6) (h : (opL e).set f v = opL e') : (flatE (A ++ e :: B)).set (A.length * 6 + f) v = flatE (A ++ e' :: B) := by
  rw [flatE_app, flatE_app, List.set_append_right _ _ (by rw [flatE_len]; omega), flatE_len, Nat.add_sub_cancel_left, flatE, flatE, List.set_append_left _ _ (by rw [opL_len]; exact hf), h]
theorem blk_own (e : OE) : (Value.slice e.2.1 e.1.picks.length e.2.2).ownBlock = blk e := by
  unfold blk
  cases e.2.1 <;> rfl
theorem OpsAt.setf {base : Nat} {A B : List OE} {e : OE} {g c : Nat} {W : World} (h : OpsAt base (A ++ e :: B) (some ⟨g, 0, none⟩) c W) (e' : OE) (f : Nat) (v : Value) (hf : f < 6) (hset : (opL e).set f v = opL e') (hp : e'.1.picks = e.1.picks) (h2 : e'.2 = e.2) : OpsAt base (A ++ e' :: B) (some ⟨g, 0, none⟩) c (W.setCell ⟨g, A.length * 6 + f, none⟩ v) := by
  have hl : (A ++ e' :: B).length = (A ++ e :: B).length := by simp
  obtain ⟨hg1, hg2, cur, hg3⟩ := ownG_cells h.row rfl
  have hk : ∀ x ∈ A ++ e :: B, (W.setCell ⟨g, A.length * 6 + f, none⟩ v).ownsRow base 3 1 (.slice x.2.1 x.1.picks.length x.2.2) x.1.picks.length (x.1.picks.map I) := fun x hx =>
    ownG_kept (h.pk x hx) (fun q hv _ => by
      obtain ⟨_, _, cur', h4⟩ := ownG_cells (h.pk x hx) hv
      exact Below.heap_setCell _ _ _ _ (ne_of_type h4 hg3 (by decide)))
  refine ⟨?_, fun x hx => ?_, ?_⟩
  · rw [hl, ← flatE_set A B e e' f v hf hset]
    exact (h.row.stored _ v).1
  · rcases List.mem_append.1 hx with hx | hx
    · exact hk x (List.mem_append_left _ hx)
    · rcases List.mem_cons.1 hx with rfl | hx
      · rw [hp, h2]; exact hk e (List.mem_append_right _ (List.mem_cons_self ..))
      · exact hk x (List.mem_append_right _ (List.mem_cons_of_mem _ hx))
  · have hb : blk e' = blk e := by unfold blk; rw [h2]
    have := h.nd
    rw [List.filterMap_append, List.filterMap_cons] at this ⊢
    rw [hb]; exact this
theorem OpsAt.room {base : Nat} {A B : List OE} {e : OE} {g c : Nat} {W : World} (h : OpsAt base (A ++ e :: B) (some ⟨g, 0, none⟩) c W) (f : Nat) (hf : f < 6) : (∃ y, W.cell? ⟨g, A.length * 6 + f, none⟩ = some y) ∧ W.frozen? ⟨g, A.length * 6 + f, none⟩ = false := by
  refine ⟨?_, h.row.frozenAt _⟩
  have hlt : A.length * 6 + f < (flatE (A ++ e :: B)).length := by rw [flatE_len, List.length_append, List.length_cons]; omega
  have := h.row.cellAt (A.length * 6 + f) (by rw [List.length_append, List.length_cons]; omega)
  rw [List.getElem?_eq_getElem hlt] at this
  exact ⟨_, this⟩
theorem nd_ne {A B : List OE} {e x : OE} {q : Nat} (nd : ((A ++ e :: B).filterMap blk).Nodup) (hx : x ∈ A ∨ x ∈ B) (h1 : blk x = some q) (h2 : blk e = some q) : False := by
  rw [List.filterMap_append, List.filterMap_cons_some h2, List.nodup_append] at nd
  rcases hx with hx | hx
  · exact nd.2.2 q (List.mem_filterMap.2 ⟨x, hx, h1⟩) q (List.mem_cons_self ..) rfl
  · exact (List.nodup_cons.1 nd.2.1).1 (List.mem_filterMap.2 ⟨x, hx, h1⟩)
/-- The picks of one operation are turned. -/
theorem OpsAt.turn {base : Nat} {A B : List OE} {e : OE} {a : Option Addr} {c : Nat} {W W' : World} (h : OpsAt base (A ++ e :: B) a c W) (e' : OE) (h2 : e'.2 = e.2) (hl : opL e' = opL e) (hpl : e'.1.picks.length = e.1.picks.length)
    (hown : W'.ownsRow base 3 1 (.slice e.2.1 e.1.picks.length e.2.2) e.1.picks.length (e'.1.picks.map I)) (hg : W.grownBy W' (Value.slice e.2.1 e.1.picks.length e.2.2).ownBlock) : OpsAt base (A ++ e' :: B) a c W' := by
  have he : e ∈ A ++ e :: B := List.mem_append_right _ (List.mem_cons_self ..)
  have hk : ∀ x, (x ∈ A ∨ x ∈ B) → W'.ownsRow base 3 1 (.slice x.2.1 x.1.picks.length x.2.2) x.1.picks.length (x.1.picks.map I) := fun x hx => by
    have hx' : x ∈ A ++ e :: B := hx.elim (fun h => List.mem_append_left _ h) (fun h => List.mem_append_right _ (List.mem_cons_of_mem _ h))
    exact ownG_kept (h.pk x hx') (fun q hv hq => hg.block q hq (fun e1 => by
      rw [blk_own] at e1 hv
      exact nd_ne h.nd hx hv e1.symm))
  refine ⟨?_, fun x hx => ?_, ?_⟩
  · have e1 : flatE (A ++ e' :: B) = flatE (A ++ e :: B) := by rw [flatE_app, flatE_app, flatE, flatE, hl]
    have e2 : (A ++ e' :: B).length = (A ++ e :: B).length := by simp
    rw [e1, e2]
    exact ownG_kept h.row (fun q hv hq => hg.block q hq (fun e1 => by
      obtain ⟨_, _, cur, h4⟩ := ownG_cells h.row hv
      obtain ⟨_, _, cur', h5⟩ := ownG_cells (h.pk e he) e1.symm
      exact ne_of_type h4 h5 (by decide) rfl))
  · rcases List.mem_append.1 hx with hx | hx
    · exact hk x (.inl hx)
    · rcases List.mem_cons.1 hx with rfl | hx
      · rw [hpl, h2]; exact hown
      · exact hk x (.inr hx)
  · have hb : blk e' = blk e := by unfold blk; rw [h2]
    have := h.nd
    rw [List.filterMap_append, List.filterMap_cons] at this ⊢
    rw [hb]; exact this

/-- An operation's marks. -/
def mkE (M : Nat → ByteArray) (k : Nat) (e : OE) : OE := (⟨k, M (k + 1), M (k + 2), (k : Int) + 1 + 1 + 1, (k : Int) + 1 + 1 + 1 + 1, marksI (k + 5) e.1.picks.length⟩, e.2)
def mkEs (M : Nat → ByteArray) : Nat → List OE → List OE
  | _, [] => []
  | k, e :: r => mkE M k e :: mkEs M (k + 5 + e.1.picks.length) r
def kE : Nat → List OE → Nat
  | k, [] => k
  | k, e :: r => kE (k + 5 + e.1.picks.length) r
theorem mkEs_len (M : Nat → ByteArray) (es : List OE) : ∀ k, (mkEs M k es).length = es.length := by
  induction es with
  | nil => intro k; rfl
  | cons e r ih => intro k; rw [mkEs, List.length_cons, ih]; rfl
theorem kE_app (xs ys : List OE) : ∀ k, kE k (xs ++ ys) = kE (kE k xs) ys := by
  induction xs with
  | nil => intro k; rfl
  | cons e r ih => intro k; rw [List.cons_append, kE, kE, ih]
theorem mkEs_app (M : Nat → ByteArray) (xs ys : List OE) : ∀ k, mkEs M k (xs ++ ys) = mkEs M k xs ++ mkEs M (kE k xs) ys := by
  induction xs with
  | nil => intro k; rfl
  | cons e r ih => intro k; rw [List.cons_append, mkEs, mkEs, kE, ih]; rfl
theorem kE_ge (xs : List OE) : ∀ k, k ≤ kE k xs := by
  induction xs with
  | nil => intro k; exact Nat.le_refl _
  | cons e r ih => intro k; rw [kE]; have := ih (k + 5 + e.1.picks.length); omega

/-- What the marking turns: rows of operations and of numbers alone. -/
def MkF (w w' : World) : Prop := ∀ (q : Nat) (cs : Array Value) (T : TypeId) (f : Nat × Nat), w.heap[q]? = some (.cells cs T f) → T ≠ 37 → T ≠ 3 → w'.heap[q]? = some (.cells cs T f)
theorem MkF.refl (w : World) : MkF w w := fun _ _ _ _ h _ _ => h
theorem MkF.trans {w W W' : World} (h : MkF w W) (h' : MkF W W') : MkF w W' := fun q cs T f h1 h2 h3 => h' q cs T f (h q cs T f h1 h2 h3) h2 h3
theorem MkF.below {w W W' : World} (h : MkF w W) (hb : Below W.heap.size W W') : MkF w W' := fun q cs T f h1 h2 h3 => by
  have h4 := h q cs T f h1 h2 h3
  exact (hb.block q (Array.getElem?_eq_some_iff.1 h4).1).trans h4
theorem MkF.set {w W : World} {g o : Nat} {v : Value} (h : MkF w W) (hg : ∃ cur, W.heap[g]? = some (.cells cur 37 (0, 0))) : MkF w (W.setCell ⟨g, o, none⟩ v) := fun q cs T f h1 h2 h3 => by
  obtain ⟨cur, hg⟩ := hg
  have h4 := h q cs T f h1 h2 h3
  exact (Below.heap_setCell _ _ _ _ (ne_of_type h4 hg h2)).trans h4
theorem MkF.grown {w W W' : World} {base n : Nat} {v : Value} {xs : List Value} (h : MkF w W) (own : W.ownsRow base 3 1 v n xs) (hg : W.grownBy W' v.ownBlock) : MkF w W' := fun q cs T f h1 h2 h3 => by
  have h4 := h q cs T f h1 h2 h3
  refine (hg.block q (Array.getElem?_eq_some_iff.1 h4).1 (fun e => ?_)).trans h4
  obtain ⟨_, _, cur, h5⟩ := ownG_cells own e.symm
  exact ne_of_type h4 h5 h3 rfl

set_option maxRecDepth 100000 in
set_option maxHeartbeats 1000000 in
theorem markOps_any (M : Nat → ByteArray) (HM : Hid (MarkSaid M)) (base : Nat) (es : List OE) (a : Option Addr) (c k0 : Nat) (w : World) (h : OpsAt base es a c w) (hb : base ≤ w.heap.size) (h1 : 1 ≤ k0) (h2 : kE k0 es ≤ 1000000000000) :
    Calls Tryz.prog 17 #[.slice a es.length c, .int .i64 (k0 : Int)] w fun e w' => e = .returned (.int .i64 ((kE k0 es : Nat) : Int)) ∧ OpsAt base (mkEs M k0 es) a c w' ∧ Below base w w' ∧ MkF w w' := by
  obtain ⟨n, hn⟩ : ∃ n, es.length = n := ⟨_, rfl⟩
  have hno : Hid (es.length = n) := hn
  obtain ⟨R, hR⟩ : ∃ R : Ending → World → Prop, (fun e w' => e = .returned (.int .i64 ((kE k0 es : Nat) : Int)) ∧ OpsAt base (mkEs M k0 es) a c w' ∧ Below base w w' ∧ MkF w w') = R := ⟨_, rfl⟩
  have hRo : Hid ((fun e w' => e = .returned (.int .i64 ((kE k0 es : Nat) : Int)) ∧ OpsAt base (mkEs M k0 es) a c w' ∧ Below base w w' ∧ MkF w w') = R) := hR
  have hn2 : n ≤ 1000000000000 := by
    have : ∀ (xs : List OE) k, xs.length + k ≤ kE k xs := by
      intro xs
      induction xs with
      | nil => intro k; simp [kE]
      | cons e r ih => intro k; rw [kE, List.length_cons]; have := ih (k + 5 + e.1.picks.length); omega
    have := this es k0
    omega
  rw [hn, hR]
  clear hn hR
  go_enter Tryz.func17, Tryz.ntmps17
  go_wp2_with fail
  go_loopw [1, 5] (fun t1 t5 wr => ∃ (A B : List OE), es = A ++ B ∧ t1 = .int .i64 ((kE k0 A : Nat) : Int) ∧ t5 = .int .i64 ((A.length : Nat) : Int) ∧ OpsAt base (mkEs M k0 A ++ B) a c wr ∧ Below base w wr ∧ MkF w wr) (fun _ t5 _ => n - (intOf t5).toNat)
  case atStart => exact ⟨[], es, rfl, rfl, rfl, h, Below.refl _ _, MkF.refl _⟩
  case round =>
    obtain ⟨A, B, hAB, rfl, rfl, hO, hbw, hmf⟩ := hrel
    have hlen : A.length + B.length = n := by rw [← hno.out, hAB, List.length_append]
    have hbs := Nat.le_trans hb hbw.size
    cases B with
    | cons e B =>
      have hmk := mkEs_len M A k0
      obtain ⟨g, rfl, _⟩ := hO.cells A.length (by simp [hmk])
      have HR2 : Hid (∀ W, OpsAt base ((mkEs M k0 A ++ [mkE M (kE k0 A) e]) ++ B) (some ⟨g, 0, none⟩) c W → OpsAt base (mkEs M k0 (A ++ [e]) ++ B) (some ⟨g, 0, none⟩) c W) := fun W hW => by
        rw [mkEs_app]
        exact hW
      have hkA : kE k0 A + 5 + e.1.picks.length ≤ 1000000000000 := by
        have h3 : kE k0 es = kE (kE k0 A + 5 + e.1.picks.length) B := by rw [hAB, kE_app, kE]
        have := kE_ge B (kE k0 A + 5 + e.1.picks.length)
        omega
      have hk1 := kE_ge A k0
      have hkn : Hid (kE k0 (A ++ [e]) = kE k0 A + 5 + e.1.picks.length) := by show _ = _; rw [kE_app]; rfl
      have hAB2 : Hid (es = (A ++ [e]) ++ B) := by show _ = _; rw [hAB]; simp
      have hAl : Hid (A.length + 1 = (A ++ [e]).length) := by show _ = _; simp
      obtain ⟨p, hp⟩ : ∃ p, kE k0 A = p := ⟨_, rfl⟩
      obtain ⟨k, hk⟩ : ∃ k, A.length = k := ⟨_, rfl⟩
      rw [hp] at hkA hk1 hkn HR2
      rw [hk] at hmk hlen hAl
      rw [hp, hk]
      generalize mkEs M k0 A = A' at hO hmk HR2
      have hx0 : (0 : Int) ≤ (k : Int) := Int.natCast_nonneg _
      have hx1 : (k : Int) < (n : Int) := by simp at hlen; omega
      have hgl : base ≤ g := (ownG_cells hO.row rfl).1
      have K1 := HM.out (p + 1) (by omega) (by omega)
      have K2 := HM.out (p + 2) (by omega) (by omega)
      rw [show ((p + 1 : Nat) : Int) = (p : Int) + 1 by omega] at K1
      rw [show ((p + 2 : Nat) : Int) = (p : Int) + 1 + 1 by omega] at K2
      have hmE : Hid (mkE M p e = (⟨p, M (p + 1), M (p + 2), (p : Int) + 1 + 1 + 1, (p : Int) + 1 + 1 + 1 + 1, marksI (p + 5) e.1.picks.length⟩, e.2)) := rfl
      generalize mkE M p e = eF at hmE HR2
      generalize M (p + 1) = X1 at K1 hmE
      generalize M (p + 2) = X2 at K2 hmE
      have K1 : Hid _ := K1
      have K2 : Hid _ := K2
      have SF : Hid (∀ (W : World) (x x' : OE) (f : Nat) (v : Value), OpsAt base (A' ++ x :: B) (some ⟨g, 0, none⟩) c W → f < 6 → (opL x).set f v = opL x' → x'.1.picks = x.1.picks → x'.2 = x.2 → OpsAt base (A' ++ x' :: B) (some ⟨g, 0, none⟩) c (W.setCell ⟨g, k * 6 + f, none⟩ v)) := fun W x x' f v hx hf h1 h2 h3 => by
        have := hx.setf x' f v hf h1 h2 h3
        rw [hmk] at this
        exact this
      have RM : Hid (∀ (W : World) (x : OE) (f : Nat), OpsAt base (A' ++ x :: B) (some ⟨g, 0, none⟩) c W → f < 6 → (∃ y, W.cell? ⟨g, k * 6 + f, none⟩ = some y) ∧ W.frozen? ⟨g, k * 6 + f, none⟩ = false) := fun W x f hx hf => by
        have := hx.room f hf
        rw [hmk] at this
        exact this
      have hpb : p ≤ 1000000000000 := by omega
      obtain ⟨⟨y0, c0⟩, f0⟩ := RM.out wr e 0 hO (by omega)
      rw [Nat.add_zero] at c0 f0
      have hO0 := SF.out wr e (⟨p, e.1.key, e.1.val, e.1.n, e.1.m, e.1.picks⟩, e.2) 0 (.int .i64 (p : Int)) hO (by omega) rfl rfl rfl
      have b0 := hbw.setCell (p := ⟨g, k * 6, none⟩) hgl (.int .i64 (p : Int))
      rw [Nat.add_zero] at hO0
      have m0 := hmf.set (o := k * 6) (v := .int .i64 (p : Int)) (ownG_cells hO.row rfl).2.2
      have hA'l : Hid (A'.length = k) := hmk
      clear hp hk hno hmk HM h h2 hAB
      go_upto_region 5 with fail
      generalize wr.setCell ⟨g, k * 6, none⟩ (.int .i64 (p : Int)) = V0 at hO0 b0 m0 ⊢
      clear c0 f0
      go_upto_region 7 with (first | (go_at_call 29; refine (K1.out _).mono ?_; rintro e1 w1 ⟨rfl, hb1⟩; have hOa := hO0.below hb1; obtain ⟨⟨y1, c1⟩, f1⟩ := RM.out w1 _ 1 hOa (by omega)))
      have hO1 := SF.out w1 _ (⟨p, X1, e.1.val, e.1.n, e.1.m, e.1.picks⟩, e.2) 1 (.string X1) hOa (by omega) rfl rfl rfl
      have b1 := (b0.trans (hb1.mono (Nat.le_trans hb b0.size))).setCell (p := ⟨g, k * 6 + 1, none⟩) hgl (.string X1)
      have m1 := (m0.below hb1).set (o := k * 6 + 1) (v := .string X1) (ownG_cells hOa.row rfl).2.2
      generalize w1.setCell ⟨g, k * 6 + 1, none⟩ (.string X1) = V1 at hO1 b1 m1 ⊢
      clear c1 f1 hOa hO0 b0 hb1
      go_upto_region 9 with (first | (go_at_call 29; refine (K2.out _).mono ?_; rintro e1 w2 ⟨rfl, hb2⟩; have hOa := hO1.below hb2; obtain ⟨⟨y1, c1⟩, f1⟩ := RM.out w2 _ 2 hOa (by omega)))
      have hO2 := SF.out w2 _ (⟨p, X1, X2, e.1.n, e.1.m, e.1.picks⟩, e.2) 2 (.string X2) hOa (by omega) rfl rfl rfl
      have b2 := (b1.trans (hb2.mono (Nat.le_trans hb b1.size))).setCell (p := ⟨g, k * 6 + 2, none⟩) hgl (.string X2)
      have m2 := (m1.below hb2).set (o := k * 6 + 2) (v := .string X2) (ownG_cells hOa.row rfl).2.2
      generalize w2.setCell ⟨g, k * 6 + 2, none⟩ (.string X2) = V2 at hO2 b2 m2 ⊢
      clear c1 f1 hOa hO1 b1 hb2
      obtain ⟨⟨y3, c3⟩, f3⟩ := RM.out V2 _ 3 hO2 (by omega)
      have hO3 := SF.out V2 _ (⟨p, X1, X2, (p : Int) + 1 + 1 + 1, e.1.m, e.1.picks⟩, e.2) 3 (.int .i64 ((p : Int) + 1 + 1 + 1)) hO2 (by omega) rfl rfl rfl
      have b3 := b2.setCell (p := ⟨g, k * 6 + 3, none⟩) hgl (.int .i64 ((p : Int) + 1 + 1 + 1))
      have m3 := m2.set (o := k * 6 + 3) (v := .int .i64 ((p : Int) + 1 + 1 + 1)) (ownG_cells hO2.row rfl).2.2
      go_upto_region 11 with fail
      generalize V2.setCell ⟨g, k * 6 + 3, none⟩ (.int .i64 ((p : Int) + 1 + 1 + 1)) = V3 at hO3 b3 m3 ⊢
      clear c3 f3 hO2 b2
      obtain ⟨⟨y4, c4⟩, f4⟩ := RM.out V3 _ 4 hO3 (by omega)
      have hO4 := SF.out V3 _ (⟨p, X1, X2, (p : Int) + 1 + 1 + 1, (p : Int) + 1 + 1 + 1 + 1, e.1.picks⟩, e.2) 4 (.int .i64 ((p : Int) + 1 + 1 + 1 + 1)) hO3 (by omega) rfl rfl rfl
      have b4 := b3.setCell (p := ⟨g, k * 6 + 4, none⟩) hgl (.int .i64 ((p : Int) + 1 + 1 + 1 + 1))
      have m4 := m3.set (o := k * 6 + 4) (v := .int .i64 ((p : Int) + 1 + 1 + 1 + 1)) (ownG_cells hO3.row rfl).2.2
      go_upto_region 13 with fail
      generalize V3.setCell ⟨g, k * 6 + 4, none⟩ (.int .i64 ((p : Int) + 1 + 1 + 1 + 1)) = V4 at hO4 b4 m4 ⊢
      clear c4 f4 hO3 b3
      have hmem : ((⟨p, X1, X2, (p : Int) + 1 + 1 + 1, (p : Int) + 1 + 1 + 1 + 1, e.1.picks⟩, e.2) : OE) ∈ A' ++ (⟨p, X1, X2, (p : Int) + 1 + 1 + 1, (p : Int) + 1 + 1 + 1 + 1, e.1.picks⟩, e.2) :: B := List.mem_append_right _ (List.mem_cons_self ..)
      have hpk := hO4.pk _ hmem
      have hcl : V4.cell? ⟨g, k * 6 + 5, none⟩ = some (.slice e.2.1 e.1.picks.length e.2.2) := by
        obtain ⟨g', hg', hcs⟩ := hO4.cells k (by rw [List.length_append, hA'l.out, List.length_cons]; omega)
        have hc5 := (hcs V4 (Below.refl _ _)).2.2.2.2.2
        injection hg' with hg'
        injection hg' with hg'
        subst hg'
        have hget : (A' ++ ((⟨p, X1, X2, (p : Int) + 1 + 1 + 1, (p : Int) + 1 + 1 + 1 + 1, e.1.picks⟩, e.2) : OE) :: B)[k]'(by rw [List.length_append, hA'l.out, List.length_cons]; omega) = (⟨p, X1, X2, (p : Int) + 1 + 1 + 1, (p : Int) + 1 + 1 + 1 + 1, e.1.picks⟩, e.2) := by
          rw [List.getElem_append_right (by rw [hA'l.out]; exact Nat.le_refl _)]
          simp [hA'l.out]
        rw [hget] at hc5
        exact hc5
      have HI := fun W (hW : W.ownsRow base 3 1 (.slice e.2.1 e.1.picks.length e.2.2) e.1.picks.length (e.1.picks.map I)) => markInt_any base e.1.picks.length e.2.2 (p + 5) e.2.1 e.1.picks W hW (by omega) (by omega)
      rw [show ((p + 5 : Nat) : Int) = (p : Int) + 1 + 1 + 1 + 1 + 1 by omega] at HI
      have hkn2 : Hid (((p + 5 + e.1.picks.length : Nat) : Int) = ((kE k0 (A ++ [e]) : Nat) : Int)) := by show _ = _; rw [hkn.out]
      have HT : Hid (∀ W, W.ownsRow base 3 1 (.slice e.2.1 e.1.picks.length e.2.2) e.1.picks.length ((marksI (p + 5) e.1.picks.length).map I) → V4.grownBy W (Value.slice e.2.1 e.1.picks.length e.2.2).ownBlock → OpsAt base ((A' ++ [eF]) ++ B) (some ⟨g, 0, none⟩) c W ∧ Below base V4 W ∧ MkF w W) := fun W h3 h4 => by
        have h5 := hO4.turn eF (by rw [hmE.out]) (by rw [hmE.out]; simp [opL, marksI_len]) (by rw [hmE.out]; exact marksI_len _ _) (by rw [hmE.out]; exact h3) h4
        refine ⟨by rw [List.append_assoc]; exact h5, (Below.refl base V4).grown h4 (Nat.le_trans hb b4.size) (fun q hq => (ownG_cells hpk hq).1), m4.grown hpk h4⟩
      have HI : Hid _ := HI
      generalize e.1.picks.length = pl at hcl HI HT hpk hkn2 hkA hkn
      clear hO4 hmem hmE
      go_wp2_with (first | (go_at_call 30; refine (HI.out _ hpk).mono ?_; rintro e1 w5 ⟨rfl, hI1, hI2⟩))
      obtain ⟨hO5, b5, m5⟩ := HT.out _ hI1 hI2
      have hO6 := HR2.out _ hO5
      go_roundw
      case rel => exact ⟨A ++ [e], B, hAB2.out, by rw [← hkn2.out]; exact int_eq (by omega), by rw [← hAl.out]; rfl, hO6, b4.trans b5, m5⟩
      case measure => simp [intOf]; simp at hlen; omega
    | nil =>
      rw [List.append_nil] at hAB hO
      have hx1 : ¬ (((A.length : Nat) : Int) < (n : Int)) := by simp at hlen; omega
      have hfin : Hid (∀ e W, e = .returned (.int .i64 ((kE k0 A : Nat) : Int)) → W = wr → R e W) := fun e W h3 h4 => by
        rw [← hRo.out, hAB]; subst h4; exact ⟨h3, hO, hbw, hmf⟩
      clear hRo hAB hO HM h
      go_wp2_with fail
      exact hfin.out _ _ rfl rfl
end Go.Proofs.YthklibioolnggaaGreatDoor
