import Derived.Test.YthklibioolnggaaGreatDoorAx
namespace Go.Proofs.YthklibioolnggaaGreatDoor
open Go.RowKit Go.Proofs.Sha

theorem TArg.ne {b off : Nat} {ss : List ByteArray} {gs : Nat} {W : World} {v0 v1 : Int} {x : Option Addr} {n c : Nat} (h : TArg (some ⟨b, off, none⟩) ss W) (h0 : 0 < ss.length) (hg : W.heap[gs]? = some (.cells #[.int .i64 v0, .int .i64 v1, .slice x n c] 24)) : b ≠ gs := by
  obtain ⟨b', off', e, hb, hc⟩ := h.at_ h0
  injection e with e
  injection e with e1 e2
  subst e1 e2
  rintro rfl
  have h1 := hc 0 h0
  rw [Lib.cell_of_heap hg] at h1
  match off with
  | 0 => simp at h1
  | 1 => simp at h1
  | 2 => simp at h1
  | q + 3 => simp at h1
theorem TArg.kp {a : Option Addr} {ss : List ByteArray} {base gs : Nat} {W W' : World} {v0 v1 : Int} {x : Option Addr} {n c : Nat} (h : TArg a ss W) (hlt : ∀ b off, a = some ⟨b, off, none⟩ → 0 < ss.length → b < base) (hk : Kp base gs W W') (hg : W.heap[gs]? = some (.cells #[.int .i64 v0, .int .i64 v1, .slice x n c] 24)) : TArg a ss W' := by
  refine ⟨fun h0 => ?_⟩
  obtain ⟨b, off, rfl, hb, hc⟩ := h.at_ h0
  have hb2 := hlt b off rfl h0
  exact ⟨b, off, rfl, Nat.lt_of_lt_of_le hb hk.size, fun j hj => (World.cell?_of_block (hk.blk b hb2 (h.ne h0 hg))).trans (hc j hj)⟩
theorem MapS.kp {r base gs : Nat} {ks : List ByteArray} {vs : List Value} {W W' : World} {cs : Array Value} (h : MapS r ks vs W) (hr : r < base) (hk : Kp base gs W W') (hg : W.heap[gs]? = some (.cells cs 24)) : MapS r ks vs W' := by
  obtain ⟨es, c, h1, h2⟩ := h
  have hne : r ≠ gs := by rintro rfl; rw [h1] at hg; cases hg
  exact ⟨es, c, (hk.blk r hr hne).trans h1, h2⟩
theorem MapS.lt {r : Nat} {ks : List ByteArray} {vs : List Value} {W : World} (h : MapS r ks vs W) : r < W.heap.size := by
  obtain ⟨es, c, h1, h2⟩ := h
  exact (Array.getElem?_eq_some_iff.1 h1).1
theorem LinesAt.kp {g r0 r1 r2 base gs : Nat} {fs : List Nat} {W W' : World} {cs : Array Value} (h : LinesAt g r0 r1 r2 fs W) (hr : ∀ q, W.heap.size ≤ q ∨ q < base) (hk : Kp base gs W W') (hg : W.heap[gs]? = some (.cells cs 24)) : LinesAt g r0 r1 r2 fs W' := by
  have L : ∀ q, q < W.heap.size → q < base := fun q hq => (hr q).elim (fun h => absurd h (by omega)) id
  have B : ∀ (q : Nat) (ds : Array Value) (T : TypeId), T ≠ 24 → W.heap[q]? = some (.cells ds T) → W'.heap[q]? = some (.cells ds T) := fun q ds T hT hq => (hk.blk q (L q (Array.getElem?_eq_some_iff.1 hq).1) (ne_of_type hq hg hT)).trans hq
  exact ⟨B _ _ _ (by decide) h.row, h.m0.kp (L _ h.m0.lt) hk hg, h.m1.kp (L _ h.m1.lt) hk hg, h.m2.1, h.m2.2.1.kp (L _ h.m2.2.1.lt) hk hg, fun i hi => B _ _ _ (by decide) (h.m2.2.2 i hi)⟩

set_option maxRecDepth 100000 in
set_option maxHeartbeats 1000000 in
theorem iparse_any (t : ByteArray) (w : World) (hE : Env w) (ht : t.size ≤ 1048576) : Calls Tryz.prog 5 #[.string t] w (ScPost (parseR t) w) := by
  obtain ⟨R, hR⟩ : ∃ R, ScPost (parseR t) w = R := ⟨_, rfl⟩
  have hRo : Hid (ScPost (parseR t) w = R) := hR
  rw [hR]
  clear hR
  have nA := heap_alloc_new w (.cells #[.int .i64 0, .int .i64 0, .slice none 0 0] 24)
  have bA : Below w.heap.size w (w.alloc (.cells #[.int .i64 0, .int .i64 0, .slice none 0 0] 24)) := (Below.refl _ _).alloc (Nat.le_refl _) _
  have HL : Hid (∀ W, Env W → Calls Tryz.prog 13 #[.string t] W fun e w' => ∃ a c, e = .returned (.slice a (linesV t).length c) ∧ TArg a (linesV t) w' ∧ Below W.heap.size W w') := fun W hW => ilines_any t W hW ht
  have HK : Hid (∀ W, Calls Tryz.prog 14 #[] W fun e w' => ∃ g r0 r1 r2 gs, e = .returned (.slice (some ⟨g, 0, none⟩) 3 3) ∧ LinesAt g r0 r1 r2 gs w' ∧ Below W.heap.size W w') := fun W => lineKinds_any W
  have hlf := linesV_facts t
  go_enter Tryz.func5, Tryz.ntmps5
  go_upto_region 1 with fail
  generalize w.alloc (.cells #[.int .i64 0, .int .i64 0, .slice none 0 0] 24) = W0 at nA bA ⊢
  obtain ⟨g2, hg2⟩ : ∃ g, w.heap.size = g := ⟨_, rfl⟩
  have hg2l : w.heap.size ≤ g2 := Nat.le_of_eq hg2
  rw [hg2] at nA
  try rw [hg2]
  clear hg2
  by_cases h6 : 60000 < t.size
  · have z1 : (t.size : Int) > 60000 := by omega
    have hpr2 : Hid (parseR t = badS 1) := by show _ = _; rw [parseR, if_pos h6]
    have cb0 := Lib.cell_of_heap nA 0
    have cb1 := Lib.cell_of_heap nA 1
    have cb2 := Lib.cell_of_heap nA 2
    have fb : ∀ j, W0.frozen? ⟨g2, j, none⟩ = false := fun j => by rw [World.frozen?, nA]; rfl
    clear HL HK
    go_wp2_with fail
    refine retSc rfl rfl rfl rfl (set3_heap nA _ _ _) ?_
    rw [← hRo.out, hpr2.out]
    exact ⟨[], none, 0, rfl, rfl, ops_nil _ _, set3_below bA hg2l _ _ _⟩
  · have z1 : ¬ ((t.size : Int) > 60000) := by omega
    have hpr2 : Hid (parseR t = contS (linesV t) 0 0 0 []) := contS_begin t h6
    generalize linesV t = L at HL hlf hpr2
    obtain ⟨N, hN⟩ : ∃ N, L.length = N := ⟨_, rfl⟩
    have hLN : Hid (L.length = N) := hN
    rw [hN] at HL hlf
    clear hN h6
    have nS := heap_alloc_new W0 (.cells #[.int .i64 0, .int .i64 0, .slice none 0 0] 24)
    have bS : Below W0.heap.size W0 (W0.alloc (.cells #[.int .i64 0, .int .i64 0, .slice none 0 0] 24)) := (Below.refl _ _).alloc (Nat.le_refl _) _
    go_upto_region 4 with fail
    generalize W0.alloc (.cells #[.int .i64 0, .int .i64 0, .slice none 0 0] 24) = W1 at nS bS ⊢
    obtain ⟨s, hs⟩ : ∃ g, W0.heap.size = g := ⟨_, rfl⟩
    have hso : Hid (W0.heap.size = s) := hs
    have hne : g2 ≠ s := fun e => by have := (Array.getElem?_eq_some_iff.1 nA).1; omega
    rw [hs] at nS
    try rw [hs]
    clear hs
    have n1 := (bS.block g2 (Array.getElem?_eq_some_iff.1 nA).1).trans nA
    have bw1 := bA.trans (bS.mono bA.size)
    have hE1 := hE.below bw1
    go_upto_region 5 with (first | (go_at_call 13; refine (HL.out _ hE1).mono ?_; rintro e w2 ⟨a1, c1, rfl, hT2, hb2⟩) | (go_at_call 14; refine (HK.out _).mono ?_; rintro e w3 ⟨g, r0, r1, r2, fs, rfl, hM3, hb3⟩))
    have hb13 := hb2.trans (hb3.mono hb2.size)
    have n3 := (hb13.block g2 (Array.getElem?_eq_some_iff.1 n1).1).trans n1
    have nS3 := (hb13.block s (Array.getElem?_eq_some_iff.1 nS).1).trans nS
    have bw3 := bw1.trans (hb13.mono bw1.size)
    have hT3 := hT2.below hb3
    have hg2s : g2 < s := by have := (Array.getElem?_eq_some_iff.1 nA).1; rw [hso.out] at this; exact this
    have bs3 : Below s W0 w3 := by have := bS.trans (hb13.mono bS.size); rw [hso.out] at this; exact this
    have hs3 := (Array.getElem?_eq_some_iff.1 nS3).1
    have n0 : W0.heap[g2]? = _ := nA
    have hTb : ∀ b off, a1 = some ⟨b, off, none⟩ → 0 < L.length → b < w3.heap.size := fun b off e h0 => by
      obtain ⟨b', off', e', hb', _⟩ := hT3.at_ h0
      rw [e] at e'; injection e' with e'; injection e' with e1 e2; subst e1; exact hb'
    have bw0 : Below w.heap.size w W0 := bA
    clear nA bA nS bS n1 bw1 hE1 hT2 hb2 hb3 hb13 HL HK W1 w2
    have hSc : ScAt w3.heap.size s 0 0 [] none 0 w3 := ⟨nS3, ops_nil _ _⟩
    obtain ⟨M, hM⟩ : ∃ M : Nat, max N 2 = M := ⟨_, rfl⟩
    have hMo : Hid (max N 2 = M) := hM
    have hMN : N ≤ M ∧ 2 ≤ M ∧ (M = N ∨ (M = 2 ∧ N < 2)) := by omega
    clear hM
    have hmx : (max (N : Int) 2) = (M : Int) := by have := hMo.out; omega
    go_upto_region 6 with fail
    go_loopw [18] (fun t18 wr => ∃ (j : Nat) (wd cap : Int) (es : List OE) (a : Option Addr) (c : Nat), j ≤ N ∧ j ≤ 1002 ∧ es.length = j - 2 ∧ t18 = .int .i64 (j : Int) ∧ ScAt w3.heap.size s wd cap es a c wr ∧ Kp w3.heap.size s w3 wr ∧ Hid (parseR t = contS L j wd cap (es.map (·.1)))) (fun t _ => M - (intOf t).toNat)
    case atStart => exact ⟨0, 0, 0, [], none, 0, by omega, by omega, rfl, rfl, hSc, Kp.of (Below.refl _ _), hpr2⟩
    case round =>
      obtain ⟨j, wd, cap, es, a, c, hjM, hj2, hlen, rfl, hSr, hkp, HP⟩ := hrel
      have nB := (hkp.blk g2 (by omega) hne).trans n3
      have bwr := bw3.trans ((hkp.low (by omega)).mono (by omega))
      have hTr := hT3.kp hTb hkp nS3
      have hMr := hM3.kp (fun q => by omega) hkp nS3
      have hEr := hE.below bwr
      have hsr := hkp.size
      by_cases hlt : j < M
      · have y2 : (j : Int) < (M : Int) := by omega
        by_cases hjN : N ≤ j
        · have hpr3 : Hid (parseR t = badS ((j + 2 : Nat) : Int)) := by show _ = _; rw [HP.out, contS_short (by omega) (by rw [hLN.out]; exact hjN)]
          have d1 : decide ((N : Int) ≤ (j : Int)) = true := decide_eq_true (by omega)
          have d2 : decide (N ≤ j) = true := decide_eq_true hjN
          have d3 : (N : Int) ≤ (j : Int) := by omega
          clear HP hSr hTr hMr hEr hkp
          go_upto_region 8 with fail
          go_quiet (first | fail)
          have cb0 := Lib.cell_of_heap nB 0
          have cb1 := Lib.cell_of_heap nB 1
          have cb2 := Lib.cell_of_heap nB 2
          have fb : ∀ j, wr.frozen? ⟨g2, j, none⟩ = false := fun j => by rw [World.frozen?, nB]; rfl
          go_wp2_with fail
          refine retSc rfl rfl rfl rfl (set3_heap nB _ _ _) ?_
          rw [← hRo.out, hpr3.out]
          refine ⟨[], none, 0, rfl, ?_, ops_nil _ _, set3_below (dN bwr _) hg2l _ _ _⟩
          have e : ((j + 2 : Nat) : Int) = 2 + (j : Int) := by omega
          simp only [badS, e]
          rfl
        · have d1 : decide ((N : Int) ≤ (j : Int)) = false := decide_eq_false (by omega)
          have d2 : decide (N ≤ j) = false := decide_eq_false hjN
          have d3 : ¬ ((N : Int) ≤ (j : Int)) := by omega
          by_cases hj0 : 1002 ≤ j
          · have hpr3 : Hid (parseR t = badS ((j + 2 : Nat) : Int)) := by show _ = _; rw [HP.out, contS_many (by omega) (by rw [hLN.out]; omega)]
            have d4 : decide ((1002 : Int) ≤ (j : Int)) = true := decide_eq_true (by omega)
            have d5 : decide (1002 ≤ j) = true := decide_eq_true hj0
            have d6 : (1002 : Int) ≤ (j : Int) := by omega
            clear HP hSr hTr hMr hEr hkp
            go_upto_region 8 with fail
            go_quiet (first | fail)
            have cb0 := Lib.cell_of_heap nB 0
            have cb1 := Lib.cell_of_heap nB 1
            have cb2 := Lib.cell_of_heap nB 2
            have fb : ∀ j, wr.frozen? ⟨g2, j, none⟩ = false := fun j => by rw [World.frozen?, nB]; rfl
            go_wp2_with fail
            refine retSc rfl rfl rfl rfl (set3_heap nB _ _ _) ?_
            rw [← hRo.out, hpr3.out]
            refine ⟨[], none, 0, rfl, ?_, ops_nil _ _, set3_below (dN bwr _) hg2l _ _ _⟩
            have e : ((j + 2 : Nat) : Int) = 2 + (j : Int) := by omega
            simp only [badS, e]
            rfl
          · have d4 : decide ((1002 : Int) ≤ (j : Int)) = false := decide_eq_false (by omega)
            have d5 : decide (1002 ≤ j) = false := decide_eq_false hj0
            have d6 : ¬ ((1002 : Int) ≤ (j : Int)) := by omega
            have hjL : j < L.length := by rw [hLN.out]; omega
            obtain ⟨bl, ol, rfl, hbl, hcl⟩ := hTr.at_ (by omega)
            have cx := hcl j hjL
            have hx : L[j]? = some (L.getD j ⟨#[]⟩) := by rw [List.getD_eq_getElem?_getD, List.getElem?_eq_getElem hjL]; rfl
            have hxz : (L.getD j ⟨#[]⟩).size ≤ 1048576 := Nat.le_trans (getD_size hlf.2 j) ht
            generalize L.getD j ⟨#[]⟩ = x at cx hx hxz
            have hdw : Below wr.heap.size wr wr.drew := (Below.refl _ _).drew
            have hSd := hSr.below hdw
            have hEd := hEr.below hdw
            have hMd := hMr.below hdw
            have hsd : w3.heap.size ≤ wr.drew.heap.size := hsr
            have hex : ∃ (q r : Nat) (b : Bool), min (j : Int) 2 = (q : Int) ∧ q < 3 ∧ wr.cell? ⟨g, q, none⟩ = some (.map (some r)) ∧ Calls Tryz.prog 15 #[.pointer (some ⟨s, 0, none⟩), .map (some r), .string x] wr.drew (StepPost L j w3.heap.size s wd cap es wr.drew b) := by
              match j, hx, hlen, hj0 with
              | 0, hx, hlen, _ =>
                obtain rfl : es = [] := List.eq_nil_of_length_eq_zero hlen
                obtain ⟨b, hb⟩ := enter0_any L x w3.heap.size s r0 wd cap a c wr.drew hEd hMd.m0 hSd hx hxz hsd
                exact ⟨0, r0, b, by omega, by omega, Lib.cell_of_heap hMr.row 0, hb⟩
              | 1, hx, hlen, _ =>
                obtain rfl : es = [] := List.eq_nil_of_length_eq_zero hlen
                obtain ⟨b, hb⟩ := enter1_any L x w3.heap.size s r1 wd cap a c wr.drew hEd hMd.m1 hSd hx hxz hsd
                exact ⟨1, r1, b, by omega, by omega, Lib.cell_of_heap hMr.row 1, hb⟩
              | i + 2, hx, hlen, hj0 =>
                obtain ⟨b, hb⟩ := enter2_any L i x w3.heap.size s r2 fs wd cap es a c wr.drew hEd hMd.m2 hSd (by omega) (by omega) hx hxz hsd
                exact ⟨2, r2, b, by omega, by omega, Lib.cell_of_heap hMr.row 2, hb⟩
            obtain ⟨q, r, b, hq, hq3, cq, HC0⟩ := hex
            have y3 : (0 : Int) ≤ (j : Int) := by omega
            have y4 : (j : Int) < (N : Int) := by omega
            have y5 : (0 : Int) ≤ (q : Int) := by omega
            have y6 : (q : Int) < 3 := by omega
            have hgb : g < w3.heap.size := (Array.getElem?_eq_some_iff.1 hM3.row).1
            have hgn : g ≠ s := ne_of_type hM3.row nS3 (by decide)
            have hbb : bl < w3.heap.size := hTb bl ol rfl (by omega)
            have hbn : bl ≠ s := hT3.ne (by omega) nS3
            have HQ : Hid (∀ W, Kp w3.heap.size s wr.drew W → (W.cell? ⟨g, q, none⟩ = some (.map (some r)) ∧ W.cell? ⟨bl, ol + j, none⟩ = some (.string x)) ∧ W.heap[g2]? = some (.cells #[.int .i64 0, .int .i64 0, .slice none 0 0] 24) ∧ Below w.heap.size w W ∧ Kp w3.heap.size s w3 W) := fun W hW => by
              have hW2 : Kp w3.heap.size s wr W := (Kp.of (hdw.mono hsr)).trans hW
              exact ⟨⟨(World.cell?_of_block (hW2.blk g hgb hgn)).trans cq, (World.cell?_of_block (hW2.blk bl hbb hbn)).trans cx⟩, (hW2.blk g2 (by omega) hne).trans nB, bwr.trans ((hW2.low (by omega)).mono (by omega)), hkp.trans hW2⟩
            have hS0 : Hid _ := (HQ.out wr.drew (Kp.of (Below.refl _ _))).1
            clear hcl hx hxz hMr hEr hTr hlf hSd hEd hMd hsd hdw hSr
            unfold StepPost at HC0
            cases b with
            | false =>
              have HC1 : Hid (∀ _u : Unit, Calls Tryz.prog 15 #[.pointer (some ⟨s, 0, none⟩), .map (some r), .string x] wr.drew fun e w' => e = .returned (.bool false) ∧ contS L j wd cap (es.map (·.1)) = badS ((j + 2 : Nat) : Int) ∧ Kp w3.heap.size s wr.drew w') := fun _ => HC0.mono (by rintro e w' ⟨rfl, (⟨h, _⟩ | ⟨_, h1, h2⟩)⟩ <;> first | (cases h; done) | exact ⟨rfl, h1, h2⟩)
              clear HC0
              go_upto_region 8 with fail
              go_region_held3 (fun W => W.cell? ⟨g, q, none⟩ = some (.map (some r)) ∧ W.cell? ⟨bl, ol + j, none⟩ = some (.string x)) (first | exact hS0.out | exact hS4.out) (first | (go_at_call 15; refine (HC1.out ()).mono ?_; rintro e w4 ⟨rfl, h1, h2⟩; have hS4 : Hid _ := (HQ.out _ h2).1))
              have n4 := (HQ.out _ h2).2.1
              have bw4 := (HQ.out _ h2).2.2.1
              have hpr3 : Hid (parseR t = badS ((j + 2 : Nat) : Int)) := by show _ = _; rw [HP.out, h1]
              clear HC1 HQ h1 h2 hS0 hS4 HP
              have cb0 := Lib.cell_of_heap n4 0
              have cb1 := Lib.cell_of_heap n4 1
              have cb2 := Lib.cell_of_heap n4 2
              have fb : ∀ j, w4.frozen? ⟨g2, j, none⟩ = false := fun j => by rw [World.frozen?, n4]; rfl
              go_wp2_with fail
              refine retSc rfl rfl rfl rfl (set3_heap n4 _ _ _) ?_
              rw [← hRo.out, hpr3.out]
              refine ⟨[], none, 0, rfl, ?_, ops_nil _ _, set3_below bw4 hg2l _ _ _⟩
              have e : ((j + 2 : Nat) : Int) = 2 + (j : Int) := by omega
              simp only [badS, e]
              rfl
            | true =>
              have HC1 : Hid (∀ _u : Unit, Calls Tryz.prog 15 #[.pointer (some ⟨s, 0, none⟩), .map (some r), .string x] wr.drew fun e w' => e = .returned (.bool true) ∧ (∃ wd' cap' es' a' c', contS L j wd cap (es.map (·.1)) = contS L (j + 1) wd' cap' (es'.map (·.1)) ∧ ScAt w3.heap.size s wd' cap' es' a' c' w' ∧ es'.length = j + 1 - 2) ∧ Kp w3.heap.size s wr.drew w') := fun _ => HC0.mono (by rintro e w' ⟨rfl, (⟨_, wd', cap', es', a', c', h1, h3, h4, h2⟩ | ⟨h, _⟩)⟩ <;> first | (cases h; done) | exact ⟨rfl, ⟨wd', cap', es', a', c', h1, h3, h4⟩, h2⟩)
              clear HC0
              go_upto_region 8 with fail
              go_region_held3 (fun W => W.cell? ⟨g, q, none⟩ = some (.map (some r)) ∧ W.cell? ⟨bl, ol + j, none⟩ = some (.string x)) (first | exact hS0.out | exact hS4.out) (first | (go_at_call 15; refine (HC1.out ()).mono ?_; rintro e w4 ⟨rfl, hz1, h2⟩; have hS4 : Hid _ := (HQ.out _ h2).1))
              obtain ⟨wd', cap', es', a', c', h1, h3, h4⟩ := hz1
              have hk4 := (HQ.out _ h2).2.2.2
              have hpr3 : Hid (parseR t = contS L (j + 1) wd' cap' (es'.map (·.1))) := by show _ = _; rw [HP.out, h1]
              clear HC1 HQ h1 h2 hS0 hS4 HP
              go_wp2_with fail
              go_roundw
              case rel => exact ⟨j + 1, wd', cap', es', a', c', by omega, by omega, h4, by go_num, h3, hk4, hpr3⟩
              case measure => simp [intOf]; omega
      · have hjN : j = N := by omega
        have hpr3 : Hid (parseR t = ⟨0, wd, cap, es.map (·.1)⟩) := by show _ = _; rw [HP.out, contS_done (by omega) (by rw [hLN.out]; omega)]
        have y2 : ¬ ((j : Int) < (M : Int)) := by omega
        have cb0 := Lib.cell_of_heap nB 0
        have cb1 := Lib.cell_of_heap nB 1
        have cb2 := Lib.cell_of_heap nB 2
        have fb : ∀ j, wr.frozen? ⟨g2, j, none⟩ = false := fun j => by rw [World.frozen?, nB]; rfl
        have ca0 := Lib.cell_of_heap hSr.blk 0
        have ca1 := Lib.cell_of_heap hSr.blk 1
        have ca2 := Lib.cell_of_heap hSr.blk 2
        have hOr := hSr.ops
        clear HP hSr hTr hMr hEr hkp
        go_wp2_with fail
        refine retSc rfl rfl rfl rfl (set3_heap nB _ _ _) ?_
        rw [← hRo.out, hpr3.out]
        exact ⟨es, a, c, rfl, by simp only [hlen, hjN], ops_set3 (hOr.mono bw3.size) nB _ _ _, set3_below bwr hg2l _ _ _⟩
end Go.Proofs.YthklibioolnggaaGreatDoor
