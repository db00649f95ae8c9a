import Derived.Test.YthklibioolnggaaGreatDoorAn
namespace Go.Proofs.YthklibioolnggaaGreatDoor
open Go.RowKit Go.Proofs.Sha

theorem linesV_facts (t : ByteArray) : (linesV t).length ≤ t.size + 1 ∧ ∀ x ∈ linesV t, x.size ≤ t.size := by
  have h := cutB_size 10 t
  unfold linesV
  split
  · refine ⟨by rw [List.length_dropLast]; omega, fun x hx => h.2 x (List.dropLast_subset _ hx)⟩
  · exact h

set_option maxRecDepth 100000 in
set_option maxHeartbeats 1000000 in
theorem sparse_any (t : ByteArray) (w : World) (ht : t.size ≤ 1048576) : Calls Tryz.prog 4 #[.string t] w (ScPost (parseR t) w) := by
  obtain ⟨R, hR⟩ : ∃ R, ScPost (parseR t) w = R := ⟨_, rfl⟩
  have hRo : Hid (ScPost (parseR t) w = R) := hR
  rw [hR]
  clear hR
  have nA := heap_alloc_new w (.cells #[.int .i64 0, .int .i64 0, .slice none 0 0] 24)
  have bA : Below w.heap.size w (w.alloc (.cells #[.int .i64 0, .int .i64 0, .slice none 0 0] 24)) := (Below.refl _ _).alloc (Nat.le_refl _) _
  have HL : Hid (∀ W, Calls Tryz.prog 9 #[.string t] W fun e w' => ∃ a c, e = .returned (.slice a (linesV t).length c) ∧ TArg a (linesV t) w' ∧ Below W.heap.size W w') := fun W => llines_any t W ht
  have hlf := linesV_facts t
  have hpr : Hid (parseR t = if 60000 < t.size then badS 1 else match headV [119, 105, 100, 116, 104] 87 (linesV t)[0]? with
    | none => badS 2
    | some wd => match headV [99, 97, 112] 67 (linesV t)[1]? with
      | none => badS 3
      | some cap => if (opsR 0 ((linesV t).drop 2) []).1 = 0 then ⟨0, wd, cap, (opsR 0 ((linesV t).drop 2) []).2⟩ else badS (opsR 0 ((linesV t).drop 2) []).1) := rfl
  go_enter Tryz.func4, Tryz.ntmps4
  go_upto_region 1 with fail
  generalize w.alloc (.cells #[.int .i64 0, .int .i64 0, .slice none 0 0] 24) = W0 at nA bA ⊢
  obtain ⟨g2, hg2⟩ : ∃ g, w.heap.size = g := ⟨_, rfl⟩
  have hg2l : w.heap.size ≤ g2 := Nat.le_of_eq hg2
  rw [hg2] at nA
  try rw [hg2]
  clear hg2
  by_cases h6 : 60000 < t.size
  · have z1 : (t.size : Int) > 60000 := by omega
    have hpr2 : Hid (parseR t = badS 1) := by show _ = _; rw [hpr.out, if_pos h6]
    have cb0 := Lib.cell_of_heap nA 0
    have cb1 := Lib.cell_of_heap nA 1
    have cb2 := Lib.cell_of_heap nA 2
    have fb : ∀ j, W0.frozen? ⟨g2, j, none⟩ = false := fun j => by rw [World.frozen?, nA]; rfl
    clear hpr HL
    go_wp2_with fail
    refine retSc rfl rfl rfl rfl (set3_heap nA _ _ _) ?_
    rw [← hRo.out, hpr2.out]
    exact ⟨[], none, 0, rfl, rfl, ops_nil _ _, set3_below bA hg2l _ _ _⟩
  · have z1 : ¬ ((t.size : Int) > 60000) := by omega
    have hpr2 : Hid (parseR t = match headV [119, 105, 100, 116, 104] 87 (linesV t)[0]? with
      | none => badS 2
      | some wd => match headV [99, 97, 112] 67 (linesV t)[1]? with
        | none => badS 3
        | some cap => if (opsR 0 ((linesV t).drop 2) []).1 = 0 then ⟨0, wd, cap, (opsR 0 ((linesV t).drop 2) []).2⟩ else badS (opsR 0 ((linesV t).drop 2) []).1) := by show _ = _; rw [hpr.out, if_neg h6]
    clear hpr
    generalize linesV t = L at HL hlf hpr2
    obtain ⟨N, hN⟩ : ∃ N, L.length = N := ⟨_, rfl⟩
    have hLN : Hid (L.length = N) := hN
    rw [hN] at HL hlf
    clear hN
    go_upto_region 4 with (first | (go_at_call 9; refine (HL.out _).mono ?_; rintro e w1 ⟨a1, c1, rfl, hT1, hb1⟩))
    have n1 : w1.heap[g2]? = _ := (hb1.block g2 (Array.getElem?_eq_some_iff.1 nA).1).trans nA
    have bw1 := bA.trans (hb1.mono bA.size)
    clear nA bA hb1 HL W0
    have HH : Hid (∀ W i word, TArg a1 L W → i < 2 → Calls Tryz.prog 10 #[.slice a1 N c1, .int .i64 ((i : Nat) : Int), .string word] W fun e w' => e = .returned (.tuple #[.int .i64 (headS word.data.toList L[i]?).1, .bool (headS word.data.toList L[i]?).2]) ∧ Below W.heap.size W w') := fun W i word hT hi => by
      have := lhead_any a1 L c1 i word W hT (by rw [hLN.out]; omega) (fun x hx => Nat.le_trans (hlf.2 x hx) ht) hi
      rwa [hLN.out] at this
    have HHa := HH.out w1 0 ⟨#[119, 105, 100, 116, 104]⟩ hT1 (by omega)
    have he1 := head_eq [119, 105, 100, 116, 104] 87 (by decide) L[0]?
    have e0 : (⟨#[119, 105, 100, 116, 104]⟩ : ByteArray).data.toList = [119, 105, 100, 116, 104] := rfl
    rw [e0] at HHa
    generalize headS [119, 105, 100, 116, 104] L[0]? = h0 at HHa he1
    obtain ⟨r1, r2⟩ := h0
    simp only at HHa he1
    have HH0 : Hid (Calls Tryz.prog 10 #[.slice a1 N c1, .int .i64 0, .string ⟨#[119, 105, 100, 116, 104]⟩] w1 fun e w' => e = .returned (.tuple #[.int .i64 r1, .bool r2]) ∧ Below w1.heap.size w1 w') := by exact HHa
    clear HHa
    go_upto_region 5 with (first | (go_at_call 10; refine HH0.out.mono ?_; rintro e w2 ⟨rfl, hb2⟩))
    have n2 : w2.heap[g2]? = _ := (hb2.block g2 (Array.getElem?_eq_some_iff.1 n1).1).trans n1
    have bw2 := bw1.trans (hb2.mono bw1.size)
    have hT2 := hT1.below hb2
    clear n1 bw1 hT1 hb2 HH0 w1
    have HWd : Hid (∀ W : World, Calls Tryz.prog 11 #[.int .i64 r1] W fun e w' => e = .returned (.bool (isWd r1)) ∧ w' = W) := fun W => swidth_any r1 W
    have hf87 : fitV 87 r1 = isWd r1 := rfl
    rw [hf87] at he1
    obtain ⟨bw, hbw⟩ : ∃ bw, isWd r1 = bw := ⟨_, rfl⟩
    rw [hbw] at HWd he1
    clear hf87 hbw
    cases r2 with
    | false =>
      have hpr3 : Hid (parseR t = badS 2) := by show _ = _; rw [hpr2.out, he1]; rfl
      have cb0 := Lib.cell_of_heap n2 0
      have cb1 := Lib.cell_of_heap n2 1
      have cb2 := Lib.cell_of_heap n2 2
      have fb : ∀ j, w2.frozen? ⟨g2, j, none⟩ = false := fun j => by rw [World.frozen?, n2]; rfl
      clear hpr2 he1
      go_wp2_with fail
      refine retSc rfl rfl rfl rfl (set3_heap n2 _ _ _) ?_
      rw [← hRo.out, hpr3.out]
      exact ⟨[], none, 0, rfl, rfl, ops_nil _ _, set3_below bw2 hg2l _ _ _⟩
    | true =>
      cases bw with
      | false =>
        have hpr3 : Hid (parseR t = badS 2) := by show _ = _; rw [hpr2.out, he1]; rfl
        have cb0 := Lib.cell_of_heap n2 0
        have cb1 := Lib.cell_of_heap n2 1
        have cb2 := Lib.cell_of_heap n2 2
        have fb : ∀ j, w2.frozen? ⟨g2, j, none⟩ = false := fun j => by rw [World.frozen?, n2]; rfl
        clear hpr2 he1
        go_wp2_with (first | (go_at_call 11; refine (HWd.out _).mono ?_; rintro e w3 ⟨rfl, rfl⟩))
        refine retSc rfl rfl rfl rfl (set3_heap n2 _ _ _) ?_
        rw [← hRo.out, hpr3.out]
        exact ⟨[], none, 0, rfl, rfl, ops_nil _ _, set3_below bw2 hg2l _ _ _⟩
      | true =>
        have hpr3 : Hid (parseR t = match headV [99, 97, 112] 67 L[1]? with
            | none => badS 3
            | some cap => if (opsR 0 (L.drop 2) []).1 = 0 then ⟨0, r1, cap, (opsR 0 (L.drop 2) []).2⟩ else badS (opsR 0 (L.drop 2) []).1) := by show _ = _; rw [hpr2.out, he1]; rfl
        clear hpr2 he1
        have HHb := HH.out w2 1 ⟨#[99, 97, 112]⟩ hT2 (by omega)
        have he2 := head_eq [99, 97, 112] 67 (by decide) L[1]?
        have e0 : (⟨#[99, 97, 112]⟩ : ByteArray).data.toList = [99, 97, 112] := rfl
        rw [e0] at HHb
        generalize headS [99, 97, 112] L[1]? = h1 at HHb he2
        obtain ⟨q1, q2⟩ := h1
        simp only at HHb he2
        have HH1 : Hid (Calls Tryz.prog 10 #[.slice a1 N c1, .int .i64 1, .string ⟨#[99, 97, 112]⟩] w2 fun e w' => e = .returned (.tuple #[.int .i64 q1, .bool q2]) ∧ Below w2.heap.size w2 w') := by exact HHb
        clear HHb
        go_upto_region 8 with (first | (go_at_call 11; refine (HWd.out _).mono ?_; rintro e w3 ⟨rfl, rfl⟩) | (go_at_call 10; refine HH1.out.mono ?_; rintro e w3 ⟨rfl, hb3⟩))
        have n3 : w3.heap[g2]? = _ := (hb3.block g2 (Array.getElem?_eq_some_iff.1 n2).1).trans n2
        have bw3 := bw2.trans (hb3.mono bw2.size)
        have hT3 := hT2.below hb3
        clear n2 bw2 hT2 hb3 HH1 HH HWd
        have hf67 : fitV 67 q1 = (decide (0 ≤ q1) && decide (q1 ≤ 1048576)) := rfl
        rw [hf67] at he2
        clear hf67
        cases q2 with
        | false =>
          have hpr4 : Hid (parseR t = badS 3) := by show _ = _; rw [hpr3.out, he2]; rfl
          have cb0 := Lib.cell_of_heap n3 0
          have cb1 := Lib.cell_of_heap n3 1
          have cb2 := Lib.cell_of_heap n3 2
          have fb : ∀ j, w3.frozen? ⟨g2, j, none⟩ = false := fun j => by rw [World.frozen?, n3]; rfl
          clear hpr3 he2
          go_wp2_with fail
          refine retSc rfl rfl rfl rfl (set3_heap n3 _ _ _) ?_
          rw [← hRo.out, hpr4.out]
          exact ⟨[], none, 0, rfl, rfl, ops_nil _ _, set3_below bw3 hg2l _ _ _⟩
        | true =>
          by_cases k0 : 0 ≤ q1
          · by_cases k1 : q1 ≤ 1048576
            · have he3 : headV [99, 97, 112] 67 L[1]? = some q1 := by rw [he2, decide_eq_true k0, decide_eq_true k1]; rfl
              have hN2 : 2 ≤ N := by
                cases hL1 : L[1]? with
                | none => rw [hL1] at he3; cases he3
                | some x => have := (List.getElem?_eq_some_iff.1 hL1).1; rw [hLN.out] at this; omega
              have hpr4 : Hid (parseR t = if (opsR 0 (L.drop 2) []).1 = 0 then ⟨0, r1, q1, (opsR 0 (L.drop 2) []).2⟩ else badS (opsR 0 (L.drop 2) []).1) := by show _ = _; rw [hpr3.out, he3]
              have m1 : ¬ (q1 < 0) := by omega
              have m2 : ¬ (q1 > 1048576) := by omega
              clear hpr3 he2 he3 k0 k1
              have nG := heap_alloc_new w3 (.cells #[.int .i64 r1, .int .i64 q1, .slice none 0 0] 24)
              have bG : Below w3.heap.size w3 (w3.alloc (.cells #[.int .i64 r1, .int .i64 q1, .slice none 0 0] 24)) := (Below.refl _ _).alloc (Nat.le_refl _) _
              go_upto_region 11 with fail
              generalize w3.alloc (.cells #[.int .i64 r1, .int .i64 q1, .slice none 0 0] 24) = W4 at nG bG ⊢
              obtain ⟨ga, hga⟩ : ∃ g, w3.heap.size = g := ⟨_, rfl⟩
              have hgal : w3.heap.size ≤ ga := Nat.le_of_eq hga
              have hne2 : ga ≠ g2 := fun e => by have := (Array.getElem?_eq_some_iff.1 n3).1; omega
              rw [hga] at nG
              try rw [hga]
              clear hga
              obtain ⟨i37, hi37, hz0, hz1, hz2⟩ := info_parts2 info37
              go_wp2_with fail
              go_loopw [10] (fun t10 wr => ∃ (j : Nat) (es : List OE) (a : Option Addr) (c : Nat), j + 2 ≤ N ∧ j ≤ 1000 ∧ es.length = j ∧ t10 = .int .i64 (((j + 2 : Nat)) : Int) ∧ wr.heap[ga]? = some (.cells #[.int .i64 r1, .int .i64 q1, .slice a es.length c] 24) ∧ OpsAt w3.heap.size es a c wr ∧ Below w3.heap.size w3 wr ∧ Hid (opsR 0 (L.drop 2) [] = opsR j (L.drop (j + 2)) (es.map (·.1)))) (fun t _ => N - (intOf t).toNat)
              case atStart => exact ⟨0, [], none, 0, by omega, by omega, rfl, rfl, nG, ops_nil _ _, bG, rfl⟩
              case round =>
                obtain ⟨j, es, a, c, hj1, hj2, hlen, rfl, nA, hO, hbw, HP⟩ := hrel
                have nB := (hbw.block g2 (Array.getElem?_eq_some_iff.1 n3).1).trans n3
                have bwr := bw3.trans (hbw.mono bw3.size)
                rw [hlen] at nA
                have ca0 := Lib.cell_of_heap nA 0
                have ca1 := Lib.cell_of_heap nA 1
                have ca2 := Lib.cell_of_heap nA 2
                by_cases hlt : j + 2 < N
                · have y1 : (0 : Int) ≤ ((j + 2 : Nat) : Int) := by omega
                  have y2 : ((j + 2 : Nat) : Int) < (N : Int) := by omega
                  have hdr : L.drop (j + 2) = L.getD (j + 2) ⟨#[]⟩ :: L.drop (j + 2 + 1) := by
                    rw [List.drop_eq_getElem_cons (by rw [hLN.out]; exact hlt), List.getD_eq_getElem?_getD, List.getElem?_eq_getElem (by rw [hLN.out]; exact hlt)]; rfl
                  obtain ⟨bl, ol, rfl, hbl, hcl⟩ := (hT3.below hbw).at_ (by rw [hLN.out]; omega)
                  have cx := hcl (j + 2) (by rw [hLN.out]; exact hlt)
                  have hx : (L.getD (j + 2) ⟨#[]⟩).size ≤ 1048576 := Nat.le_trans (getD_size hlf.2 (j + 2)) ht
                  have HP1 := HP.out
                  rw [hdr, opsR] at HP1
                  generalize L.getD (j + 2) ⟨#[]⟩ = x at cx hx HP1
                  clear hdr hcl HP
                  by_cases hj : j = 1000
                  · have e9 : ((j : Int) == 1000) = true := by rw [hj]; rfl
                    have hpr5 : Hid (parseR t = badS 1004) := by show _ = _; rw [hpr4.out, HP1, if_pos hj]; rfl
                    have cb0 := Lib.cell_of_heap nB 0
                    have cb1 := Lib.cell_of_heap nB 1
                    have cb2 := Lib.cell_of_heap nB 2
                    have fb : ∀ j, wr.frozen? ⟨g2, j, none⟩ = false := fun j => by rw [World.frozen?, nB]; rfl
                    clear HP1 hpr4 hj
                    go_wp2_with fail
                    refine retSc rfl rfl rfl rfl (set3_heap nB _ _ _) ?_
                    rw [← hRo.out, hpr5.out]
                    exact ⟨[], none, 0, rfl, rfl, ops_nil _ _, set3_below bwr hg2l _ _ _⟩
                  · have e9 : ((j : Int) == 1000) = false := by rw [beq_eq_false_iff_ne]; omega
                    rw [if_neg hj] at HP1
                    have HOP := fun W => lop_any x W hx
                    unfold OpPost at HOP
                    cases hlo : lineOp x with
                    | none =>
                      rw [hlo] at HOP HP1
                      have hpr5 : Hid (parseR t = badS ((j + 4 : Nat) : Int)) := by
                        show _ = _
                        rw [hpr4.out, HP1, if_neg (show ¬ (((j + 4 : Nat) : Int) = 0) by omega)]
                      have HOP' : Hid (∀ W, Calls Tryz.prog 12 #[.string x] W fun e w' => (∃ k : Nat, e = .returned (.tuple #[.agg (opV k ⟨#[]⟩ ⟨#[]⟩ 0 0 none 0 0), .bool false])) ∧ Below W.heap.size W w') := HOP
                      unfold opV at HOP'
                      clear HOP HP1 hpr4
                      go_upto_region 17 with (first | (go_at_call 12; refine (HOP'.out _).mono ?_; rintro e w4 ⟨⟨k4, rfl⟩, hb4⟩))
                      have b4 : Below w4.heap.size w4 (w4.alloc (.cells #[.int .i64 (k4 : Int), .string ⟨#[]⟩, .string ⟨#[]⟩, .int .i64 0, .int .i64 0, .slice none 0 0] 37)) := (Below.refl _ _).alloc (Nat.le_refl _) _
                      generalize w4.alloc (.cells #[.int .i64 (k4 : Int), .string ⟨#[]⟩, .string ⟨#[]⟩, .int .i64 0, .int .i64 0, .slice none 0 0] 37) = w5 at b4 ⊢
                      have b5 := hb4.trans (b4.mono hb4.size)
                      have nC := (b5.block g2 (Array.getElem?_eq_some_iff.1 nB).1).trans nB
                      have bwc := bwr.trans (b5.mono bwr.size)
                      have cb0 := Lib.cell_of_heap nC 0
                      have cb1 := Lib.cell_of_heap nC 1
                      have cb2 := Lib.cell_of_heap nC 2
                      have fb : ∀ j, w5.frozen? ⟨g2, j, none⟩ = false := fun j => by rw [World.frozen?, nC]; rfl
                      clear b4 b5 hb4
                      go_wp2_with fail
                      refine retSc rfl rfl rfl rfl (set3_heap nC _ _ _) ?_
                      rw [← hRo.out, hpr5.out]
                      refine ⟨[], none, 0, rfl, ?_, ops_nil _ _, set3_below bwc hg2l _ _ _⟩
                      have e : ((j + 4 : Nat) : Int) = (j : Int) + 2 + 2 := by omega
                      simp only [badS, e]
                      rfl
                    | some o =>
                      rw [hlo] at HOP HP1
                      have HOP' : Hid (∀ W, Calls Tryz.prog 12 #[.string x] W fun e w' => ∃ a c, e = .returned (.tuple #[.agg (opV o.kind o.key o.val o.n o.m a o.picks.length c), .bool true]) ∧ w'.ownsRow W.heap.size 3 1 (.slice a o.picks.length c) o.picks.length (o.picks.map I) ∧ Below W.heap.size W w') := HOP
                      unfold opV at HOP'
                      have HP2 : Hid (opsR 0 (L.drop 2) [] = opsR (j + 1) (L.drop (j + 2 + 1)) (es.map (·.1) ++ [o])) := HP1
                      clear HOP HP1 hlo
                      go_upto_region 19 with (first | (go_at_call 12; refine (HOP'.out _).mono ?_; rintro e w4 ⟨a4, c4, rfl, hpk, hb4⟩))
                      have b4 : Below w4.heap.size w4 (w4.alloc (.cells #[.int .i64 (o.kind : Int), .string o.key, .string o.val, .int .i64 o.n, .int .i64 o.m, .slice a4 o.picks.length c4] 37)) := (Below.refl _ _).alloc (Nat.le_refl _) _
                      have nD := heap_alloc_new w4 (.cells #[.int .i64 (o.kind : Int), .string o.key, .string o.val, .int .i64 o.n, .int .i64 o.m, .slice a4 o.picks.length c4] 37)
                      generalize w4.alloc (.cells #[.int .i64 (o.kind : Int), .string o.key, .string o.val, .int .i64 o.n, .int .i64 o.m, .slice a4 o.picks.length c4] 37) = w5 at b4 nD ⊢
                      generalize w4.heap.size = gd at nD ⊢
                      have b5 := hb4.trans (b4.mono hb4.size)
                      have hpk5 := ownG_kept hpk (fun q _ hq => b4.block q hq)
                      have hO5 := hO.below b5
                      have hbl5 := hO.blk_lt
                      have nA5 := (b5.block ga (Array.getElem?_eq_some_iff.1 nA).1).trans nA
                      have bw5 := hbw.trans (b5.mono hbw.size)
                      have cd0 := Lib.cell_of_heap nD 0
                      have cd1 := Lib.cell_of_heap nD 1
                      have cd2 := Lib.cell_of_heap nD 2
                      have cd3 := Lib.cell_of_heap nD 3
                      have cd4 := Lib.cell_of_heap nD 4
                      have cd5 := Lib.cell_of_heap nD 5
                      have cf2 := Lib.cell_of_heap nA5 2
                      have own5 := hO5.row
                      rw [hlen] at own5
                      have hws := hbw.size
                      have hw5s := b5.size
                      clear b4 hb4 hpk ca0 ca1 ca2 cx
                      have hfz : ∀ (W : World), W.heap[ga]? = some (.cells #[.int .i64 r1, .int .i64 q1, .slice a j c] 24) → W.cell? ⟨ga, 2, none⟩ = some (.slice a j c) ∧ ∀ f, W.frozen? ⟨ga, f, none⟩ = false := fun W hW => ⟨Lib.cell_of_heap hW 2, fun f => by rw [World.frozen?, hW]; rfl⟩
                      have hfz : Hid _ := hfz
                      go_wp2_with (at_builtin; refine wpList_append_lies _ rfl (.tmp 76) (.tmp 78) 22 rfl w3.heap.size 37 i37 (.agg #[.int .i64 0, .string ⟨#[]⟩, .string ⟨#[]⟩, .int .i64 0, .int .i64 0, .slice none 0 0]) 6 80 Tryz.underlying22 hi37 hz0 hz1 hz2 rfl (by decide) (.slice a j c) j (flatE es) rfl (own5.alloc _) ⟨w5.heap.size, 0, none⟩ 1 1 (opL (o, a4, c4)) rfl rfl (World.news_of_block (heap_alloc_new w5 _)) (by simp [opL, Value.oneCell']) (by decide) (by unfold maxLen; omega) (by omega) (by simp; omega) (w5.heap.size + 1) (by simp) ?_; intro g6 c6 w6 hown6 hgrow6 hat6 hlt6; have nA6 := (grown_at own5 hgrow6 nA5 (by decide)).trans nA5; have ce2 := (hfz.out _ nA6).1; have ff := (hfz.out _ nA6).2)
                      go_roundw
                      case rel =>
                        have hm := OpsAt.more (e := (o, a4, c4)) (mid := wr.heap.size) hO5 hbl5 hpk5 hws (by rw [hlen]; exact hown6) (by rw [hlen]; exact hgrow6)
                        have hlen2 : (es ++ [((o, a4, c4) : OE)]).length = j + 1 := by rw [List.length_append, hlen]; rfl
                        refine ⟨j + 1, es ++ [(o, a4, c4)], some ⟨g6, 0, none⟩, c6, by omega, by omega, hlen2, ?_, ?_, ?_, ?_, ?_⟩
                        · congr 1
                        · rw [hlen2]; exact heap_setCell_same _ ga 2 _ 24 _ nA6
                        · exact ops_setc hm nA6
                        · exact (((bw5.alloc bw5.size _).grown hgrow6 (by simp; exact Nat.le_succ_of_le bw5.size) (fun q hq => (ownG_cells own5 hq).1)).setCell (p := ⟨ga, 2, none⟩) hgal _)
                        · show _ = _
                          rw [HP2.out, List.map_append]; rfl
                      case measure => simp [intOf]; omega
                · have hjN : j + 2 = N := by omega
                  have hdr : L.drop (j + 2) = [] := List.drop_eq_nil_of_le (by rw [hLN.out]; omega)
                  have HP1 := HP.out
                  rw [hdr, opsR] at HP1
                  have hpr5 : Hid (parseR t = ⟨0, r1, q1, es.map (·.1)⟩) := by show _ = _; rw [hpr4.out, HP1]; rfl
                  have y2 : ¬ (((j + 2 : Nat) : Int) < (N : Int)) := by omega
                  have cb0 := Lib.cell_of_heap nB 0
                  have cb1 := Lib.cell_of_heap nB 1
                  have cb2 := Lib.cell_of_heap nB 2
                  have fb : ∀ j, wr.frozen? ⟨g2, j, none⟩ = false := fun j => by rw [World.frozen?, nB]; rfl
                  clear HP HP1 hdr hpr4
                  go_wp2_with fail
                  refine retSc rfl rfl rfl rfl (set3_heap nB _ _ _) ?_
                  rw [← hRo.out, hpr5.out]
                  refine ⟨es, a, c, rfl, by rw [hlen], (ops_set3 (hO.mono bw3.size) nB _ _ _), set3_below bwr hg2l _ _ _⟩
            · have m1 : ¬ (q1 < 0) := by omega
              have m2 : q1 > 1048576 := by omega
              have hpr4 : Hid (parseR t = badS 3) := by show _ = _; rw [hpr3.out, he2, decide_eq_false k1]; simp
              have cb0 := Lib.cell_of_heap n3 0
              have cb1 := Lib.cell_of_heap n3 1
              have cb2 := Lib.cell_of_heap n3 2
              have fb : ∀ j, w3.frozen? ⟨g2, j, none⟩ = false := fun j => by rw [World.frozen?, n3]; rfl
              clear hpr3 he2 k1 k0
              go_wp2_with fail
              refine retSc rfl rfl rfl rfl (set3_heap n3 _ _ _) ?_
              rw [← hRo.out, hpr4.out]
              exact ⟨[], none, 0, rfl, rfl, ops_nil _ _, set3_below bw3 hg2l _ _ _⟩
          · have m1 : q1 < 0 := by omega
            have hpr4 : Hid (parseR t = badS 3) := by show _ = _; rw [hpr3.out, he2, decide_eq_false k0]; simp
            have cb0 := Lib.cell_of_heap n3 0
            have cb1 := Lib.cell_of_heap n3 1
            have cb2 := Lib.cell_of_heap n3 2
            have fb : ∀ j, w3.frozen? ⟨g2, j, none⟩ = false := fun j => by rw [World.frozen?, n3]; rfl
            clear hpr3 he2 k0
            go_wp2_with fail
            refine retSc rfl rfl rfl rfl (set3_heap n3 _ _ _) ?_
            rw [← hRo.out, hpr4.out]
            exact ⟨[], none, 0, rfl, rfl, ops_nil _ _, set3_below bw3 hg2l _ _ _⟩
end Go.Proofs.YthklibioolnggaaGreatDoor
