import Derived.Test.YtmfhfehemoeeeaaGreatDoorZsae
import Derived.Test.YtmfhfehemoeeeaaGreatDoorZsag
set_option maxRecDepth 100000
set_option maxHeartbeats 1000000
namespace Go.Proofs.YtmfhfehemoeeeaaGreatDoor
open Go.RowKit Go.Proofs.Sha

theorem row_others {w w1 w4 w5 : World} {lb r base : Nat} {vA : Value} {o : Obj} {x : Nat} {v : Value} (h1 : w.grownBy w1 (some r)) (h4 : (w1.alloc o).grownBy w4 vA.ownBlock) (h5 : w5 = w4.setCell ⟨lb, x, none⟩ v) (hl : lb < base) (hr : r < base) :
    ∀ g, base ≤ g → g < w.heap.size → vA.ownBlock ≠ some g → w5.heap[g]? = w.heap[g]? := fun g hb hg hne => by
  have e1 := h1.block g hg (fun e => by have := Option.some.inj e; omega)
  have hg1 := Nat.lt_of_lt_of_le hg h1.size
  have e2 := Below.heap_alloc w1 o g hg1
  have e4 := h4.block g (by simp; omega) (fun e => hne e.symm)
  have e5 := (grownBy_setCell w4 lb x v).block g (by have := h4.size; simp at this; omega) (fun e => by have := Option.some.inj e; omega)
  rw [h5, e5, e4, e2, e1]
theorem putAside_any {K : World → Prop} (HH : Hid (HashSaid K)) (keep : Hid (∀ w1 w2, K w1 → Below w1.heap.size w1 w2 → K w2)) (lb r base wd : Nat) (st : SS) (aN : Option Addr) (cN : Nat) (aR : Option Addr) (cR : Nat) (aA : Option Addr) (cA : Nat) (enc : ByteArray) (w : World) (h : LogAt lb r base wd st aN cN aR cR aA cA w) (hK : K w) (hs : enc.size ≤ 1048576) (h1 : wd ≤ 32) (hlen : st.nodes.length + st.aside.length ≤ 100000) (x : Nat) :
    Calls Tryz.prog 35 #[.pointer (some ⟨lb, 0, none⟩), .string enc] w fun e w' => ∃ aA' cA', e = .returned (.tuple #[]) ∧ LogAt lb r base wd ⟨st.nodes, st.aside ++ [enc], st.roots, st.fin, x⟩ aN cN aR cR aA' cA' w' ∧ Turn lb r base w w' := by
  obtain ⟨F, hF⟩ : ∃ F, placesF wd (st.nodes ++ st.aside) (st.nodes ++ st.aside).length = F := ⟨_, rfl⟩
  have HF : Hid (placesF wd (st.nodes ++ (st.aside ++ [enc])) (st.nodes ++ (st.aside ++ [enc])).length = addF F (cutW wd (sha (78 :: enc.data.toList))) ((st.nodes.length : Int) + (st.aside.length : Int))) := by
    show _ = _
    rw [← List.append_assoc, placesF_snoc, hF, List.length_append, Int.natCast_add]
  obtain ⟨i0, hi0, hz0, hz1, hz2⟩ := info_parts info9
  have hM := h.map
  rw [hF] at hM
  have HAdd : Hid (∀ w', Below w.heap.size w w' → Calls Tryz.prog 61 #[.agg #[.int .i64 (wd : Int), .map (some r)], .string enc, .int .i64 ((st.nodes.length : Int) + (st.aside.length : Int))] w' fun e w'' => e = .returned (.tuple #[]) ∧ MapF (addF F (cutW wd (sha (78 :: enc.data.toList))) ((st.nodes.length : Int) + (st.aside.length : Int))) r w'' ∧ w'.grownBy w'' (some r)) := fun w' hb => add_any HH wd r F enc _ w' (hM.below hb) (keep.out _ _ hK hb) keep hs h1
  have hblk := h.blk
  have hlb := h.hl
  have hrb := h.hr
  have hne := h.hne
  have hbs := h.hb
  have oA := h.oA
  obtain ⟨n, hn⟩ : ∃ n, st.nodes.length = n := ⟨_, rfl⟩
  obtain ⟨m, hm⟩ : ∃ m, st.aside.length = m := ⟨_, rfl⟩
  have HX : Hid (∀ w5 g4 c4, w5.heap[lb]? = some (.cells #[.slice aN n cN, .slice aR st.roots.length cR, .int .i64 (st.fin : Int), .slice (some ⟨g4, 0, none⟩) (m + 1) c4, .int .i64 (wd : Int), .map (some r)] 76) →
      w5.ownsRow base 9 1 (.slice (some ⟨g4, 0, none⟩) (m + 1) c4) (m + 1) (st.aside.map Value.string ++ [.string enc]) → (∀ g, base ≤ g → g < w.heap.size → (Value.slice aA m cA).ownBlock ≠ some g → w5.heap[g]? = w.heap[g]?) → ((Value.slice aA m cA).ownBlock = some g4 ∨ w.heap.size ≤ g4) → MapF (addF F (cutW wd (sha (78 :: enc.data.toList))) ((n : Int) + (m : Int))) r w5 → base ≤ w5.heap.size →
      LogAt lb r base wd ⟨st.nodes, st.aside ++ [enc], st.roots, st.fin, x⟩ aN cN aR cR (some ⟨g4, 0, none⟩) c4 w5) := by
    intro w5 g4 c4 q1 q2 q3 q4 q5 q6
    have hl : (st.aside ++ [enc]).length = m + 1 := by rw [List.length_append, hm]; rfl
    have hno : ∀ {v : Value} {k : Nat} {xs : List Value}, w.ownsRow base 9 1 v k xs → (∀ g, v.ownBlock = some g → (Value.slice aA m cA).ownBlock ≠ some g) → w5.ownsRow base 9 1 v k xs ∧ ∀ g, v.ownBlock = some g → g ≠ g4 := fun ho hd => by
      refine ⟨own_kept ho (fun g hv hg => q3 g (own_cells ho hv).1 hg (hd g hv)), fun g hv e => ?_⟩
      subst e
      rcases q4 with q4 | q4
      · exact hd g hv q4
      · have := (own_cells ho hv).2.1; omega
    have hdNA := h.dNA
    have hdRA := h.dRA
    rw [hm] at hdNA hdRA
    have gN := hno h.oN hdNA
    have gR := hno h.oR hdRA
    refine ⟨?_, gN.1, gR.1, ?_, h.dNR, ?_, ?_, fun e => by simp at e, ?_, hlb, hrb, hne, q6⟩
    · show w5.heap[lb]? = some (.cells #[.slice aN st.nodes.length cN, .slice aR st.roots.length cR, .int .i64 (st.fin : Int), .slice (some ⟨g4, 0, none⟩) (st.aside ++ [enc]).length c4, .int .i64 (wd : Int), .map (some r)] 76)
      rw [hl, hn]; exact q1
    · show w5.ownsRow base 9 1 (.slice (some ⟨g4, 0, none⟩) (st.aside ++ [enc]).length c4) (st.aside ++ [enc]).length ((st.aside ++ [enc]).map Value.string)
      rw [hl, List.map_append]; exact q2
    · intro g hv e
      exact gN.2 g hv (Option.some.inj e).symm
    · intro g hv e
      exact gR.2 g hv (Option.some.inj e).symm
    · show MapF (placesF wd (st.nodes ++ (st.aside ++ [enc])) (st.nodes ++ (st.aside ++ [enc])).length) r w5
      rw [HF.out, hn, hm]; exact q5
  rw [hn, hm] at HAdd
  rw [hn, hm] at hblk
  rw [hm] at oA
  rw [hn, hm] at hlen
  obtain ⟨p, hp⟩ : ∃ p : Int, (n : Int) + (m : Int) = p := ⟨_, rfl⟩
  have hq : -9223372036854775808 ≤ p ∧ p ≤ 9223372036854775807 := by omega
  have y1 : wrap64 ((n : Int) + (m : Int)) = p := by rw [hp]; exact wr_in _ hq
  have y2 : IntKind.i64.wrap ((n : Int) + (m : Int)) = p := by rw [hp]; exact wrapI_in p hq
  clear hq
  rw [hp] at HX HAdd
  replace hp : Hid _ := hp
  generalize addF F (cutW wd (sha (78 :: enc.data.toList))) p = G at HX HAdd
  clear HF hM hF HH keep hK hs h1
  have HC : Hid (∀ W : World, W.heap[lb]? = w.heap[lb]? → W.cell? ⟨lb, 0, none⟩ = some (.slice aN n cN) ∧ W.cell? ⟨lb, 3, none⟩ = some (.slice aA m cA) ∧ W.cell? ⟨lb, 4, none⟩ = some (.int .i64 (wd : Int)) ∧ W.cell? ⟨lb, 5, none⟩ = some (.map (some r))) := fun W hW => by
    have hb := hW.trans hblk
    exact ⟨Lib.cell_of_heap hb 0, Lib.cell_of_heap hb 3, Lib.cell_of_heap hb 4, Lib.cell_of_heap hb 5⟩
  have hlt : lb < w.heap.size := by omega
  replace oA : Hid _ := oA
  replace hblk : Hid _ := hblk
  replace hi0 : Hid _ := hi0
  replace hz0 : Hid _ := hz0
  replace hz1 : Hid _ := hz1
  replace hz2 : Hid _ := hz2
  clear h hn hm
  go_enter Tryz.func35, Tryz.ntmps35
  go_wp2_with fail
  go_region_held3 (fun W => W.cell? ⟨lb, 0, none⟩ = some (.slice aN n cN) ∧ W.cell? ⟨lb, 3, none⟩ = some (.slice aA m cA) ∧ W.cell? ⟨lb, 4, none⟩ = some (.int .i64 (wd : Int)) ∧ W.cell? ⟨lb, 5, none⟩ = some (.map (some r))) (first | exact HC.out _ rfl | exact HC.out _ hlb1) (first | (go_at_call 61; refine (HAdd.out _ (Below.refl w.heap.size w).drew).mono ?_; rintro e w1 ⟨rfl, hM1, hg1'⟩; have hg1 : w.grownBy w1 (some r) := grownBy_trans (grownBy_of_below (Below.refl w.heap.size w).drew _) hg1'; have hlb1 : w1.heap[lb]? = w.heap[lb]? := hg1.block lb hlt (fun e => hne (Option.some.inj e)); clear hg1'))
  have hb1 : w1.heap[lb]? = some (.cells #[.slice aN n cN, .slice aR st.roots.length cR, .int .i64 (st.fin : Int), .slice aA m cA, .int .i64 (wd : Int), .map (some r)] 76) := hlb1.trans hblk.out
  have oA1 : w1.ownsRow base 9 1 (.slice aA m cA) m (st.aside.map Value.string) := own_kept oA.out (fun g hv hg => hg1.block g hg (fun e => by have := Option.some.inj e; have := (own_cells oA.out hv).1; omega))
  have hs1 := hg1.size
  have c3 := Lib.cell_of_heap hb1 3
  have hbA : Below w1.heap.size w1 (w1.alloc (.cells #[.string enc] 9)) := (Below.refl _ _).alloc (Nat.le_refl _) _
  clear HAdd HC
  go_wp2_with (first | (refine wpList_append_lies _ rfl (.tmp 26) (.tmp 28) 27 rfl base 9 i0 (.string ⟨#[]⟩) 1 16 Tryz.underlying27 hi0.out hz0.out hz1.out hz2.out rfl (by decide) _ m (st.aside.map Value.string) rfl (oA1.alloc _) ⟨w1.heap.size, 0, none⟩ 1 1 [.string enc] rfl rfl (World.news_of_block (heap_alloc_new w1 _)) (by simp [Value.oneCell']) (by decide) (by unfold maxLen; omega) (by omega) (by simp; omega) (w1.heap.size + 1) (by simp) ?_; intro g4 c4 w4 hown4 hgrow4 hat4 hlt4; have hb4 : w4.heap[lb]? = some (.cells #[.slice aN n cN, .slice aR st.roots.length cR, .int .i64 (st.fin : Int), .slice aA m cA, .int .i64 (wd : Int), .map (some r)] 76) := (hgrow4.block lb (by simp; omega) (fun e => by have := (own_cells oA1 e.symm).1; omega)).trans ((hbA.block lb (by omega)).trans hb1); have k3 := Lib.cell_of_heap hb4 3; have f3 : w4.frozen? ⟨lb, 3, none⟩ = false := by rw [World.frozen?, hb4]; rfl))
  go_end0
  obtain ⟨w5, hw5⟩ : ∃ w5, w5 = w4.setCell ⟨lb, 3, none⟩ (.slice (some ⟨g4, 0, none⟩) (m + 1) c4) := ⟨_, rfl⟩
  have hoth := row_others (vA := .slice aA m cA) hg1 hgrow4 hw5 hlb hrb
  have hs4 := hgrow4.size
  simp at hs4
  have hg5 := grownBy_setCell w4 lb 3 (.slice (some ⟨g4, 0, none⟩) (m + 1) c4)
  have hs5 := hg5.size
  have hg4b : base ≤ g4 := (own_cells hown4 rfl).1
  have t1 : Turn lb r base w w1 := Turn.of_grown hg1 hbs (fun g e => .inr (.inl (Option.some.inj e).symm)) (fun g o e hh _ => by exfalso; have := Option.some.inj e; omega)
  have t2 : Turn lb r base w1 (w1.alloc (.cells #[.string enc] 9)) := Turn.of_below hbA (by omega)
  have t4 : Turn lb r base (w1.alloc (.cells #[.string enc] 9)) w4 := Turn.of_grown hgrow4 (by simp; omega) (fun g e => .inr (.inr (own_cells oA1 e).1)) (fun g o e _ ho => by
    obtain ⟨_, hl1, cur, hc⟩ := own_cells oA1 e
    rw [hbA.block g hl1, hc] at ho
    cases ho; exact ⟨_, rfl⟩)
  have t5 := Turn.setCell (r := r) w4 3 (.slice (some ⟨g4, 0, none⟩) (m + 1) c4) (by omega) hlb
  rw [← hw5] at hg5 t5 hs5
  refine ⟨some ⟨g4, 0, none⟩, c4, rfl, ?_, ?_⟩
  · rw [← hw5]
    refine HX.out w5 g4 c4 (by rw [hw5]; exact heap_setCell_same w4 lb 3 _ 76 _ hb4) (own_kept hown4 (fun g hv hg => by have e : g4 = g := Option.some.inj hv; exact hg5.block g hg (fun e' => by have := Option.some.inj e'; omega))) hoth ?_ ?_ (by omega)
    · rcases hat4 with q | q
      · exact .inl q
      · right; omega
    · have hMa := hM1.below hbA
      have hMb : MapF G r w4 := by
        obtain ⟨es, cl, hh, q1, q2⟩ := hMa.is
        exact ⟨es, cl, (hgrow4.block r (Array.getElem?_eq_some_iff.1 hh).1 (fun e => by have := (own_cells oA1 e.symm).1; omega)).trans hh, q1, q2⟩
      exact hMb.kept hg5 (fun e => hne e.symm)
  · rw [← hw5]
    exact ((t1.trans t2).trans t4).trans t5
theorem find_no (wd : Nat) (r : Nat) (hash : ByteArray) (w : World) (h2 : hash.size ≠ wd) :
    Calls Tryz.prog 62 #[.agg #[.int .i64 (wd : Int), .map (some r)], .string hash] w fun e w' => e = .returned (.tuple #[.int .i64 0, .bool false]) ∧ Below w.heap.size w w' := by
  have z1 : ((hash.size : Int) != (wd : Int)) = true := by rw [bne_iff_ne]; omega
  have hfin : Below w.heap.size w (w.alloc (.cells #[.int .i64 (wd : Int), .map (some r)] 73)) := (Below.refl _ _).alloc (Nat.le_refl _) _
  go_enter Tryz.func62, Tryz.ntmps62
  go_wp2_with fail
  go_ret2
  exact ⟨rfl, hfin⟩
/-- What find answers, whatever the size. -/
theorem find_all (wd : Nat) (r : Nat) (F : List UInt8 → Option Int) (hash : ByteArray) (w : World) (h : MapF F r w) (h1 : wd ≤ 32) :
    Calls Tryz.prog 62 #[.agg #[.int .i64 (wd : Int), .map (some r)], .string hash] w fun e w' => ∃ i : Int, e = .returned (.tuple #[.int .i64 i, .bool (decide (hash.size = wd) && (F (cutW wd hash.data.toList)).isSome)]) ∧ Below w.heap.size w w' := by
  by_cases h2 : hash.size = wd
  · refine (find_any wd r F hash w h h1 h2).mono ?_
    rintro e w' ⟨rfl, hb⟩
    exact ⟨_, by rw [decide_eq_true h2, Bool.true_and], hb⟩
  · refine (find_no wd r hash w h2).mono ?_
    rintro e w' ⟨rfl, hb⟩
    exact ⟨_, by rw [decide_eq_false h2, Bool.false_and], hb⟩

theorem isGood_any (lb r base wd : Nat) (st : SS) (aN : Option Addr) (cN : Nat) (aR : Option Addr) (cR : Nat) (aA : Option Addr) (cA : Nat) (R : RecT) (w : World) (h : LogAt lb r base wd st aN cN aR cR aA cA w) (h1 : wd ≤ 32) (hlen : st.roots.length ≤ 100000) :
    Calls Tryz.prog 36 #[.pointer (some ⟨lb, 0, none⟩), recV R.k R.enc R.v R.root (R.nx : Int)] w fun e w' => e = .returned (.bool (goodC wd st R)) ∧ Below w.heap.size w w' := by
  rw [goodC_eq wd st R h1 _ rfl]
  have hblk := h.blk
  have hlt : lb < w.heap.size := Nat.lt_of_lt_of_le h.hl h.hb
  have hM := h.map
  generalize placesF wd (st.nodes ++ st.aside) (st.nodes ++ st.aside).length = F at hM ⊢
  obtain ⟨k, hk⟩ : ∃ k, st.roots.length = k := ⟨_, rfl⟩
  rw [hk] at hblk hlen
  rw [hk]
  clear h hk
  obtain ⟨rk, re, rv, rr, rn⟩ := R
  simp only
  obtain ⟨q, hq⟩ : ∃ q : Int, (k : Int) + 1 = q := ⟨_, rfl⟩
  have hq' : -9223372036854775808 ≤ q ∧ q ≤ 9223372036854775807 := by omega
  have y1 : wrap64 ((k : Int) + 1) = q := by rw [hq]; exact wr_in _ hq'
  have y2 : IntKind.i64.wrap ((k : Int) + 1) = q := by rw [hq]; exact wrapI_in q hq'
  rw [hq]
  clear hq' hq
  have hbA : Below w.heap.size w (w.alloc (.cells #[.int .i64 rk, .string re, .int .i64 rv, .string rr, .int .i64 (rn : Int)] 66)) := (Below.refl _ _).alloc (Nat.le_refl _) _
  have nA := heap_alloc_new w (.cells #[.int .i64 rk, .string re, .int .i64 rv, .string rr, .int .i64 (rn : Int)] 66)
  have hbl := (hbA.block lb hlt).trans hblk
  have HFd : Hid (∀ w', Below w.heap.size w w' → Calls Tryz.prog 62 #[.agg #[.int .i64 (wd : Int), .map (some r)], .string rr] w' fun e w'' => ∃ i : Int, e = .returned (.tuple #[.int .i64 i, .bool (decide (rr.size = wd) && (F (cutW wd rr.data.toList)).isSome)]) ∧ Below w'.heap.size w' w'') := fun w' hb => find_all wd r F rr w' (hM.below hb) h1
  generalize (decide (rr.size = wd) && (F (cutW wd rr.data.toList)).isSome) = fd at HFd ⊢
  obtain ⟨ga, hga⟩ : ∃ ga, w.heap.size = ga := ⟨_, rfl⟩
  rw [hga] at nA
  clear hM hblk
  obtain ⟨b, hb⟩ : ∃ b, (decide (rv = q) && (decide (rr.size = 0) || fd)) = b := ⟨_, rfl⟩
  rw [hb]
  replace hb : Hid _ := hb
  go_enter Tryz.func36, Tryz.ntmps36
  go_upto_region 1 with fail
  try rw [hga]
  generalize hw1 : w.alloc (.cells #[.int .i64 rk, .string re, .int .i64 rv, .string rr, .int .i64 (rn : Int)] 66) = w1 at hbA nA hbl ⊢
  have c1 := Lib.cell_of_heap hbl 1
  have n2 := Lib.cell_of_heap nA 2
  have n3 := Lib.cell_of_heap nA 3
  clear hw1
  by_cases hv : rv = q
  · have z1 : (rv != q) = false := by rw [hv]; simp
    replace hv : Hid _ := hv
    go_region
    by_cases hr : rr.size = 0
    · have z2 : (rr.toList == []) = true := by rw [beq_iff_eq]; exact List.eq_nil_of_length_eq_zero (by rw [ByteArray.toList_eq]; exact hr)
      replace hr : Hid _ := hr
      go_wp2_with fail
      go_ret
      exact ⟨by rw [← hb.out, decide_eq_true hv.out, decide_eq_true hr.out]; rfl, hbA.drew⟩
    · have z2 : (rr.toList == []) = false := by rw [beq_eq_false_iff_ne]; intro e; exact hr (by have := congrArg List.length e; rw [ByteArray.toList_eq] at this; exact this)
      replace hr : Hid _ := hr
      go_wp2_with fail
      have HC : Hid (∀ W : World, Below w1.heap.size w1 W → W.cell? ⟨lb, 4, none⟩ = some (.int .i64 (wd : Int)) ∧ W.cell? ⟨lb, 5, none⟩ = some (.map (some r)) ∧ W.cell? ⟨ga, 3, none⟩ = some (.string rr)) := fun W hW => by
        have e1 := (hW.block lb (Array.getElem?_eq_some_iff.1 hbl).1).trans hbl
        have e2 := (hW.block ga (Array.getElem?_eq_some_iff.1 nA).1).trans nA
        exact ⟨Lib.cell_of_heap e1 4, Lib.cell_of_heap e1 5, Lib.cell_of_heap e2 3⟩
      have hD1 : Below w1.heap.size w1 w1.drew := (Below.refl _ _).drew
      have hD2 : Below w.heap.size w w1.drew.drew := hbA.drew.drew
      go_region_held3 (fun W => W.cell? ⟨lb, 4, none⟩ = some (.int .i64 (wd : Int)) ∧ W.cell? ⟨lb, 5, none⟩ = some (.map (some r)) ∧ W.cell? ⟨ga, 3, none⟩ = some (.string rr)) (first | exact HC.out _ hD1 | exact HC.out _ (Below.refl _ _) | exact HC.out _ hD1.drew | exact HC.out _ hx5) (first | (go_at_call 62; refine (HFd.out _ (by first | exact hbA.drew | exact hD2)).mono ?_; rintro e w5 ⟨i5, rfl, hb5⟩; have hx5 : Below w1.heap.size w1 w5 := hD1.drew.trans hb5; clear hb5))
      go_wp2_with fail
      go_ret
      exact ⟨by rw [← hb.out, decide_eq_true hv.out, decide_eq_false hr.out]; rfl, hbA.trans (hx5.mono hbA.size)⟩
  · have z1 : (rv != q) = true := by rw [bne_iff_ne]; exact hv
    replace hv : Hid _ := hv
    go_region
    go_wp2_with fail
    go_ret
    exact ⟨by rw [← hb.out, decide_eq_false hv.out]; rfl, hbA.drew⟩
end Go.Proofs.YtmfhfehemoeeeaaGreatDoor
