import Derived.Test.YtmfhfehemoeeeaaGreatDoorZsbk
import Derived.Test.YtmfhfehemoeeeaaGreatDoorZsbf
import Derived.Test.YtmfhfehemoeeeaaGreatDoorZsam
import Derived.Deep.RegionLaw
import Derived.Test.YtmfhfehemoeeeaaGreatDoorZsbl
set_option maxRecDepth 100000
set_option maxHeartbeats 1000000
namespace Go.Proofs.YtmfhfehemoeeeaaGreatDoor
open Go.RowKit Go.Proofs.Sha

theorem app_zero (n c : Nat) (a a2 : Option Addr) (c2 : Nat) (hnc : n ≤ c) (w : World) (ty : TypeId) : (Builtin.append_ #[27, 27] ty #[.slice a n c, .slice a2 0 c2]).run Tryz.prog w = .ok (.slice a n c) w := by
  obtain ⟨i0, hi0, hz0, hz1, hz2⟩ := info_parts info9
  cases a with
  | none => cases a2 <;> simp [Builtin.append_, run_underlying Tryz.underlying27, sizeOf, typeInfo, hi0, Builtin.lenOf, Builtin.firstCells, hnc, loadCells, loadCellsFrom]
  | some b => cases a2 <;> simp [Builtin.append_, run_underlying Tryz.underlying27, sizeOf, typeInfo, hi0, Builtin.lenOf, Builtin.firstCells, hnc, storeCells, loadCells, loadCellsFrom]
theorem ownG_le {w : World} {base n t z m c : Nat} {a : Option Addr} {xs : List Value} (h : w.ownsRow base t z (.slice a m c) n xs) : m ≤ c := by
  rcases h.2 with ⟨e, h0⟩ | ⟨g, cap, cur, e, hb, hg, q1, q2, q3, q4⟩
  · simp only [Value.slice.injEq] at e; omega
  · simp only [Value.slice.injEq] at e
    omega
theorem OwnT.set {w W : World} {xs : List ByteArray} {a : Option Addr} {m c g o : Nat} {cs : Array Value} (h : OwnT w xs a m c W) (hg : W.heap[g]? = some (.cells cs 29)) (hge : w.heap.size ≤ g) (u : Value) : OwnT w xs a m c (W.setCell ⟨g, o, none⟩ u) :=
  ⟨ownG_kept h.own (fun q hv _ => Below.heap_setCell _ _ _ _ (by show q ≠ g; intro e; subst e; obtain ⟨_, _, cur, h9⟩ := ownG_cells h.own hv; rw [hg] at h9; simp at h9)), h.bel.setCell (p := ⟨g, o, none⟩) hge _, h.len⟩
/-- Nothing is appended. -/
theorem wpList_append_zero {P : Program} {ops : Array Oper} {rest : List Oper} {o : Oper} {a : Act} {w : World} {Q : Exit → Act → World → Prop} (hg : o.guard = none) (s x : Operand) (t : TypeId)
    (hop : o.op = Op.call { callee := Callee.builtin Builtin.append, args := #[s, x], argTypes := #[t, t] }) (v u : Value) (hs : a.eval s = v) (hx : a.eval x = u)
    (hrun : ∀ ty, (Builtin.append_ #[t, t] ty #[v, u]).run P w = .ok v w) (h : wpList P ops Q rest (a.put o.dst v) w) : wpList P ops Q (o :: rest) a w :=
  wpList_plain hg fun _ hK => by
    unfold Oper.wp
    simp [execOp, hop, resolve, invoke, builtin, hs, hx, hrun, Result.andThen]
    exact hK _ _ h
theorem poolOf_any (so ro bo wd : Nat) (ss : List ByteArray) (ao : Option Addr) (co : Nat) (ad : List ByteArray) (a2 : Option Addr) (c2 : Nat) (w : World) (hO : StockAt so ro bo wd ss ao co w) (hs1 : ss.length ≤ 20000) (hs2 : ∀ j, (ss.getD j ⟨#[]⟩).size ≤ 1048576) (h2 : SArg a2 ad w) (hl2 : ad.length ≤ 20000) :
    Calls Tryz.prog 50 #[.pointer (some ⟨so, 0, none⟩), .slice a2 ad.length c2] w fun e w' => ∃ a' c', e = .returned (.agg #[.int .i64 (wd : Int), .slice a' (ss ++ ad).length c']) ∧ OwnT w (ss ++ ad) a' (ss ++ ad).length c' w' := by
  obtain ⟨i0, hi0, hz0, hz1, hz2⟩ := info_parts2 info9
  have hsa := own_sarg hO.own (by omega) hs2
  have hblk := hO.blk
  obtain ⟨N, hN⟩ : ∃ N, ss.length = N := ⟨_, rfl⟩
  obtain ⟨M, hM⟩ : ∃ M, ad.length = M := ⟨_, rfl⟩
  rw [hN] at hblk hs1
  rw [hM] at hl2 ⊢
  have hNl : Hid (ss.length = N) := hN
  have hMl : Hid (ad.length = M) := hM
  have hL : Hid ((ss ++ ad).length = N + M) := by show _ = _; rw [List.length_append, hN, hM]
  rw [hL.out]
  clear hN hM
  have hA : Below w.heap.size w (w.alloc (.cells #[.int .i64 0, .slice none 0 0] 29)) := (Below.refl _ _).alloc (Nat.le_refl _) _
  have nA := heap_alloc_new w (.cells #[.int .i64 0, .slice none 0 0] 29)
  have hblkA := (hA.block so (Array.getElem?_eq_some_iff.1 hblk).1).trans hblk
  have c0 := Lib.cell_of_heap hblkA 0
  have c1 := Lib.cell_of_heap hblkA 1
  obtain ⟨gp, hgp⟩ : ∃ g, w.heap.size = g := ⟨_, rfl⟩
  have hgl : w.heap.size ≤ gp := Nat.le_of_eq hgp
  rw [hgp] at nA
  have hsz : (w.alloc (.cells #[.int .i64 0, .slice none 0 0] 29)).heap.size = gp + 1 := by rw [World.size_alloc, hgp]
  go_enter Tryz.func50, Tryz.ntmps50
  go_upto_region 1 with fail
  try rw [hgp]
  generalize w.alloc (.cells #[.int .i64 0, .slice none 0 0] 29) = W0 at hA nA hblkA c0 c1 hsz ⊢
  have q0 := Lib.cell_of_heap nA 0
  have q1 := Lib.cell_of_heap nA 1
  have fz : ∀ j, W0.frozen? ⟨gp, j, none⟩ = false := fun j => by rw [World.frozen?, nA]; rfl
  go_upto_region 2 with fail
  have hA1 : Below w.heap.size w (W0.alloc (.cells #[.int .i64 (wd : Int), .slice none 0 0] 29)) := hA.alloc (by omega) _
  have n1 := heap_alloc_new W0 (.cells #[.int .i64 (wd : Int), .slice none 0 0] 29)
  rw [hsz] at n1
  have hblk1 := (Below.heap_alloc W0 (.cells #[.int .i64 (wd : Int), .slice none 0 0] 29) so (Array.getElem?_eq_some_iff.1 hblkA).1).trans hblkA
  have n0 := (Below.heap_alloc W0 (.cells #[.int .i64 (wd : Int), .slice none 0 0] 29) gp (by omega)).trans nA
  clear hblkA c0 c1 q0 q1 fz nA hA hsz
  generalize W0.alloc (.cells #[.int .i64 (wd : Int), .slice none 0 0] 29) = W1 at hA1 n1 n0 hblk1 ⊢
  have c0 := Lib.cell_of_heap hblk1 0
  have hg1 : w.heap.size ≤ gp + 1 := by omega
  have hgn : gp ≠ gp + 1 := by omega
  generalize gp + 1 = g1 at n1 hg1 hgn ⊢
  go_wp2_with fail
  go_loopw [19] (fun t19 wr => ∃ k : Nat, k ≤ N ∧ t19 = .int .i64 (k : Int) ∧ ∃ (a' : Option Addr) (c' : Nat), OwnT w (ss.take k) a' k c' wr ∧ wr.heap[g1]? = some (.cells #[.int .i64 (wd : Int), .slice a' k c'] 29) ∧ wr.heap[gp]? = some (.cells #[.int .i64 0, .slice none 0 0] 29)) (fun t19 _ => N - (intOf t19).toNat)
  case atStart => exact ⟨0, Nat.zero_le _, rfl, none, 0, ⟨World.ownsRow_nil _ _ _ _, hA1, rfl⟩, n1, n0⟩
  case round =>
    obtain ⟨k, hk, rfl, a', c', hT, m1, m0⟩ := hrel
    have own := hT.own
    have hbs := hT.bel.size
    have p1 := Lib.cell_of_heap m1 1
    by_cases hlt : k < N
    · have z1 : decide ((k : Int) < (N : Int)) = true := by simp; omega
      have hx0 : (0 : Int) ≤ (k : Int) := Int.natCast_nonneg _
      have hx1 : (k : Int) < (N : Int) := by omega
      obtain ⟨b1, off1, rfl, hbl1, hc⟩ := (hsa.below hT.bel).at_ (by rw [hNl.out]; omega)
      have hc1 := hc k (by rw [hNl.out]; exact hlt)
      have htk : Hid (ss.take (k + 1) = ss.take k ++ [ss.getD k ⟨#[]⟩]) := takeT ss k (by rw [hNl.out]; exact hlt)
      have hys := hs2 k
      generalize ss.getD k ⟨#[]⟩ = y at hc1 htk hys
      have HC : Hid (∀ w', Calls Tryz.prog 74 #[.string y] w' fun e w'' => e = .returned (.string y) ∧ Below w'.heap.size w' w'') := fun w' => clone_any y w' (by omega)
      clear hc
      go_upto_region 5 with fail
      have hbd : Below wr.heap.size wr wr.drew := (Below.refl _ _).drew
      have hTd : OwnT w (ss.take k) a' k c' wr.drew := hT.below hbd
      have m1d : wr.drew.heap[g1]? = some (.cells #[.int .i64 (wd : Int), .slice a' k c'] 29) := m1
      have cd : wr.drew.cell? ⟨g1, 1, none⟩ = some (.slice a' k c') := Lib.cell_of_heap m1d 1
      clear hT own p1
      go_region_law (first
        | (refine step_append_lies _ (by rfl) (.tmp 24) (.tmp 27) 27 (by rfl) w.heap.size 9 i0 (.string ⟨#[]⟩) 1 16 Tryz.underlying27 hi0 hz0 hz1 hz2 (by rfl) (by decide) (.slice a' k c') k ((ss.take k).map Value.string) (by rfl) (own3.alloc _) ⟨w3.heap.size, 0, none⟩ 1 1 [.string y] (by rfl) (by rfl) (World.news_of_block (heap_alloc_new w3 _)) (by simp [Value.oneCell']) (by decide) (by unfold maxLen; omega) (by omega) (by simp; omega) (w3.heap.size + 1) (by simp) ?_; intro g4 c4 w4 hown4 hgrow4 hat4 hlt4; have hlb4 := (hgrow4.block g1 (by simp; omega) (fun e => by obtain ⟨_, _, cur, h9⟩ := ownG_cells own3 e.symm; rw [m3] at h9; simp at h9)).trans ((Below.heap_alloc w3 _ g1 hclt).trans m3); have k1 := Lib.cell_of_heap hlb4 1; have f1 : w4.frozen? ⟨g1, 1, none⟩ = false := by rw [World.frozen?, hlb4]; rfl)
        | (go_simp; go_at_call 74; refine (HC.out _).mono ?_; rintro e w3 ⟨rfl, hb3⟩; have hT3 := hTd.below hb3; have own3 := hT3.own; have hbs3 := hT3.bel.size; have hclt : g1 < w3.heap.size := Nat.lt_of_lt_of_le (Array.getElem?_eq_some_iff.1 m1d).1 hb3.size; have m3 := (hb3.block g1 (Array.getElem?_eq_some_iff.1 m1d).1).trans m1d; have cd3 := Lib.cell_of_heap m3 1; have cd4 : ∀ o, (w3.alloc o).cell? ⟨g1, 1, none⟩ = some (.slice a' k c') := fun o => (World.cell?_alloc_lt _ _ _ (by show g1 < _; exact hclt)).trans cd3))
      all_goals
        have hT4 : OwnT w (ss.take (k + 1)) (some ⟨g4, 0, none⟩) (k + 1) c4 w4 := by rw [htk.out]; exact hT3.more hown4 hgrow4 rfl
        have hT5 : OwnT w (ss.take (k + 1)) (some ⟨g4, 0, none⟩) (k + 1) c4 (w4.setCell ⟨g1, 1, none⟩ (.slice (some ⟨g4, 0, none⟩) (k + 1) c4)) := by
          refine ⟨ownG_kept hT4.own (fun q hv hq => Below.heap_setCell _ _ _ _ (by show q ≠ g1; intro e; subst e; obtain ⟨_, _, cur, h9⟩ := ownG_cells hT4.own hv; rw [hlb4] at h9; simp at h9)), hT4.bel.setCell (p := ⟨g1, 1, none⟩) hg1 _, hT4.len⟩
        have m5 := heap_setCell_same w4 g1 1 _ 29 (.slice (some ⟨g4, 0, none⟩) (k + 1) c4) hlb4
        have m0d : wr.drew.heap[gp]? = some (.cells #[.int .i64 0, .slice none 0 0] 29) := m0
        have m03 := (hb3.block gp (Array.getElem?_eq_some_iff.1 m0d).1).trans m0d
        have m04 := (hgrow4.block gp (by simp; exact Nat.lt_succ_of_lt (Array.getElem?_eq_some_iff.1 m03).1) (fun e => by obtain ⟨_, _, cur, h9⟩ := ownG_cells own3 e.symm; rw [m03] at h9; simp at h9)).trans ((Below.heap_alloc w3 _ gp (Array.getElem?_eq_some_iff.1 m03).1).trans m03)
        have m05 : (w4.setCell ⟨g1, 1, none⟩ (.slice (some ⟨g4, 0, none⟩) (k + 1) c4)).heap[gp]? = some (.cells #[.int .i64 0, .slice none 0 0] 29) := (Below.heap_setCell _ _ _ _ (by show gp ≠ g1; exact hgn)).trans m04
        go_wp2_with fail
        go_roundw
        case rel => exact ⟨k + 1, hlt, by go_num, _, _, hT5, m5, m05⟩
        case measure => simp [intOf]; omega
    · obtain rfl : k = N := by omega
      have z1 : decide ((k : Int) < (k : Int)) = false := by simp
      rw [List.take_of_length_le (by rw [hNl.out]; exact Nat.le_refl _)] at hT
      have hl := hT.len
      have hown' : wr.ownsRow w.heap.size 9 1 (.slice a' k c') k (ss.map Value.string) := hT.own
      clear own
      have own := hown'
      clear hown'
      rcases Nat.eq_zero_or_pos M with rfl | hMp
      · have had : Hid (ss ++ ad = ss) := by
          show _ = _
          rw [List.length_eq_zero_iff.1 hMl.out, List.append_nil]
        have hz := app_zero k c' a' a2 c2 (ownG_le own) wr
        have q0 := Lib.cell_of_heap m1 0
        have fz : wr.frozen? ⟨g1, 1, none⟩ = false := by rw [World.frozen?, m1]; rfl
        have m2 := heap_setCell_same wr g1 1 _ 29 (.slice a' k c') m1
        have hT2 : OwnT w (ss ++ ad) a' k c' (wr.setCell ⟨g1, 1, none⟩ (.slice a' k c')) := by
          rw [had.out]
          refine ⟨ownG_kept own (fun q hv hq => Below.heap_setCell _ _ _ _ (by show q ≠ g1; intro e; subst e; obtain ⟨_, _, cur, h9⟩ := ownG_cells own hv; rw [m1] at h9; simp at h9)), hT.bel.setCell (p := ⟨g1, 1, none⟩) hg1 _, hT.len⟩
        clear hT own
        go_upto_region 8 with (at_builtin; refine wpList_append_zero rfl (.tmp 32) (.tmp 33) 27 rfl (.slice a' k c') (.slice a2 0 c2) rfl rfl hz ?_)
        have m02 : (wr.setCell ⟨g1, 1, none⟩ (.slice a' k c')).heap[gp]? = some (.cells #[.int .i64 0, .slice none 0 0] 29) := (Below.heap_setCell _ _ _ _ (by show gp ≠ g1; exact hgn)).trans m0
        generalize wr.setCell ⟨g1, 1, none⟩ (.slice a' k c') = W5 at m2 hT2 m02 ⊢
        have r0 := Lib.cell_of_heap m2 0
        have r1 := Lib.cell_of_heap m2 1
        have s0 := Lib.cell_of_heap m02 0
        have s1 := Lib.cell_of_heap m02 1
        have fg : ∀ j, W5.frozen? ⟨gp, j, none⟩ = false := fun j => by rw [World.frozen?, m02]; rfl
        have m6 := heap_setCell_same _ gp 0 _ 29 (.int .i64 (wd : Int)) m02
        have m7 := heap_setCell_same _ gp 1 _ 29 (.slice a' k c') m6
        have hT7 := (hT2.set m02 hgl (o := 0) (.int .i64 (wd : Int))).set m6 hgl (o := 1) (.slice a' k c')
        clear hT2 m6
        go_wp2_with fail
        exact retP Tryz.results50 rfl rfl m7 ⟨a', c', rfl, hT7⟩

      · obtain ⟨b2, off2, rfl, hbl2, hc2⟩ := (h2.below hT.bel).at_ (by rw [hMl.out]; omega)
        have q0 := Lib.cell_of_heap m1 0
        have fz : wr.frozen? ⟨g1, 1, none⟩ = false := by rw [World.frozen?, m1]; rfl
        have hnews : ∀ j u, (ad.map Value.string)[j]? = some u → wr.cell? ((⟨b2, off2, none⟩ : Addr).add j) = some u := fun j u hu => by
          have hadd : (⟨b2, off2, none⟩ : Addr).add j = ⟨b2, off2 + j, none⟩ := by unfold Addr.add; split <;> simp_all
          rw [hadd]
          rw [List.getElem?_map, Option.map_eq_some_iff] at hu
          obtain ⟨y, hy, rfl⟩ := hu
          have hj := (List.getElem?_eq_some_iff.1 hy).1
          rw [hc2 j hj, List.getD_eq_getElem?_getD, hy]
          rfl
        have hone : ∀ u ∈ ad.map Value.string, u.oneCell' = true := fun u hu => by
          obtain ⟨y, _, rfl⟩ := List.mem_map.1 hu
          rfl
        have hnl : (ad.map Value.string).length = M * 1 := by rw [List.length_map, hMl.out, Nat.mul_one]
        go_upto_region 8 with (at_builtin; refine wpList_append_lies _ rfl (.tmp 32) (.tmp 33) 27 rfl w.heap.size 9 i0 (.string ⟨#[]⟩) 1 16 Tryz.underlying27 hi0 hz0 hz1 hz2 rfl (by decide) (.slice a' k c') k (ss.map Value.string) rfl own ⟨b2, off2, none⟩ M c2 (ad.map Value.string) rfl hnl hnews hone hMp (by unfold maxLen; omega) (by omega) hbs _ rfl ?_; intro g5 c5 w5 hown5 hgrow5 hat5 hlt5; have hlb5 := (hgrow5.block g1 (Array.getElem?_eq_some_iff.1 m1).1 (fun e => by obtain ⟨_, _, cur, h9⟩ := ownG_cells own e.symm; rw [m1] at h9; simp at h9)).trans m1; have k1 := Lib.cell_of_heap hlb5 1; have f1 : w5.frozen? ⟨g1, 1, none⟩ = false := by rw [World.frozen?, hlb5]; rfl)
        have m2 := heap_setCell_same w5 g1 1 _ 29 (.slice (some ⟨g5, 0, none⟩) (k + M) c5) hlb5
        have m05 := (hgrow5.block gp (Array.getElem?_eq_some_iff.1 m0).1 (fun e => by obtain ⟨_, _, cur, h9⟩ := ownG_cells own e.symm; rw [m0] at h9; simp at h9)).trans m0
        have m02 : (w5.setCell ⟨g1, 1, none⟩ (.slice (some ⟨g5, 0, none⟩) (k + M) c5)).heap[gp]? = some (.cells #[.int .i64 0, .slice none 0 0] 29) := (Below.heap_setCell _ _ _ _ (by show gp ≠ g1; exact hgn)).trans m05
        have hT1 : OwnT w (ss ++ ad) (some ⟨g5, 0, none⟩) (k + M) c5 w5 := by
          refine ⟨by rw [List.map_append]; exact hown5, hT.bel.grown hgrow5 hbs (fun q hq => (ownG_cells own hq).1), ?_⟩
          rw [List.length_append, hNl.out, hMl.out]
        have hT2 := hT1.set hlb5 hg1 (o := 1) (.slice (some ⟨g5, 0, none⟩) (k + M) c5)
        clear hT1 hT own
        generalize w5.setCell ⟨g1, 1, none⟩ (.slice (some ⟨g5, 0, none⟩) (k + M) c5) = W5 at m2 hT2 m02 ⊢
        have r0 := Lib.cell_of_heap m2 0
        have r1 := Lib.cell_of_heap m2 1
        have s0 := Lib.cell_of_heap m02 0
        have s1 := Lib.cell_of_heap m02 1
        have fg : ∀ j, W5.frozen? ⟨gp, j, none⟩ = false := fun j => by rw [World.frozen?, m02]; rfl
        have m6 := heap_setCell_same _ gp 0 _ 29 (.int .i64 (wd : Int)) m02
        have m7 := heap_setCell_same _ gp 1 _ 29 (.slice (some ⟨g5, 0, none⟩) (k + M) c5) m6
        have hT7 := (hT2.set m02 hgl (o := 0) (.int .i64 (wd : Int))).set m6 hgl (o := 1) (.slice (some ⟨g5, 0, none⟩) (k + M) c5)
        clear hT2 m6
        go_wp2_with fail
        exact retP Tryz.results50 rfl rfl m7 ⟨some ⟨g5, 0, none⟩, c5, rfl, hT7⟩

theorem TAL.base0 {n0 : Nat} {f : Tr PairT → ByteArray × ByteArray} {w : World} : ∀ {t : Tr PairT} {p : Option Addr} {bs : List Nat}, TAL n0 f t p bs w → TAL 0 f t p bs w
  | .nil, _, _, h => h
  | .node _ _ _, _, _, ⟨b, pl, pr, bl, br, h1, h5, _, h2, h3, h4⟩ => ⟨b, pl, pr, bl, br, h1, h5, Nat.zero_le _, h2, h3.base0, h4.base0⟩
theorem TAL.uniq {n0 n1 : Nat} {f g : Tr PairT → ByteArray × ByteArray} {w : World} : ∀ {t : Tr PairT} {p : Option Addr} {bs bs' : List Nat}, TAL n0 f t p bs w → TAL n1 g t p bs' w → bs = bs'
  | .nil, _, _, _, h, h' => h.2.trans h'.2.symm
  | .node _ _ _, _, _, _, ⟨b, pl, pr, bl, br, h1, h5, _, h2, h3, h4⟩, ⟨b', pl', pr', bl', br', h1', h5', _, h2', h3', h4'⟩ => by
    have e : b = b' := by
      have := h1.symm.trans h1'
      simpa using this
    subst e
    have e1 : pl = pl' := by
      have := h2.c35.symm.trans h2'.c35
      simpa using this
    have e2 : pr = pr' := by
      have := h2.c36.symm.trans h2'.c36
      simpa using this
    subst e1 e2
    rw [h5, h5', h3.uniq h3', h4.uniq h4']
theorem save_any (HH : Hid (HashSaid KTab)) (so ro bo wd : Nat) (ss : List ByteArray) (ao : Option Addr) (co : Nat) (t : Tr PairT) (p : Option Addr) (n0 : Nat) (w : World)
    (hOld : Hid (∀ W, Below n0 w W → StockAt so ro bo wd ss ao co W)) (hKT : Hid (∀ W, Below n0 w W → KTab W)) (hn0 : n0 ≤ w.heap.size) (ht : TA n0 bare t p w) (ha : Apart t.inord) (hsz : ∀ x ∈ t.inord, x.1.size ≤ 1048576 ∧ x.2.size ≤ 1048576)
    (hs1 : ss.length ≤ 20000) (hs2 : ∀ j, (ss.getD j ⟨#[]⟩).size ≤ 1048576) (hw1 : 1 ≤ wd) (hw2 : wd ≤ 32) :
    Calls Tryz.prog 49 #[.pointer (some ⟨so, 0, none⟩), .pointer p] w fun e w' => ∃ gs sa ra base bs, e = .returned (.pointer (some ⟨gs, 0, none⟩)) ∧ SvAt gs so sa ra base wd (svAll wd ss (encsT wd t)) w' ∧ TA n0 (hf wd) t p w' ∧ TAL n0 bare t p bs w ∧ Upd (fun k => k ∈ bs) w w' := by
  have hO := hOld.out w (Below.refl _ _)
  have c1 := Lib.cell_of_heap hO.blk 1
  have HN := newStock_any wd w
  go_enter Tryz.func49, Tryz.ntmps49
  go_upto_region 2 with (go_at_call 52; refine HN.mono ?_; rintro e w1 ⟨sa, ra, rfl, hS, hb1, hr1, hr2⟩)
  obtain ⟨gs, hgs⟩ : ∃ g, w1.heap.size = g := ⟨_, rfl⟩
  have hb2 : Below w1.heap.size w1 ((w1.alloc (.cells #[.pointer (some ⟨so, 0, none⟩), .pointer (some ⟨sa, 0, none⟩), .int .i64 0, .string ⟨#[]⟩, .string ⟨#[]⟩] 94)).alloc (.cells #[.pointer (some ⟨w1.heap.size, 0, none⟩)] 91)) := ((Below.refl _ _).alloc (Nat.le_refl _) _).alloc (by simp) _
  have n2 := heap_alloc_new (w1.alloc (.cells #[.pointer (some ⟨so, 0, none⟩), .pointer (some ⟨sa, 0, none⟩), .int .i64 0, .string ⟨#[]⟩, .string ⟨#[]⟩] 94)) (.cells #[.pointer (some ⟨w1.heap.size, 0, none⟩)] 91)
  have n1 : SVb w1.heap.size so sa 0 ⟨#[]⟩ ⟨#[]⟩ ((w1.alloc (.cells #[.pointer (some ⟨so, 0, none⟩), .pointer (some ⟨sa, 0, none⟩), .int .i64 0, .string ⟨#[]⟩, .string ⟨#[]⟩] 94)).alloc (.cells #[.pointer (some ⟨w1.heap.size, 0, none⟩)] 91)) := (Below.heap_alloc (w1.alloc (.cells #[.pointer (some ⟨so, 0, none⟩), .pointer (some ⟨sa, 0, none⟩), .int .i64 0, .string ⟨#[]⟩, .string ⟨#[]⟩] 94)) (.cells #[.pointer (some ⟨w1.heap.size, 0, none⟩)] 91) w1.heap.size (by simp)).trans (heap_alloc_new w1 _)
  have hz2 : ((w1.alloc (.cells #[.pointer (some ⟨so, 0, none⟩), .pointer (some ⟨sa, 0, none⟩), .int .i64 0, .string ⟨#[]⟩, .string ⟨#[]⟩] 94)).alloc (.cells #[.pointer (some ⟨w1.heap.size, 0, none⟩)] 91)).heap.size = w1.heap.size + 2 := by simp
  rw [World.size_alloc] at n2
  have hsl := hS.hb
  generalize (w1.alloc (.cells #[.pointer (some ⟨so, 0, none⟩), .pointer (some ⟨sa, 0, none⟩), .int .i64 0, .string ⟨#[]⟩, .string ⟨#[]⟩] 94)).alloc (.cells #[.pointer (some ⟨w1.heap.size, 0, none⟩)] 91) = w2 at hb2 n1 n2 hz2 ⊢
  have hS2 := hS.below hb2
  have hbw2 : Below w.heap.size w w2 := hb1.trans (hb2.mono hb1.size)
  rw [hgs] at n1 n2 hz2 hsl ⊢
  clear hgs hb2 hb1 hS HN c1 hO
  have hO2 := hOld.out w2 (hbw2.mono hn0)
  have c1 := Lib.cell_of_heap hO2.blk 1
  have HAdd := addHashes_any wd hw1 hw2 n0 t p w2 (ht.below hbw2 (Nat.le_refl _)) ha hsz (hKT.out w2 (hbw2.mono hn0))
  have HWk : Hid (∀ w4, (∃ bs, TAL n0 bare t p bs w2 ∧ TAL n0 (hf wd) t p bs w4 ∧ Upd (fun k => k ∈ bs) w2 w4) → Calls Tryz.prog 70 #[.pointer p, .func (.func 71) #[] #[], .func (.func 72) #[] #[.pointer (some ⟨gs + 1, 0, none⟩)]] w4 fun e w' => ∃ v base, e = .returned (.bool v) ∧ w'.cell? ⟨gs + 1, 0, none⟩ = some (.pointer (some ⟨gs, 0, none⟩)) ∧ SvAt gs so sa ra base wd (svAll wd ss (encsT wd t)) w' ∧ TA n0 (hf wd) t p w' ∧ ∃ bs, TAL n0 bare t p bs w ∧ Upd (fun k => k ∈ bs) w w') := by
    rintro w4 ⟨bs, t1, t2, hu⟩
    have hcs2 := Lib.cell_of_heap n2 0
    have hgb : gs ∉ bs := t1.notin gs (Lib.cell_of_heap n1 0) (fun s => by simp)
    have hcb : gs + 1 ∉ bs := t1.notin (gs + 1) hcs2 (fun s => by simp)
    have hsb : sa ∉ bs := t1.notin sa (Lib.cell_of_heap hS2.blk 0) (fun s => by simp)
    have hrb : ra ∉ bs := fun hk => by
      obtain ⟨x, _, l, r, e, hT⟩ := t1.mem ra hk
      obtain ⟨es, cl, hm, _, _⟩ := hS2.map.is
      unfold TB at hT
      rw [hm] at hT
      simp at hT
    have hsm : ∀ b ∈ bs, ¬ SvM gs sa ra b := fun b hb hq => by
      rcases hq with rfl | rfl | rfl
      · exact hgb hb
      · exact hsb hb
      · exact hrb hb
    have hb24 : Below n0 w2 w4 := hu.below (Nat.le_trans hn0 hbw2.size) (fun k hk => t1.ge k hk)
    have hbw4 : Below n0 w w4 := (hbw2.mono hn0).trans hb24
    have hMm : ∀ k, SvM gs sa ra k → n0 ≤ k := fun k hk => by rcases hk with rfl | rfl | rfl <;> omega
    have hbW : ∀ W, Upd (SvM gs sa ra) w4 W → Below n0 w W := fun W hW => hbw4.trans (hW.below (Nat.le_trans hn0 (Nat.le_trans hbw2.size hu.size)) hMm)
    have hg4 : SVb gs so sa 0 ⟨#[]⟩ ⟨#[]⟩ w4 := (hu.block gs (by omega) hgb).trans n1
    have hs4 := hu.size
    have hS4 : StockAt sa ra w4.heap.size wd [] none 0 w4 := by
      refine ⟨(hu.block sa (by omega) hsb).trans hS2.blk, World.ownsRow_nil _ _ _ _, ?_, by omega, by omega, by omega, Nat.le_refl _⟩
      obtain ⟨es, cl, hm, q1, q2⟩ := hS2.map.is
      exact ⟨es, cl, (hu.block ra (by omega) hrb).trans hm, q1, q2⟩
    have hcs4 := hu.cell hcs2 hcb
    have hnc : ¬ SvM gs sa ra (gs + 1) := fun hq => by rcases hq with hq | hq | hq <;> omega
    refine (walk_save HH gs so sa ra w4.heap.size wd ss ro bo ao co w4 rfl (fun W hW => hOld.out W (hbW W hW)) (fun W hW => hKT.out W (hbW W hW)) hs1 hs2 hw1 hw2 (by omega) (by omega) (by omega) (gs + 1) hcs4 hnc t p bs [] w4 t2.base0 hsm (Upd.refl _ _) ⟨hg4, ⟨none, 0, hS4⟩, Nat.zero_le _, fun j => Nat.zero_le _⟩).mono ?_
    rintro e w' ⟨he, hA, hU⟩
    obtain ⟨bs', h0⟩ := ht.list
    have hbs := t1.uniq (h0.upd (M := fun _ => False) (Upd.of_below hbw2) (fun _ _ q => q))
    subst hbs
    refine ⟨_, _, he, hU.cell hcs4 hnc, hA, (t2.upd hU hsm).ta, bs, h0, ⟨hU.os.trans (hu.os.trans hbw2.os), hU.tape.trans (hu.tape.trans hbw2.tape), hU.output.trans (hu.output.trans hbw2.output), Nat.le_trans hbw2.size (Nat.le_trans hu.size hU.size), fun k hk hn => ?_⟩⟩
    have hk2 := hbw2.size
    exact (hU.block k (by omega) (fun hq => by rcases hq with hq | hq | hq <;> omega)).trans ((hu.block k (by omega) hn).trans (hbw2.block k hk))
  have hmf : ∀ (fn : Fn) (first cap : Array Value) (w : World), (Instr.makeFunc fn first cap).run Tryz.prog w = .ok (.func fn first cap) w := fun _ _ _ _ => rfl
  clear hOld hKT ht ha hsz hS2 hO2 n1 n2
  go_wp2_with (first | (go_at_call 69; refine HAdd.mono ?_; rintro e w4 ⟨rfl, hx4⟩) | (go_at_call 70; refine (HWk.out _ hx4).mono ?_; rintro e w5 ⟨v, base, rfl, hc5, hA5, hT5, bs, hL5, hB5⟩))
  go_ret
  exact ⟨gs, sa, ra, base, bs, rfl, hA5, hT5, hL5, hB5⟩
end Go.Proofs.YtmfhfehemoeeeaaGreatDoor
