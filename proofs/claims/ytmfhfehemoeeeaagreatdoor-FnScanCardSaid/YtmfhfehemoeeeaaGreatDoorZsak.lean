import Derived.Test.YtmfhfehemoeeeaaGreatDoorZsaj
set_option maxRecDepth 100000
set_option maxHeartbeats 1000000
namespace Go.Proofs.YtmfhfehemoeeeaaGreatDoor
open Go.RowKit Go.Proofs.Sha Go.Shelf
attribute [local go_sem] Oper.semAt_some

theorem isWidth_b (n : Int) (b : Bool) (hb : decide (1 ≤ n ∧ n ≤ 32) = b) (w : World) : Calls Tryz.prog 32 #[.int .i64 n] w fun e w' => e = .returned (.bool b) ∧ w = w' := by
  subst hb
  by_cases c1 : 1 ≤ n
  · have hr : decide (1 ≤ n ∧ n ≤ 32) = decide (n ≤ 32) := by simp [c1]
    rw [hr]
    go_enter Tryz.func32, Tryz.ntmps32
    go_wp2_with fail
    go_ret
    exact ⟨rfl, rfl⟩
  · have hr : decide (1 ≤ n ∧ n ≤ 32) = false := by rw [decide_eq_false (by omega)]
    rw [hr]
    go_enter Tryz.func32, Tryz.ntmps32
    go_wp2_with fail
    go_ret
    exact ⟨rfl, rfl⟩
theorem records_any (s : ByteArray) (w : World) : Calls Tryz.prog 34 #[.string s] w fun e w' => e = .returned (.func (.func 59) #[] #[.pointer (some ⟨w.heap.size, 0, none⟩)]) ∧ w' = w.alloc (.cells #[.string s] 9) := by
  go_enter Tryz.func34, Tryz.ntmps34
  go_wp2_with fail
  go_ret
  exact ⟨rfl, rfl⟩
/-- What Scan answers, and where it lies. -/
def ScanPost (R : Nat → RecT) (wd : Nat) (w : World) (e : Ending) (w' : World) : Prop := ∃ st aN cN aR cR, e = .returned (.agg #[.slice aN st.nodes.length cN, .slice aR st.roots.length cR, .int .i64 (st.fin : Int)]) ∧ Reach R wd st ∧ stepS R wd st = none ∧
  w'.ownsRow w.heap.size 9 1 (.slice aN st.nodes.length cN) st.nodes.length (st.nodes.map Value.string) ∧ w'.ownsRow w.heap.size 9 1 (.slice aR st.roots.length cR) st.roots.length (st.roots.map Value.string) ∧
  (∀ g, (Value.slice aN st.nodes.length cN).ownBlock = some g → (Value.slice aR st.roots.length cR).ownBlock ≠ some g) ∧ Below w.heap.size w w'

theorem stop_done {R : Nat → RecT} {wd : Nat} {xs : List RecB} {st : SS} (h : Runs wd xs st) (hz : (R (secOf xs)).k = 0) : stepS R wd st = none := by
  unfold stepS
  rw [h.sec, if_neg (by omega), if_neg (by omega)]
theorem stop_step {R : Nat → RecT} {wd : Nat} {pre : List RecB} {x : RecB} {st : SS} (h : Runs wd pre st) (hC : Chain R (pre ++ [x])) (hs : stepRc wd st x.1 = none) : stepS R wd st = none := by
  have h2 := hC.back.2
  rw [← h.sec] at h2
  rw [h2] at hs
  exact hs
theorem scan_end {R : Nat → RecT} {lb r wd gz D : Nat} {st : SS} {aN : Option Addr} {cN : Nat} {aR : Option Addr} {cR : Nat} {aA : Option Addr} {cA : Nat} {w w4 W W5 : World} (hL : LogAt lb r (lb + 2) wd st aN cN aR cR aA cA W) (hKp : Keep lb r (lb + 2) w4 W)
    (hZW : W.heap[gz]? = some (.cells #[.slice none 0 0, .slice none 0 0, .int .i64 0] 40)) (_nZ4 : w4.heap[gz]? = some (.cells #[.slice none 0 0, .slice none 0 0, .int .i64 0] 40)) (hbW : Below w.heap.size w w4) (hDf : W.heap[D]? = some (.deferred (some []))) (hD : lb + 2 ≤ D) (hgr : gz < r) (hr : r < lb) (hgz : w.heap.size = gz)
    (hW5 : ((W.setCell ⟨gz, 0, none⟩ (.slice aN st.nodes.length cN)).setCell ⟨gz, 1, none⟩ (.slice aR st.roots.length cR)).setCell ⟨gz, 2, none⟩ (.int .i64 (st.fin : Int)) = W5) (h1 : Reach R wd st) (h2 : stepS R wd st = none) :
    W5.heap[D]? = some (.deferred (some [])) ∧ (W5.putObj D (.deferred none)).heap[gz]? = some (.cells #[.slice aN st.nodes.length cN, .slice aR st.roots.length cR, .int .i64 (st.fin : Int)] 40) ∧
    ScanPost R wd w (.returned (.agg #[.slice aN st.nodes.length cN, .slice aR st.roots.length cR, .int .i64 (st.fin : Int)])) (W5.putObj D (.deferred none)) := by
  have hg5 : W.grownBy W5 (some gz) := by
    rw [← hW5]
    exact grownBy_trans (grownBy_trans (grownBy_setCell _ gz 0 _) (grownBy_setCell _ gz 1 _)) (grownBy_setCell _ gz 2 _)
  have hZ5 : W5.heap[gz]? = some (.cells #[.slice aN st.nodes.length cN, .slice aR st.roots.length cR, .int .i64 (st.fin : Int)] 40) := by
    rw [← hW5]
    exact heap_setCell_same _ gz 2 _ 40 _ (heap_setCell_same _ gz 1 _ 40 _ (heap_setCell_same _ gz 0 _ 40 _ hZW))
  have hD5 : W5.heap[D]? = some (.deferred (some [])) := (hg5.block D (Array.getElem?_eq_some_iff.1 hDf).1 (fun e => by have := Option.some.inj e; omega)).trans hDf
  have hg6 := grownBy_putObj' W5 D (.deferred none)
  have hgt : gz < W5.heap.size := (Array.getElem?_eq_some_iff.1 hZ5).1
  have hrow : ∀ {v : Value} {n : Nat} {xs : List Value}, W.ownsRow (lb + 2) 9 1 v n xs → (W5.putObj D (.deferred none)).ownsRow w.heap.size 9 1 v n xs := fun {v n xs} ho => by
    have h6 : (W5.putObj D (.deferred none)).ownsRow (lb + 2) 9 1 v n xs := own_kept ho (fun g hv hg => by
      obtain ⟨q1, q2, cur, q3⟩ := own_cells ho hv
      have e5 := hg5.block g hg (fun e => by have := Option.some.inj e; omega)
      refine (hg6.block g (Nat.lt_of_lt_of_le hg hg5.size) (fun e => ?_)).trans e5
      have := Option.some.inj e
      subst this
      rw [hDf] at q3; cases q3)
    refine ⟨h6.1, ?_⟩
    rcases h6.2 with h | ⟨g, cap, cur, q1, q2, q3⟩
    · exact .inl h
    · exact .inr ⟨g, cap, cur, q1, by omega, q3⟩
  have hB : Below w.heap.size w W5 := by
    have hb1 : Below w.heap.size w W := hbW.trans (hKp.below (by omega) (by omega) (by omega))
    exact hb1.trans (below_of_grown hg5 (by omega) hb1.size)
  refine ⟨hD5, (hg6.block gz hgt (fun e => by have := Option.some.inj e; omega)).trans hZ5, st, aN, cN, aR, cR, rfl, h1, h2, hrow hL.oN, hrow hL.oR, hL.dNR, ?_⟩
  exact hB.trans (below_of_grown hg6 (by omega) hB.size)

theorem scan_impl {K : World → Prop} (HH : Hid (HashSaid K)) (keep : Hid (∀ w1 w2, K w1 → Below w1.heap.size w1 w2 → K w2)) (s : ByteArray) (hs : s.size ≤ 1048576) (wd : Nat) (h1 : 1 ≤ wd) (h2 : wd ≤ 32) (R : Nat → RecT) (hR : ∀ n, RecOk s.size n (R n)) (HRd : Hid (ReadSaid 60 s R)) (w : World) (hK : K w) :
    Calls Tryz.prog 12 #[.string s, .int .i64 (wd : Int)] w (ScanPost R wd w) := by
  have z0 : decide ((s.size : Int) > 1048576) = false := by rw [decide_eq_false_iff_not]; omega
  have z1 : decide ((1048576 : Int) < (s.size : Int)) = false := by rw [decide_eq_false_iff_not]; omega
  have HW : Hid (∀ w', CallsIn Fence.wide 8 Tryz.prog 32 #[.int .i64 (wd : Int)] w' fun e w'' => e = .returned (.bool true) ∧ w' = w'') := fun w' => callsIn_wide.2 (isWidth_b (wd : Int) true (by rw [decide_eq_true (by omega)]) w')
  have HN : Hid (∀ w', CallsIn Fence.wide 8 Tryz.prog 33 #[.int .i64 (wd : Int)] w' fun e w'' => ∃ r, e = .returned (.agg #[.int .i64 (wd : Int), .map (some r)]) ∧ w'.heap.size ≤ r ∧ MapF (fun _ => none) r w'' ∧ Below w'.heap.size w' w'') := fun w' => callsIn_wide.2 (newP_any (wd : Int) w')
  refine (callsIn_wide (n := 9)).1 ?_
  refine callsIn_of_wp_marks Tryz.func12 rfl trivial ?_ rfl
  simp only [Tryz.ntmps12, List.size_toArray, List.length_cons, List.length_nil, Nat.reduceAdd, Nat.reduceSub, Array.replicate_succ, Array.replicate_zero, List.push_toArray, List.append_toArray, List.nil_append, List.cons_append]
  gi_wp2
  refine ⟨trivial, ?_⟩
  refine (HW.out _).mono ?_
  rintro e w1 ⟨rfl, hw1⟩
  obtain ⟨gz, hgz⟩ : ∃ gz, w.heap.size = gz := ⟨_, rfl⟩
  have nZ := heap_alloc_new w (.cells #[.slice none 0 0, .slice none 0 0, .int .i64 0] 40)
  have hbZ : Below w.heap.size w (w.alloc (.cells #[.slice none 0 0, .slice none 0 0, .int .i64 0] 40)) := (Below.refl _ _).alloc (Nat.le_refl _) _
  rw [hw1] at nZ hbZ
  rw [hgz] at nZ
  clear hw1
  gi_wp2
  refine ⟨trivial, ?_⟩
  refine (HN.out _).mono ?_
  rintro e w2 ⟨r, rfl, hr2, hM2, hb2⟩
  have hr2' : r < w2.heap.size := by
    obtain ⟨es, cl, hh, _, _⟩ := hM2.is
    exact (Array.getElem?_eq_some_iff.1 hh).1
  have nZ2 := (hb2.block gz (Array.getElem?_eq_some_iff.1 nZ).1).trans nZ
  have hbW : Below w.heap.size w w2 := hbZ.trans (hb2.mono hbZ.size)
  have hgr : gz < r := by have := (Array.getElem?_eq_some_iff.1 nZ).1; omega
  have nL := heap_alloc_new w2 (.cells #[.slice none 0 0, .slice none 0 0, .int .i64 0, .slice none 0 0, .int .i64 (wd : Int), .map (some r)] 76)
  have hbL : Below w2.heap.size w2 (w2.alloc (.cells #[.slice none 0 0, .slice none 0 0, .int .i64 0, .slice none 0 0, .int .i64 (wd : Int), .map (some r)] 76)) := (Below.refl _ _).alloc (Nat.le_refl _) _
  have nZ3 := (hbL.block gz (Array.getElem?_eq_some_iff.1 nZ2).1).trans nZ2
  have hM3 := hM2.below hbL
  have hbW3 := hbW.trans (hbL.mono hbW.size)
  have hz3 : (w2.alloc (.cells #[.slice none 0 0, .slice none 0 0, .int .i64 0, .slice none 0 0, .int .i64 (wd : Int), .map (some r)] 76)).heap.size = w2.heap.size + 1 := by simp
  obtain ⟨lb, hlb⟩ : ∃ lb, w2.heap.size = lb := ⟨_, rfl⟩
  rw [hlb] at nL hz3 hr2'
  clear hb2 hM2 nZ nZ2 hbZ hbL hbW hr2 HW HN
  gi_wp2
  refine ⟨trivial, ?_⟩
  refine (callsIn_wide.2 (records_any s _)).mono ?_
  rintro e w4 ⟨rfl, hw4⟩
  try rw [hlb]
  generalize w2.alloc (.cells #[.slice none 0 0, .slice none 0 0, .int .i64 0, .slice none 0 0, .int .i64 (wd : Int), .map (some r)] 76) = w3 at nL nZ3 hM3 hbW3 hz3 hw4 ⊢
  have nB := heap_alloc_new w3 (.cells #[.string s] 9)
  have hbB : Below w3.heap.size w3 (w3.alloc (.cells #[.string s] 9)) := (Below.refl _ _).alloc (Nat.le_refl _) _
  have hz4 : (w3.alloc (.cells #[.string s] 9)).heap.size = lb + 2 := by simp; omega
  rw [← hw4] at nB hbB hz4
  rw [hz3] at nB ⊢
  have nL4 := (hbB.block lb (by omega)).trans nL
  have nZ4 := (hbB.block gz (by omega)).trans nZ3
  have hM4 := hM3.below hbB
  have hbW4 := hbW3.trans (hbB.mono hbW3.size)
  clear hw4 nL nZ3 hM3 hbW3 hbB hz3 hlb
  gi_wp2
  refine loop_records s hs R hR HRd (lb + 1) rfl nB (II lb r (lb + 2) wd w4) (IIx lb r (lb + 2) wd w4) ?hI ?hIx ?h0
    (fun x a' W => ∃ gx, W.heap[gx]? = some (.cells #[.int .i64 x.1.k, .string x.1.enc, .int .i64 x.1.v, .string x.1.root, .int .i64 (x.1.nx : Int)] 66) ∧ a' = { tmps := #[.string s, .int .i64 (wd : Int), undef, undef, .pointer (some ⟨gz, 0, none⟩), .pointer (some ⟨lb, 0, none⟩), .pointer (some ⟨gx, 0, none⟩), .int .i64 (wd : Int), .bool true, .bool false, .bool false, .string s, .int .i64 (s.size : Int), .bool false, .bool false, undef, .int .i64 (wd : Int), .agg #[.int .i64 (wd : Int), .map (some r)], .agg #[.slice none 0 0, .slice none 0 0, .int .i64 0, .slice none 0 0, .int .i64 (wd : Int), .map (some r)], .string s, .func (.func 59) #[] #[.pointer (some ⟨lb + 1, 0, none⟩)], recT x.1, undef, undef, undef, undef, undef, undef, undef, undef, undef, undef, undef, undef, undef], defers := [] }) ?hAx ?assign ?body ?done ?stop
  case hI =>
    rw [hz4]
    rintro pre A B row ⟨st, h1', h2'⟩ hg hr
    exact ⟨st, h1', h2'.abides hg hr⟩
  case hIx =>
    rw [hz4]
    rintro c pre A B row ⟨hc, pre', x, st, q1, q2, q3, q4⟩ hg hr
    exact ⟨hc, pre', x, st, q1, q2, q3, q4.abides hg hr⟩
  case h0 =>
    refine ⟨st0, Runs.nil, ⟨none, 0, none, 0, none, 0, nL4, World.ownsRow_nil _ _ _ _, World.ownsRow_nil _ _ _ _, World.ownsRow_nil _ _ _ _, fun g e => (by cases e), fun g e => (by cases e), fun g e => (by cases e), fun _ => ⟨rfl, rfl⟩, hM4, by omega, by omega, by omega, by omega⟩, Keep.refl _ _ _ _⟩
  case hAx =>
    rintro x a' W l q o' ⟨gx, hx, ha⟩ hl
    refine ⟨gx, (World.putObj_heap_other (fun e => ?_)).trans hx, ha⟩
    first | (rw [← e, hx] at hl; cases hl) | (rw [e, hx] at hl; cases hl) | (subst e; rw [hx] at hl; cases hl)
  case assign =>
    intro l x W K' hK'
    gi_wp2
    exact (Array.getElem?_eq_some_iff.1 (heap_alloc_new W (.cells #[.int .i64 x.1.k, .string x.1.enc, .int .i64 x.1.v, .string x.1.root, .int .i64 (x.1.nx : Int)] 66))).2
  case body =>
    rintro l pre x a' W ⟨st, hRn, ⟨aN, cN, aR, cR, aA, cA, hL⟩, hKp⟩ ⟨gx, hgx, rfl⟩ hlen
    have hll := hRn.len
    have hbW5 : Below w.heap.size w W := hbW4.trans (hKp.below (by omega) (by omega) (by omega))
    have hKW : K W := keep.out _ _ hK hbW5
    have hBnW : ∀ W' : World, Turn lb r (lb + 2) W W' → W'.heap[lb + 1]? = W.heap[lb + 1]? := fun W' ht => ht.oth (lb + 1) (by omega) (by omega) (by omega)
    have hSm : ∀ W' : World, Turn lb r (lb + 2) W W' → Sm (lb + 2) W W' := fun W' ht => ⟨ht.size, fun k o hk ho hn => ht.non k o (by omega) ho hn⟩
    have g0 := Lib.cell_of_heap hgx 0
    have g1 := Lib.cell_of_heap hgx 1
    have g2 := Lib.cell_of_heap hgx 2
    have g3 := Lib.cell_of_heap hgx 3
    have g4 := Lib.cell_of_heap hgx 4
    rcases x.2 with ⟨hk1, he1, hn1⟩ | ⟨hk2, he2, hn2⟩
    · have hstep : stepRc wd st x.1 = some ⟨st.nodes, st.aside ++ [x.1.enc], st.roots, st.fin, x.1.nx⟩ := by unfold stepRc; rw [if_pos hk1]
      have HP : Hid (∀ m, CallsIn (Fence.wide.inRound l) m Tryz.prog 35 #[.pointer (some ⟨lb, 0, none⟩), .string x.1.enc] W fun e w' => e = .returned (.tuple #[]) ∧ Sm (lb + 2) W w' ∧ w'.heap[lb + 1]? = W.heap[lb + 1]? ∧ II lb r (lb + 2) wd w4 (pre ++ [x]) w') := fun m => by
        refine CallsIn.inRound l (callsIn_wide.2 ((putAside_any HH keep lb r (lb + 2) wd st aN cN aR cR aA cA x.1.enc W hL hKW (by omega) h2 (by omega) x.1.nx).mono ?_))
        rintro e w' ⟨aA', cA', rfl, hL', ht⟩
        exact ⟨rfl, hSm _ ht, hBnW _ ht, _, Runs.snoc hRn hstep, ⟨_, _, _, _, _, _, hL'⟩, hKp.turn ht⟩
      have z2 : (x.1.k == 1) = true := by rw [hk1]; rfl
      clear hL hKp hRn hstep hll hbW5 hKW hBnW hSm hlen nL4 nZ4 hM4 hbW4 nB
      replace hk1 : Hid _ := hk1
      gi_wp2
      refine ⟨trivial, ?_⟩
      refine (HP.out _).mono ?_
      rintro e w' ⟨rfl, q1, q2, q3⟩
      gi_wp2
      exact ⟨by first | exact q1 | (rw [hz4]; exact q1), q2, q3⟩
    · have z2 : (x.1.k == 1) = false := by rw [hk2]; rfl
      have HG : Hid (∀ m, CallsIn (Fence.wide.inRound l) m Tryz.prog 36 #[.pointer (some ⟨lb, 0, none⟩), recT x.1] W fun e w' => e = .returned (.bool (goodC wd st x.1)) ∧ Below W.heap.size W w') := fun m => CallsIn.inRound l (callsIn_wide.2 (isGood_any lb r (lb + 2) wd st aN cN aR cR aA cA x.1 W hL h2 (by omega)))
      have hbs := hL.hb
      cases hgd : goodC wd st x.1 with
      | false =>
        rw [hgd] at HG
        have hstep : stepRc wd st x.1 = none := by unfold stepRc; rw [if_neg (by omega), if_neg (fun h => by rw [hgd] at h; exact absurd h.2 (by decide))]
        have HE : Hid (∀ w', Below W.heap.size W w' → Sm (lb + 2) W w' ∧ IIx lb r (lb + 2) wd w4 (.exit 0) (pre ++ [x]) w') := fun w' hb => ⟨hSm _ (Turn.of_below hb hbs), rfl, pre, x, st, rfl, hRn, hstep, ⟨_, _, _, _, _, _, hL.below hb⟩, hKp.turn (Turn.of_below hb hbs)⟩
        clear hL hKp hRn hstep hll hbW5 hKW hBnW hSm hlen nL4 nZ4 hM4 hbW4 nB hgd hbs
        replace hk2 : Hid _ := hk2
        gi_wp2
        refine ⟨trivial, ?_⟩
        refine (HG.out _).mono ?_
        rintro e w' ⟨rfl, hb'⟩
        have hE := HE.out w' hb'
        gi_wp2
        exact ⟨by first | exact hE.1 | (rw [hz4]; exact hE.1), hE.2⟩
      | true =>
        rw [hgd] at HG
        have hstep : stepRc wd st x.1 = some ⟨st.nodes ++ st.aside, [], st.roots ++ [x.1.root], x.1.nx * 64, x.1.nx⟩ := by unfold stepRc; rw [if_neg (by omega), if_pos ⟨hk2, hgd⟩]
        have HA : Hid (∀ m w', Below W.heap.size W w' → CallsIn (Fence.wide.inRound l) m Tryz.prog 37 #[.pointer (some ⟨lb, 0, none⟩), recT x.1] w' fun e w'' => e = .returned (.tuple #[]) ∧ Sm (lb + 2) W w'' ∧ w''.heap[lb + 1]? = W.heap[lb + 1]? ∧ II lb r (lb + 2) wd w4 (pre ++ [x]) w'') := fun m w' hb => by
          refine CallsIn.inRound l (callsIn_wide.2 ((accept_any lb r (lb + 2) wd st aN cN aR cR aA cA x.1 w' (hL.below hb) (by omega) (by omega)).mono ?_))
          rintro e w'' ⟨aN', cN', aR', cR', rfl, hL', ht⟩
          have ht' := (Turn.of_below (lb := lb) (r := r) hb hbs).trans ht
          exact ⟨rfl, hSm _ ht', hBnW _ ht', _, Runs.snoc hRn hstep, ⟨_, _, _, _, _, _, hL'⟩, hKp.turn ht'⟩
        clear hL hKp hRn hstep hll hbW5 hKW hBnW hSm hlen nL4 nZ4 hM4 hbW4 nB hgd hbs
        replace hk2 : Hid _ := hk2
        have hgxl := (Array.getElem?_eq_some_iff.1 hgx).1
        gi_wp2
        refine ⟨trivial, ?_⟩
        refine (HG.out _).mono ?_
        rintro e w' ⟨rfl, hb'⟩
        have HA' := fun m => HA.out m w' hb'
        replace HA' : Hid _ := HA'
        have hgx' := (hb'.block gx hgxl).trans hgx
        clear g0 g1 g2 g3 g4 hgx HA hb'
        have g0 := Lib.cell_of_heap hgx' 0
        have g1 := Lib.cell_of_heap hgx' 1
        have g2 := Lib.cell_of_heap hgx' 2
        have g3 := Lib.cell_of_heap hgx' 3
        have g4 := Lib.cell_of_heap hgx' 4
        gi_wp2
        refine ⟨trivial, ?_⟩
        refine (HA'.out _).mono ?_
        rintro e w'' ⟨rfl, q1, q2, q3⟩
        gi_wp2
        exact ⟨by first | exact q1 | (rw [hz4]; exact q1), q2, q3⟩
  case done =>
    rintro D xs W hD hC hz ⟨st, hRn, ⟨aN, cN, aR, cR, aA, cA, hL⟩, hKp⟩ hDf
    have hLb := hL.blk
    have hZW := (hKp.oth gz (by omega) (by omega) (by omega)).trans nZ4
    have c0 := Lib.cell_of_heap hLb 0
    have c1 := Lib.cell_of_heap hLb 1
    have c2 := Lib.cell_of_heap hLb 2
    have d0 := Lib.cell_of_heap hZW 0
    have d1 := Lib.cell_of_heap hZW 1
    have d2 := Lib.cell_of_heap hZW 2
    have fz : ∀ j, W.frozen? ⟨gz, j, none⟩ = false := fun j => by rw [World.frozen?, hZW]; rfl
    have f0 := fz 0
    have f1 := fz 1
    have f2 := fz 2
    clear hLb
    gi_wp2
    obtain ⟨W5, hW5⟩ : ∃ W5, ((W.setCell ⟨gz, 0, none⟩ (.slice aN st.nodes.length cN)).setCell ⟨gz, 1, none⟩ (.slice aR st.roots.length cR)).setCell ⟨gz, 2, none⟩ (.int .i64 (st.fin : Int)) = W5 := ⟨_, rfl⟩
    have hE := scan_end (gz := gz) hL hKp hZW nZ4 hbW4 hDf (by omega) hgr hr2' hgz hW5 (hRn.reach hC) (stop_done hRn hz)
    rw [hW5]
    obtain ⟨hD5, hZ6, hP⟩ := hE
    clear hL hKp hZW c0 c1 c2 d0 d1 d2 f0 f1 f2 fz hW5
    refine ⟨by simp, .inl ⟨_, _, rfl, run_takeDeferred hD5, ?_⟩⟩
    have e0 := Lib.cell_of_heap hZ6 0
    have e1 := Lib.cell_of_heap hZ6 1
    have e2 := Lib.cell_of_heap hZ6 2
    refine ⟨.agg #[.slice aN st.nodes.length cN, .slice aR st.roots.length cR, .int .i64 (st.fin : Int)], ?_, hP⟩
    clear hP
    simp [results, Tryz.results12, go_sem, asAddr, e0, e1, e2]
  case stop =>
    rintro D c pre W hD hC ⟨rfl, pre', x, st, rfl, hRn, hsn, ⟨aN, cN, aR, cR, aA, cA, hL⟩, hKp⟩ hDf
    have hLb := hL.blk
    have hZW := (hKp.oth gz (by omega) (by omega) (by omega)).trans nZ4
    have c0 := Lib.cell_of_heap hLb 0
    have c1 := Lib.cell_of_heap hLb 1
    have c2 := Lib.cell_of_heap hLb 2
    have d0 := Lib.cell_of_heap hZW 0
    have d1 := Lib.cell_of_heap hZW 1
    have d2 := Lib.cell_of_heap hZW 2
    have fz : ∀ j, W.frozen? ⟨gz, j, none⟩ = false := fun j => by rw [World.frozen?, hZW]; rfl
    have f0 := fz 0
    have f1 := fz 1
    have f2 := fz 2
    clear hLb
    gi_wp2
    obtain ⟨W5, hW5⟩ : ∃ W5, ((W.setCell ⟨gz, 0, none⟩ (.slice aN st.nodes.length cN)).setCell ⟨gz, 1, none⟩ (.slice aR st.roots.length cR)).setCell ⟨gz, 2, none⟩ (.int .i64 (st.fin : Int)) = W5 := ⟨_, rfl⟩
    have hE := scan_end (gz := gz) hL hKp hZW nZ4 hbW4 hDf (by omega) hgr hr2' hgz hW5 (hRn.reach hC.back.1) (stop_step hRn hC hsn)
    rw [hW5]
    obtain ⟨hD5, hZ6, hP⟩ := hE
    clear hL hKp hZW c0 c1 c2 d0 d1 d2 f0 f1 f2 fz hW5
    refine ⟨by simp, .inl ⟨_, _, rfl, run_takeDeferred hD5, ?_⟩⟩
    have e0 := Lib.cell_of_heap hZ6 0
    have e1 := Lib.cell_of_heap hZ6 1
    have e2 := Lib.cell_of_heap hZ6 2
    refine ⟨.agg #[.slice aN st.nodes.length cN, .slice aR st.roots.length cR, .int .i64 (st.fin : Int)], ?_, hP⟩
    clear hP
    simp [results, Tryz.results12, go_sem, asAddr, e0, e1, e2]
end Go.Proofs.YtmfhfehemoeeeaaGreatDoor
