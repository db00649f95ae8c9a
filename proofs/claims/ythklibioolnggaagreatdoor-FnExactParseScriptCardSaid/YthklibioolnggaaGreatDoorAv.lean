import Derived.Test.YthklibioolnggaaGreatDoorAu
namespace Go.Proofs.YthklibioolnggaaGreatDoor
open Go.RowKit Go.Proofs.Sha

/-- A script while it is read: its block, and its operations. -/
structure ScAt (base gs : Nat) (wd cap : Int) (es : List OE) (a : Option Addr) (c : Nat) (W : World) : Prop where
  blk : W.heap[gs]? = some (.cells #[.int .i64 wd, .int .i64 cap, .slice a es.length c] 24)
  ops : OpsAt base es a c W
theorem ScAt.below {base gs : Nat} {wd cap : Int} {es : List OE} {a : Option Addr} {c : Nat} {W W' : World} (h : ScAt base gs wd cap es a c W) (hb : Below W.heap.size W W') : ScAt base gs wd cap es a c W' :=
  ⟨(hb.block gs (Array.getElem?_eq_some_iff.1 h.blk).1).trans h.blk, h.ops.below hb⟩
/-- All blocks below base stay, but the script's own. -/
structure Kp (base gs : Nat) (w w' : World) : Prop where
  os : w'.os = w.os
  tape : w'.tape = w.tape
  output : w'.output = w.output
  size : w.heap.size ≤ w'.heap.size
  blk : ∀ k, k < base → k ≠ gs → w'.heap[k]? = w.heap[k]?
theorem Kp.of {base gs : Nat} {w w' : World} (h : Below base w w') : Kp base gs w w' := ⟨h.os, h.tape, h.output, h.size, fun k hk _ => h.block k hk⟩
theorem Kp.set {base gs : Nat} {w W : World} (h : Below base w W) (f : Nat) (v : Value) : Kp base gs w (W.setCell ⟨gs, f, none⟩ v) := by
  have b0 := (Below.refl 0 W).setCell (p := ⟨gs, f, none⟩) (Nat.zero_le _) v
  exact ⟨b0.os.trans h.os, b0.tape.trans h.tape, b0.output.trans h.output, Nat.le_trans h.size b0.size, fun k hk hne => (Below.heap_setCell W ⟨gs, f, none⟩ v k hne).trans (h.block k hk)⟩
theorem Kp.below {base gs : Nat} {w W W' : World} (h : Kp base gs w W) (hb : Below W.heap.size W W') (hs : base ≤ W.heap.size) : Kp base gs w W' :=
  ⟨hb.os.trans h.os, hb.tape.trans h.tape, hb.output.trans h.output, Nat.le_trans h.size hb.size, fun k hk hne => (hb.block k (Nat.lt_of_lt_of_le hk hs)).trans (h.blk k hk hne)⟩
theorem Kp.trans {base gs : Nat} {w W W' : World} (h : Kp base gs w W) (h' : Kp base gs W W') : Kp base gs w W' :=
  ⟨h'.os.trans h.os, h'.tape.trans h.tape, h'.output.trans h.output, Nat.le_trans h.size h'.size, fun k hk hne => (h'.blk k hk hne).trans (h.blk k hk hne)⟩
theorem Kp.low {base gs : Nat} {w w' : World} (h : Kp base gs w w') (hg : gs ≤ base) : Below gs w w' :=
  ⟨h.os, h.tape, h.output, h.size, fun k hk => h.blk k (Nat.lt_of_lt_of_le hk hg) (Nat.ne_of_lt hk)⟩
theorem ScAt.wd {base gs : Nat} {wd cap : Int} {es : List OE} {a : Option Addr} {c : Nat} {W : World} (h : ScAt base gs wd cap es a c W) (v : Int) : ScAt base gs v cap es a c (W.setCell ⟨gs, 0, none⟩ (.int .i64 v)) :=
  ⟨heap_setCell_same _ gs 0 _ 24 _ h.blk, ops_setc h.ops h.blk⟩
theorem ScAt.cap {base gs : Nat} {wd cap : Int} {es : List OE} {a : Option Addr} {c : Nat} {W : World} (h : ScAt base gs wd cap es a c W) (v : Int) : ScAt base gs wd v es a c (W.setCell ⟨gs, 1, none⟩ (.int .i64 v)) :=
  ⟨heap_setCell_same _ gs 1 _ 24 _ h.blk, ops_setc h.ops h.blk⟩

set_option maxRecDepth 100000 in
set_option maxHeartbeats 400000 in
theorem fn_width (base gs : Nat) (wd cap : Int) (es : List OE) (a : Option Addr) (c : Nat) (aw : Option Addr) (wn cw : Nat) (ns : List Int) (an : Option Addr) (cn : Nat) (w : World) (hS : ScAt base gs wd cap es a c w) (hI : IArg an ns w) (hq : ns.length = 1) (hb : base ≤ w.heap.size) :
    Calls Tryz.prog 24 #[.pointer (some ⟨gs, 0, none⟩), .agg #[.slice aw wn cw, .slice an ns.length cn]] w fun e w' => e = .returned (.tuple #[]) ∧ ScAt base gs (ns.getD 0 0) cap es a c w' ∧ Kp base gs w w' := by
  rw [hq]
  have bB : Below w.heap.size w (w.alloc (.cells #[.slice aw wn cw, .slice an 1 cn] 55)) := (Below.refl _ _).alloc (Nat.le_refl _) _
  have nB := heap_alloc_new w (.cells #[.slice aw wn cw, .slice an 1 cn] 55)
  have hI1 := hI.below bB
  have hS1 := hS.below bB
  have hb1 := Nat.le_trans hb bB.size
  obtain ⟨bq, oq, rfl, hbq, hcq⟩ := hI1.at_ (by omega)
  have kn0 := hcq 0 (by omega)
  rw [Nat.add_zero] at kn0
  generalize ns.getD 0 0 = N0 at kn0 ⊢
  clear hcq hI hI1 hq
  go_enter Tryz.func24, Tryz.ntmps24
  go_upto_region 1 with fail
  generalize w.alloc (.cells #[.slice aw wn cw, .slice (some ⟨bq, oq, none⟩) 1 cn] 55) = w1 at bB nB hS1 hb1 kn0 ⊢
  generalize w.heap.size = gb at nB ⊢
  have c0 := Lib.cell_of_heap hS1.blk 0
  have b1 := Lib.cell_of_heap nB 1
  have fz : ∀ j, w1.frozen? ⟨gs, j, none⟩ = false := fun j => by rw [World.frozen?, hS1.blk]; rfl
  have hS2 := hS1.wd N0
  go_wp2_with fail
  exact Great.bodyPost_end0 rfl rfl ⟨rfl, hS2, Kp.set (bB.mono hb) 0 _⟩

set_option maxRecDepth 100000 in
set_option maxHeartbeats 400000 in
theorem fn_cap (base gs : Nat) (wd cap : Int) (es : List OE) (a : Option Addr) (c : Nat) (aw : Option Addr) (wn cw : Nat) (ns : List Int) (an : Option Addr) (cn : Nat) (w : World) (hS : ScAt base gs wd cap es a c w) (hI : IArg an ns w) (hq : ns.length = 1) (hb : base ≤ w.heap.size) :
    Calls Tryz.prog 25 #[.pointer (some ⟨gs, 0, none⟩), .agg #[.slice aw wn cw, .slice an ns.length cn]] w fun e w' => e = .returned (.tuple #[]) ∧ ScAt base gs wd (ns.getD 0 0) es a c w' ∧ Kp base gs w w' := by
  rw [hq]
  have bB : Below w.heap.size w (w.alloc (.cells #[.slice aw wn cw, .slice an 1 cn] 55)) := (Below.refl _ _).alloc (Nat.le_refl _) _
  have nB := heap_alloc_new w (.cells #[.slice aw wn cw, .slice an 1 cn] 55)
  have hI1 := hI.below bB
  have hS1 := hS.below bB
  have hb1 := Nat.le_trans hb bB.size
  obtain ⟨bq, oq, rfl, hbq, hcq⟩ := hI1.at_ (by omega)
  have kn0 := hcq 0 (by omega)
  rw [Nat.add_zero] at kn0
  generalize ns.getD 0 0 = N0 at kn0 ⊢
  clear hcq hI hI1 hq
  go_enter Tryz.func25, Tryz.ntmps25
  go_upto_region 1 with fail
  generalize w.alloc (.cells #[.slice aw wn cw, .slice (some ⟨bq, oq, none⟩) 1 cn] 55) = w1 at bB nB hS1 hb1 kn0 ⊢
  generalize w.heap.size = gb at nB ⊢
  have c0 := Lib.cell_of_heap hS1.blk 1
  have b1 := Lib.cell_of_heap nB 1
  have fz : ∀ j, w1.frozen? ⟨gs, j, none⟩ = false := fun j => by rw [World.frozen?, hS1.blk]; rfl
  have hS2 := hS1.cap N0
  go_wp2_with fail
  exact Great.bodyPost_end0 rfl rfl ⟨rfl, hS2, Kp.set (bB.mono hb) 1 _⟩

set_option maxRecDepth 100000 in
set_option maxHeartbeats 1000000 in
theorem opl_any (base gs g n mid : Nat) (wd cap : Int) (es : List OE) (a : Option Addr) (c : Nat) (aw : Option Addr) (wn cw : Nat) (an : Option Addr) (nn cn : Nat) (o : OpT) (ao : Option Addr) (co : Nat) (w : World)
    (hcf : ∀ (x : Array Value) (W : World), (callFunc n x).run Tryz.prog W = .ok (.enter n x) W)
    (hS : ScAt base gs wd cap es a c w) (hG : w.heap[g]? = some (.cells #[.func (.func n) #[] #[]] 68))
    (hF : ∀ W, Below w.heap.size w W → Calls Tryz.prog n #[.agg #[.slice aw wn cw, .slice an nn cn]] W fun e w' => e = .returned (.agg #[.int .i64 (o.kind : Int), .string o.key, .string o.val, .int .i64 o.n, .int .i64 o.m, .slice ao o.picks.length co]) ∧ Below W.heap.size W w')
    (hpk : w.ownsRow mid 3 1 (.slice ao o.picks.length co) o.picks.length (o.picks.map I)) (hmid : ∀ x ∈ es, ∀ q, blk x = some q → q < mid) (hbm : base ≤ mid) (hb : base ≤ w.heap.size) (hj : es.length ≤ 1048576) :
    Calls Tryz.prog 55 #[.pointer (some ⟨gs, 0, none⟩), .agg #[.slice aw wn cw, .slice an nn cn], .pointer (some ⟨g, 0, none⟩)] w fun e w' => e = .returned (.tuple #[]) ∧ (∃ a' c', ScAt base gs wd cap (es ++ [(o, ao, co)]) a' c' w') ∧ Kp base gs w w' := by
  obtain ⟨R, hR⟩ : ∃ R : Ending → World → Prop, (fun e w' => e = .returned (.tuple #[]) ∧ (∃ a' c', ScAt base gs wd cap (es ++ [(o, ao, co)]) a' c' w') ∧ Kp base gs w w') = R := ⟨_, rfl⟩
  have hRo : Hid ((fun e w' => e = .returned (.tuple #[]) ∧ (∃ a' c', ScAt base gs wd cap (es ++ [(o, ao, co)]) a' c' w') ∧ Kp base gs w w') = R) := hR
  rw [hR]
  clear hR
  obtain ⟨i37, hi37, hz0, hz1, hz2⟩ := info_parts2 info37
  have HF : Hid (∀ W, Below w.heap.size w W → Calls Tryz.prog n #[.agg #[.slice aw wn cw, .slice an nn cn]] W fun e w' => e = .returned (.agg #[.int .i64 (o.kind : Int), .string o.key, .string o.val, .int .i64 o.n, .int .i64 o.m, .slice ao o.picks.length co]) ∧ Below W.heap.size W w') := hF
  obtain ⟨j, hj'⟩ : ∃ j, es.length = j := ⟨_, rfl⟩
  have hlen : Hid (es.length = j) := hj'
  rw [hj'] at hj
  clear hF hj'
  have HSc : Hid (∀ W, ScAt base gs wd cap es a c W → W.cell? ⟨gs, 2, none⟩ = some (.slice a j c)) := fun W hW => by
    have := Lib.cell_of_heap hW.blk 2
    rw [hlen.out] at this
    exact this
  have nB0 := heap_alloc_new w (.cells #[.slice aw wn cw, .slice an nn cn] 55)
  have bB : Below w.heap.size w (w.alloc (.cells #[.slice aw wn cw, .slice an nn cn] 55)).drew := ((Below.refl _ _).alloc (Nat.le_refl _) _).drew
  have nB : (w.alloc (.cells #[.slice aw wn cw, .slice an nn cn] 55)).drew.heap[w.heap.size]? = some (.cells #[.slice aw wn cw, .slice an nn cn] 55) := nB0
  clear nB0
  go_enter Tryz.func55, Tryz.ntmps55
  go_upto_region 1 with fail
  generalize hgb : w.heap.size = gb at nB ⊢
  have hgb : Hid (w.heap.size = gb) := hgb
  have hSq := hS.below bB
  have hGq := (bB.block g (Array.getElem?_eq_some_iff.1 hG).1).trans hG
  have hpkq := ownG_kept hpk (fun q _ hq => bB.block q hq)
  have hbq : base ≤ (w.alloc (.cells #[.slice aw wn cw, .slice an nn cn] 55)).drew.heap.size := Nat.le_trans hb bB.size
  have bwq : Below base w (w.alloc (.cells #[.slice aw wn cw, .slice an nn cn] 55)).drew := bB.mono hb
  refine wp_region_held_drew (S := fun W => W.heap[g]? = some (.cells #[.func (.func n) #[] #[]] 68) ∧ W.heap[gb]? = some (.cells #[.slice aw wn cw, .slice an nn cn] 55)) (by kernel_rfl) ⟨hGq, nB⟩ (fun hHeld => ?_)
  generalize (w.alloc (.cells #[.slice aw wn cw, .slice an nn cn] 55)).drew = wq at nB bB hSq hGq hpkq hbq bwq hHeld ⊢
  refine tkI 0 ?_
  simp only [Act.put, zq]
  refine tkI 1 ?_
  simp only [Act.put, zq]
  refine tkI 2 ?_
  simp only [Act.put, zq]
  refine tkI 3 ?_
  simp only [Act.put, zq]
  refine tkH (i := 5) (by rfl) (Or.inl ⟨by rfl, fun W hSW => by have k0 := Lib.cell_of_heap hSW.1 0; go_simp; rfl⟩) ?_
  simp only [Act.put, zq]
  refine tkH (i := 6) (by rfl) (Or.inl ⟨by rfl, fun W hSW => by have k0 := Lib.cell_of_heap hSW.2 0; have k1 := Lib.cell_of_heap hSW.2 1; go_simp; rfl⟩) ?_
  simp only [Act.put, zq]
  refine wpAnyH_ready (rs := [4, 7]) (by kernel_rfl) (by simp) ?_
  refine AllReadyH.cons rfl (fun K hK => ?_) (AllReadyH.cons rfl (fun K hK => ?_) AllReadyH.nil)
  · have s0 := HSc.out _ hSq
    go_simp
    refine hK.out _ _ ⟨hGq, nB⟩ (fun hHeld => ?_)
    clear hK K s0
    refine rdH 7 (fun K hK => ?_)
    go_simp
    refine (HF.out _ bB).mono ?_
    rintro e wa ⟨rfl, hba⟩
    have hSa := hSq.below hba
    have nBa := (hba.block gb (Array.getElem?_eq_some_iff.1 nB).1).trans nB
    have hGa := (hba.block g (Array.getElem?_eq_some_iff.1 hGq).1).trans hGq
    have hpka := ownG_kept hpkq (fun q _ hq => hba.block q hq)
    have bwa : Below base w wa := bwq.trans (hba.mono hbq)
    have hbaz := Nat.le_trans hbq hba.size
    refine hK.out _ _ ⟨hGa, nBa⟩ (fun hHeld => ?_)
    clear hK K
    refine rdH 8 (fun K hK => ?_)
    have alb : Below wa.heap.size wa (wa.alloc (.cells #[.int .i64 (o.kind : Int), .string o.key, .string o.val, .int .i64 o.n, .int .i64 o.m, .slice ao o.picks.length co] 37)) := (Below.refl _ _).alloc (Nat.le_refl _) _
    have hSb := hSa.below alb
    have nBb := (alb.block gb (Array.getElem?_eq_some_iff.1 nBa).1).trans nBa
    have hGb := (alb.block g (Array.getElem?_eq_some_iff.1 hGa).1).trans hGa
    go_simp
    refine hK.out _ _ ⟨hGb, nBb⟩ (fun hHeld => ?_)
    clear hK K
    refine rdH 9 (fun K hK => ?_)
    have owa := hSa.ops.row
    rw [hlen.out] at owa
    refine step_append_lies _ rfl (.tmp 9) (.tmp 13) 22 rfl base 37 i37 (.agg #[.int .i64 0, .string ⟨#[]⟩, .string ⟨#[]⟩, .int .i64 0, .int .i64 0, .slice none 0 0]) 6 80 Tryz.underlying22 hi37 hz0 hz1 hz2 rfl (by decide) (.slice a j c) j (flatE es) rfl (owa.alloc _) ⟨wa.heap.size, 0, none⟩ 1 1 (opL (o, ao, co)) rfl rfl (World.news_of_block (heap_alloc_new wa _)) (by simp [opL, Value.oneCell']) (by decide) (by unfold maxLen; omega) (by omega) (by simp; omega) (wa.heap.size + 1) (by simp) ?_
    intro g6 c6 w6 hown6 hgrow6 _ _
    have nA6 := (grown_at owa hgrow6 hSa.blk (by decide)).trans hSa.blk
    have nB6 := (grown_at owa hgrow6 nBa (by decide)).trans nBa
    have hG6 := (grown_at owa hgrow6 hGa (by decide)).trans hGa
    have s0 : w6.cell? ⟨gs, 2, none⟩ = some (.slice a j c) := by have := Lib.cell_of_heap nA6 2; rw [hlen.out] at this; exact this
    have ff : ∀ f, w6.frozen? ⟨gs, f, none⟩ = false := fun f => by rw [World.frozen?, nA6]; rfl
    refine hK.out _ _ ⟨hG6, nB6⟩ (fun hHeld => ?_)
    clear hK K
    refine tkI 10 ?_
    simp only [Act.put, zq]
    refine tkI 11 ?_
    simp only [Act.put, zq]
    refine rdH 12 (fun K hK => ?_)
    have n7 := heap_setCell_same _ gs 2 _ 24 (.slice (some ⟨g6, 0, none⟩) (j + 1) c6) nA6
    have nB7 := (Below.heap_setCell w6 ⟨gs, 2, none⟩ (.slice (some ⟨g6, 0, none⟩) (j + 1) c6) gb (ne_of_type nB6 nA6 (by decide))).trans nB6
    have hG7 := (Below.heap_setCell w6 ⟨gs, 2, none⟩ (.slice (some ⟨g6, 0, none⟩) (j + 1) c6) g (ne_of_type hG6 nA6 (by decide))).trans hG6
    have hlq : (es ++ [((o, ao, co) : OE)]).length = j + 1 := by rw [List.length_append, hlen.out]; rfl
    have hm := OpsAt.more (e := (o, ao, co)) (mid := mid) hSa.ops hmid hpka hbm (by rw [hlen.out]; exact hown6) (by rw [hlen.out]; exact hgrow6)
    have hS7 : ScAt base gs wd cap (es ++ [(o, ao, co)]) (some ⟨g6, 0, none⟩) c6 (w6.setCell ⟨gs, 2, none⟩ (.slice (some ⟨g6, 0, none⟩) (j + 1) c6)) := ⟨by rw [hlq]; exact n7, ops_setc hm nA6⟩
    have hb7 : Kp base gs w (w6.setCell ⟨gs, 2, none⟩ (.slice (some ⟨g6, 0, none⟩) (j + 1) c6)) := Kp.set ((bwa.alloc hbaz _).grown hgrow6 (by simp; omega) (fun q hq => (ownG_cells owa hq).1)) 2 _
    go_simp
    refine hK.out _ _ ⟨hG7, nB7⟩ (fun hHeld => ?_)
    clear hK K
    refine wpAnyH_done (by kernel_rfl) ?_ _
    refine Great.bodyPost_end0 rfl rfl ?_
    rw [← hRo.out]
    exact ⟨rfl, ⟨_, c6, hS7⟩, hb7⟩
  · go_simp
    refine (HF.out _ bB).mono ?_
    rintro e wa ⟨rfl, hba⟩
    have hSa := hSq.below hba
    have nBa := (hba.block gb (Array.getElem?_eq_some_iff.1 nB).1).trans nB
    have hGa := (hba.block g (Array.getElem?_eq_some_iff.1 hGq).1).trans hGq
    have hpka := ownG_kept hpkq (fun q _ hq => hba.block q hq)
    have bwa : Below base w wa := bwq.trans (hba.mono hbq)
    have hbaz := Nat.le_trans hbq hba.size
    refine hK.out _ _ ⟨hGa, nBa⟩ (fun hHeld => ?_)
    clear hK K
    refine wpAnyH_ready (rs := [4, 8]) (by kernel_rfl) (by simp) ?_
    refine AllReadyH.cons rfl (fun K hK => ?_) (AllReadyH.cons rfl (fun K hK => ?_) AllReadyH.nil)
    · have s0 := HSc.out _ hSa
      go_simp
      refine hK.out _ _ ⟨hGa, nBa⟩ (fun hHeld => ?_)
      clear hK K s0
      refine rdH 8 (fun K hK => ?_)
      have alb : Below wa.heap.size wa (wa.alloc (.cells #[.int .i64 (o.kind : Int), .string o.key, .string o.val, .int .i64 o.n, .int .i64 o.m, .slice ao o.picks.length co] 37)) := (Below.refl _ _).alloc (Nat.le_refl _) _
      have hSb := hSa.below alb
      have nBb := (alb.block gb (Array.getElem?_eq_some_iff.1 nBa).1).trans nBa
      have hGb := (alb.block g (Array.getElem?_eq_some_iff.1 hGa).1).trans hGa
      go_simp
      refine hK.out _ _ ⟨hGb, nBb⟩ (fun hHeld => ?_)
      clear hK K
      refine rdH 9 (fun K hK => ?_)
      have owa := hSa.ops.row
      rw [hlen.out] at owa
      refine step_append_lies _ rfl (.tmp 9) (.tmp 13) 22 rfl base 37 i37 (.agg #[.int .i64 0, .string ⟨#[]⟩, .string ⟨#[]⟩, .int .i64 0, .int .i64 0, .slice none 0 0]) 6 80 Tryz.underlying22 hi37 hz0 hz1 hz2 rfl (by decide) (.slice a j c) j (flatE es) rfl (owa.alloc _) ⟨wa.heap.size, 0, none⟩ 1 1 (opL (o, ao, co)) rfl rfl (World.news_of_block (heap_alloc_new wa _)) (by simp [opL, Value.oneCell']) (by decide) (by unfold maxLen; omega) (by omega) (by simp; omega) (wa.heap.size + 1) (by simp) ?_
      intro g6 c6 w6 hown6 hgrow6 _ _
      have nA6 := (grown_at owa hgrow6 hSa.blk (by decide)).trans hSa.blk
      have nB6 := (grown_at owa hgrow6 nBa (by decide)).trans nBa
      have hG6 := (grown_at owa hgrow6 hGa (by decide)).trans hGa
      have s0 : w6.cell? ⟨gs, 2, none⟩ = some (.slice a j c) := by have := Lib.cell_of_heap nA6 2; rw [hlen.out] at this; exact this
      have ff : ∀ f, w6.frozen? ⟨gs, f, none⟩ = false := fun f => by rw [World.frozen?, nA6]; rfl
      refine hK.out _ _ ⟨hG6, nB6⟩ (fun hHeld => ?_)
      clear hK K
      refine tkI 10 ?_
      simp only [Act.put, zq]
      refine tkI 11 ?_
      simp only [Act.put, zq]
      refine rdH 12 (fun K hK => ?_)
      have n7 := heap_setCell_same _ gs 2 _ 24 (.slice (some ⟨g6, 0, none⟩) (j + 1) c6) nA6
      have nB7 := (Below.heap_setCell w6 ⟨gs, 2, none⟩ (.slice (some ⟨g6, 0, none⟩) (j + 1) c6) gb (ne_of_type nB6 nA6 (by decide))).trans nB6
      have hG7 := (Below.heap_setCell w6 ⟨gs, 2, none⟩ (.slice (some ⟨g6, 0, none⟩) (j + 1) c6) g (ne_of_type hG6 nA6 (by decide))).trans hG6
      have hlq : (es ++ [((o, ao, co) : OE)]).length = j + 1 := by rw [List.length_append, hlen.out]; rfl
      have hm := OpsAt.more (e := (o, ao, co)) (mid := mid) hSa.ops hmid hpka hbm (by rw [hlen.out]; exact hown6) (by rw [hlen.out]; exact hgrow6)
      have hS7 : ScAt base gs wd cap (es ++ [(o, ao, co)]) (some ⟨g6, 0, none⟩) c6 (w6.setCell ⟨gs, 2, none⟩ (.slice (some ⟨g6, 0, none⟩) (j + 1) c6)) := ⟨by rw [hlq]; exact n7, ops_setc hm nA6⟩
      have hb7 : Kp base gs w (w6.setCell ⟨gs, 2, none⟩ (.slice (some ⟨g6, 0, none⟩) (j + 1) c6)) := Kp.set ((bwa.alloc hbaz _).grown hgrow6 (by simp; omega) (fun q hq => (ownG_cells owa hq).1)) 2 _
      go_simp
      refine hK.out _ _ ⟨hG7, nB7⟩ (fun hHeld => ?_)
      clear hK K
      refine wpAnyH_done (by kernel_rfl) ?_ _
      refine Great.bodyPost_end0 rfl rfl ?_
      rw [← hRo.out]
      exact ⟨rfl, ⟨_, c6, hS7⟩, hb7⟩
    · have alb : Below wa.heap.size wa (wa.alloc (.cells #[.int .i64 (o.kind : Int), .string o.key, .string o.val, .int .i64 o.n, .int .i64 o.m, .slice ao o.picks.length co] 37)) := (Below.refl _ _).alloc (Nat.le_refl _) _
      have hSb := hSa.below alb
      have nBb := (alb.block gb (Array.getElem?_eq_some_iff.1 nBa).1).trans nBa
      have hGb := (alb.block g (Array.getElem?_eq_some_iff.1 hGa).1).trans hGa
      go_simp
      refine hK.out _ _ ⟨hGb, nBb⟩ (fun hHeld => ?_)
      clear hK K
      refine rdH 4 (fun K hK => ?_)
      have s0 := HSc.out _ hSb
      go_simp
      refine hK.out _ _ ⟨hGb, nBb⟩ (fun hHeld => ?_)
      clear hK K s0
      refine rdH 9 (fun K hK => ?_)
      have owa := hSa.ops.row
      rw [hlen.out] at owa
      refine step_append_lies _ rfl (.tmp 9) (.tmp 13) 22 rfl base 37 i37 (.agg #[.int .i64 0, .string ⟨#[]⟩, .string ⟨#[]⟩, .int .i64 0, .int .i64 0, .slice none 0 0]) 6 80 Tryz.underlying22 hi37 hz0 hz1 hz2 rfl (by decide) (.slice a j c) j (flatE es) rfl (owa.alloc _) ⟨wa.heap.size, 0, none⟩ 1 1 (opL (o, ao, co)) rfl rfl (World.news_of_block (heap_alloc_new wa _)) (by simp [opL, Value.oneCell']) (by decide) (by unfold maxLen; omega) (by omega) (by simp; omega) (wa.heap.size + 1) (by simp) ?_
      intro g6 c6 w6 hown6 hgrow6 _ _
      have nA6 := (grown_at owa hgrow6 hSa.blk (by decide)).trans hSa.blk
      have nB6 := (grown_at owa hgrow6 nBa (by decide)).trans nBa
      have hG6 := (grown_at owa hgrow6 hGa (by decide)).trans hGa
      have s0 : w6.cell? ⟨gs, 2, none⟩ = some (.slice a j c) := by have := Lib.cell_of_heap nA6 2; rw [hlen.out] at this; exact this
      have ff : ∀ f, w6.frozen? ⟨gs, f, none⟩ = false := fun f => by rw [World.frozen?, nA6]; rfl
      refine hK.out _ _ ⟨hG6, nB6⟩ (fun hHeld => ?_)
      clear hK K
      refine tkI 10 ?_
      simp only [Act.put, zq]
      refine tkI 11 ?_
      simp only [Act.put, zq]
      refine rdH 12 (fun K hK => ?_)
      have n7 := heap_setCell_same _ gs 2 _ 24 (.slice (some ⟨g6, 0, none⟩) (j + 1) c6) nA6
      have nB7 := (Below.heap_setCell w6 ⟨gs, 2, none⟩ (.slice (some ⟨g6, 0, none⟩) (j + 1) c6) gb (ne_of_type nB6 nA6 (by decide))).trans nB6
      have hG7 := (Below.heap_setCell w6 ⟨gs, 2, none⟩ (.slice (some ⟨g6, 0, none⟩) (j + 1) c6) g (ne_of_type hG6 nA6 (by decide))).trans hG6
      have hlq : (es ++ [((o, ao, co) : OE)]).length = j + 1 := by rw [List.length_append, hlen.out]; rfl
      have hm := OpsAt.more (e := (o, ao, co)) (mid := mid) hSa.ops hmid hpka hbm (by rw [hlen.out]; exact hown6) (by rw [hlen.out]; exact hgrow6)
      have hS7 : ScAt base gs wd cap (es ++ [(o, ao, co)]) (some ⟨g6, 0, none⟩) c6 (w6.setCell ⟨gs, 2, none⟩ (.slice (some ⟨g6, 0, none⟩) (j + 1) c6)) := ⟨by rw [hlq]; exact n7, ops_setc hm nA6⟩
      have hb7 : Kp base gs w (w6.setCell ⟨gs, 2, none⟩ (.slice (some ⟨g6, 0, none⟩) (j + 1) c6)) := Kp.set ((bwa.alloc hbaz _).grown hgrow6 (by simp; omega) (fun q hq => (ownG_cells owa hq).1)) 2 _
      go_simp
      refine hK.out _ _ ⟨hG7, nB7⟩ (fun hHeld => ?_)
      clear hK K
      refine wpAnyH_done (by kernel_rfl) ?_ _
      refine Great.bodyPost_end0 rfl rfl ?_
      rw [← hRo.out]
      exact ⟨rfl, ⟨_, c6, hS7⟩, hb7⟩
end Go.Proofs.YthklibioolnggaaGreatDoor
