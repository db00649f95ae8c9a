import Derived.Test.YthklibioolnggaaGreatDoorAo
namespace Go.Proofs.YthklibioolnggaaGreatDoor
open Go.RowKit Go.Proofs.Sha

theorem clone_any (s : ByteArray) (w : World) (hs : s.size ≤ 1048576) : Calls Tryz.prog 75 #[.string s] w fun e w' => e = .returned (.string s) ∧ Below w.heap.size w w' := by
  have H := fun W => Tryz.stringslite_Clone s W (by omega)
  go_enter Tryz.func75, Tryz.ntmps75
  go_wp2_with (first | (go_at_call 86; refine (H _).mono ?_; rintro e w1 ⟨rfl, hb1⟩))
  go_ret
  exact ⟨rfl, hb1⟩
theorem mean_any (s : ByteArray) (w : World) (hs : s.size ≤ 1048576) : Calls Tryz.prog 62 #[.string s] w fun e w' => e = .returned (.string (meanW s)) ∧ Below w.heap.size w w' := by
  have H := fun W => clone_any s W hs
  by_cases h : s.data.toList = [95]
  · have e0 : (s.toList == [95]) = true := by rw [tl_eq, h]; rfl
    have e1 : Hid (meanW s = ⟨#[]⟩) := by show _ = _; rw [meanW, if_pos h]
    clear h
    go_enter Tryz.func62, Tryz.ntmps62
    go_wp2_with fail
    go_ret
    exact ⟨by rw [e1.out]; rfl, Below.refl _ _⟩
  · have e0 : (s.toList == [95]) = false := by rw [tl_eq, beq_eq_false_iff_ne]; exact h
    have e1 : Hid (meanW s = s) := by show _ = _; rw [meanW, if_neg h]
    clear h
    go_enter Tryz.func62, Tryz.ntmps62
    go_wp2_with (first | (go_at_call 75; refine (H _).mono ?_; rintro e w1 ⟨rfl, hb1⟩))
    go_ret
    exact ⟨by rw [e1.out]; rfl, hb1⟩

/-- The parts of a line, as they are read. -/
structure PtAt (base gp : Nat) (ws : List ByteArray) (ns : List Int) (aw : Option Addr) (cw : Nat) (an : Option Addr) (cn : Nat) (W : World) : Prop where
  blk : W.heap[gp]? = some (.cells #[.slice aw ws.length cw, .slice an ns.length cn] 55)
  ow : W.ownsRow base 9 1 (.slice aw ws.length cw) ws.length (ws.map Value.string)
  on : W.ownsRow base 3 1 (.slice an ns.length cn) ns.length (ns.map I)
theorem PtAt.below {base gp : Nat} {ws : List ByteArray} {ns : List Int} {aw : Option Addr} {cw : Nat} {an : Option Addr} {cn : Nat} {W W' : World} (h : PtAt base gp ws ns aw cw an cn W) (hb : Below W.heap.size W W') : PtAt base gp ws ns aw cw an cn W' :=
  ⟨(hb.block gp (Array.getElem?_eq_some_iff.1 h.blk).1).trans h.blk, ownG_kept h.ow (fun q _ hq => hb.block q hq), ownG_kept h.on (fun q _ hq => hb.block q hq)⟩
/-- What add leaves. -/
def AddPost (base gp : Nat) (ws : List ByteArray) (ns : List Int) (b : Bool) (w : World) (e : Ending) (w' : World) : Prop := ∃ aw cw an cn, e = .returned (.bool b) ∧ PtAt base gp ws ns aw cw an cn w' ∧ Below base w w'

set_option maxRecDepth 100000 in
set_option maxHeartbeats 1000000 in
theorem add_num (base gp : Nat) (c : UInt8) (hc : c ≠ 119) (t : ByteArray) (ht : t.size ≤ 1048576) (ws : List ByteArray) (ns : List Int) (aw : Option Addr) (cw : Nat) (an : Option Addr) (cn : Nat) (w : World) (hE : Env w) (hP : PtAt base gp ws ns aw cw an cn w) (hb : base ≤ w.heap.size) (hg : base ≤ gp) (hn : ns.length ≤ 1048576) :
    Calls Tryz.prog 49 #[.pointer (some ⟨gp, 0, none⟩), .int .u8 (c.toNat : Int), .string t] w (AddPost base gp ws (ns ++ [(numI t.data.toList).1]) (okT c t) w) := by
  obtain ⟨i3, hi3, hy0, hy1, hy2⟩ := info_parts2 info3
  have e0 : ((c.toNat : Int) == 119) = false := by
    rw [beq_eq_false_iff_ne]
    intro h
    have h2 : c.toNat = 119 := by omega
    exact hc (UInt8.toNat_inj.1 h2)
  rw [okT_num c t hc]
  have HN : Hid (∀ W, Env W → Calls Tryz.prog 64 #[.string t] W fun e w' => e = .returned (.tuple #[.int .i64 (numI t.data.toList).1, .bool (numI t.data.toList).2]) ∧ Below W.heap.size W w') := fun W hW => number_any t W hW ht
  generalize numI t.data.toList = r at HN
  obtain ⟨r1, r2⟩ := r
  simp only at HN ⊢
  have HF : Hid (∀ W, Calls Tryz.prog 65 #[.int .u8 (c.toNat : Int), .int .i64 r1] W fun e w' => e = .returned (.bool (fitV c r1)) ∧ w' = W) := fun W => fits_any c r1 W
  generalize fitV c r1 = fv at HF
  obtain ⟨R, hR⟩ : ∃ R, AddPost base gp ws (ns ++ [r1]) (r2 && fv) w = R := ⟨_, rfl⟩
  have hRo : Hid (AddPost base gp ws (ns ++ [r1]) (r2 && fv) w = R) := hR
  rw [hR]
  obtain ⟨q, hq⟩ : ∃ q, ns.length = q := ⟨_, rfl⟩
  have hqo : Hid (ns.length = q) := hq
  obtain ⟨p, hp⟩ : ∃ p, ws.length = p := ⟨_, rfl⟩
  have hpo : Hid (ws.length = p) := hp
  rw [hq] at hn
  clear hR hq hp hc
  go_enter Tryz.func49, Tryz.ntmps49
  go_upto_region 5 with (first | (go_at_call 64; refine (HN.out _ hE).mono ?_; rintro e w1 ⟨rfl, hb1⟩))
  have hP1 := hP.below hb1
  have nb := hP1.blk
  have on1 := hP1.on
  rw [hqo.out, hpo.out] at nb
  rw [hqo.out] at on1
  have c0 := Lib.cell_of_heap nb 0
  have c1 := Lib.cell_of_heap nb 1
  have hbs := Nat.le_trans hb hb1.size
  have hfz : Hid (∀ (W : World), W.heap[gp]? = some (.cells #[.slice aw p cw, .slice an q cn] 55) → W.cell? ⟨gp, 1, none⟩ = some (.slice an q cn) ∧ ∀ f, W.frozen? ⟨gp, f, none⟩ = false) := fun W hW => ⟨Lib.cell_of_heap hW 1, fun f => by rw [World.frozen?, hW]; rfl⟩
  go_upto_region 6 with (at_builtin; refine wpList_append_lies _ rfl (.tmp 33) (.tmp 35) 35 rfl base 3 i3 (.int .i64 0) 1 8 Tryz.underlying35 hi3 hy0 hy1 hy2 rfl (by decide) (.slice an q cn) q (ns.map I) rfl (on1.alloc _) ⟨w1.heap.size, 0, none⟩ 1 1 [.int .i64 r1] rfl rfl (World.news_of_block (heap_alloc_new w1 _)) (by simp [Value.oneCell']) (by decide) (by unfold maxLen; omega) (by omega) (by simp; omega) (w1.heap.size + 1) (by simp) ?_; intro g6 c6 w6 hown6 hgrow6 hat6 hlt6; have nA6 := (grown_at on1 hgrow6 nb (by decide)).trans nb; have ce2 := (hfz.out _ nA6).1; have ff := (hfz.out _ nA6).2)
  have n7 := heap_setCell_same _ gp 1 _ 55 (.slice (some ⟨g6, 0, none⟩) (q + 1) c6) nA6
  have hlq : (ns ++ [r1]).length = q + 1 := by rw [List.length_append, hqo.out]; rfl
  have hP7 : PtAt base gp ws (ns ++ [r1]) aw cw (some ⟨g6, 0, none⟩) c6 (w6.setCell ⟨gp, 1, none⟩ (.slice (some ⟨g6, 0, none⟩) (q + 1) c6)) := by
    refine ⟨by rw [hlq, hpo.out]; exact n7, own_setc (ownG_kept hP1.ow (fun g hv _ => by obtain ⟨_, _, cur, h4⟩ := ownG_cells hP1.ow hv; exact grown_at on1 hgrow6 h4 (by decide))) nA6 (by decide), ?_⟩
    rw [hlq, List.map_append]
    exact own_setc hown6 nA6 (by decide)
  have hb7 : Below base w (w6.setCell ⟨gp, 1, none⟩ (.slice (some ⟨g6, 0, none⟩) (q + 1) c6)) := ((((hb1.mono hb).alloc hbs _).grown hgrow6 (by simp; omega) (fun q hq => (ownG_cells on1 hq).1)).setCell (p := ⟨gp, 1, none⟩) hg _)
  generalize w6.setCell ⟨gp, 1, none⟩ (.slice (some ⟨g6, 0, none⟩) (q + 1) c6) = w7 at hP7 hb7 ⊢
  clear n7 nA6 hgrow6 hown6 ce2 ff c0 c1 nb on1 hP1 hfz
  cases r2 with
  | false =>
    go_wp2_with fail
    rw [← hRo.out]
    exact ⟨aw, cw, _, c6, rfl, hP7, hb7⟩
  | true =>
    go_wp2_with (first | (go_at_call 65; refine (HF.out _).mono ?_; rintro e w8 ⟨rfl, rfl⟩))
    rw [← hRo.out]
    exact ⟨aw, cw, _, c6, by rw [Bool.true_and]; rfl, hP7, hb7⟩

set_option maxRecDepth 100000 in
set_option maxHeartbeats 1000000 in
theorem add_word (base gp : Nat) (t : ByteArray) (ht : t.size ≤ 1048576) (ws : List ByteArray) (ns : List Int) (aw : Option Addr) (cw : Nat) (an : Option Addr) (cn : Nat) (w : World) (hP : PtAt base gp ws ns aw cw an cn w) (hb : base ≤ w.heap.size) (hg : base ≤ gp) (hn : ws.length ≤ 1048576) :
    Calls Tryz.prog 49 #[.pointer (some ⟨gp, 0, none⟩), .int .u8 119, .string t] w (AddPost base gp (ws ++ [meanW t]) ns (isW t) w) := by
  obtain ⟨i9, hi9, hz0, hz1, hz2⟩ := info_parts2 info9
  have HM : Hid (∀ W, Calls Tryz.prog 62 #[.string t] W fun e w' => e = .returned (.string (meanW t)) ∧ Below W.heap.size W w') := fun W => mean_any t W ht
  have HW : Hid (∀ W, Calls Tryz.prog 63 #[.string t] W fun e w' => e = .returned (.bool (isW t)) ∧ ∃ m, w' = W.drewN m) := fun W => isWord_any t W ht
  generalize meanW t = mt at HM
  generalize isW t = iw at HW
  obtain ⟨R, hR⟩ : ∃ R, AddPost base gp (ws ++ [mt]) ns iw w = R := ⟨_, rfl⟩
  have hRo : Hid (AddPost base gp (ws ++ [mt]) ns iw w = R) := hR
  rw [hR]
  obtain ⟨q, hq⟩ : ∃ q, ns.length = q := ⟨_, rfl⟩
  have hqo : Hid (ns.length = q) := hq
  obtain ⟨p, hp⟩ : ∃ p, ws.length = p := ⟨_, rfl⟩
  have hpo : Hid (ws.length = p) := hp
  rw [hp] at hn
  clear hR hq hp
  have HSn : Hid (∀ W, PtAt base gp ws ns aw cw an cn W → W.cell? ⟨gp, 1, none⟩ = some (.slice an q cn)) := fun W hW => by
    have := Lib.cell_of_heap hW.blk 1
    rw [hqo.out] at this
    exact this
  have HS0 : Hid (∀ W, PtAt base gp ws ns aw cw an cn W → W.cell? ⟨gp, 0, none⟩ = some (.slice aw p cw)) := fun W hW => by
    have := Lib.cell_of_heap hW.blk 0
    rw [hpo.out] at this
    exact this
  have hdw : Below w.heap.size w w.drew := (Below.refl _ _).drew
  go_enter Tryz.func49, Tryz.ntmps49
  go_upto_region 2 with fail
  have hPq := hP.below hdw
  have hbq : base ≤ w.drew.heap.size := hb
  have bwq : Below base w w.drew := hdw.mono hb
  refine wp_region_held_drew (S := fun W => W.cell? ⟨gp, 1, none⟩ = some (.slice an q cn)) (by kernel_rfl) (HSn.out _ hPq) (fun hHeld => ?_)
  generalize w.drew = wq at hPq hbq bwq hHeld ⊢
  clear hdw
  refine tkI 0 ?_
  simp only [Act.put, zq]
  refine tkI 1 ?_
  simp only [Act.put, zq]
  refine tkI 2 ?_
  simp only [Act.put, zq]
  refine tkI 3 ?_
  simp only [Act.put, zq]
  refine tkI 5 ?_
  simp only [Act.put, zq]
  refine wpAnyH_ready (rs := [4, 6]) (by kernel_rfl) (by simp) ?_
  refine AllReadyH.cons rfl (fun K hK => ?_) (AllReadyH.cons rfl (fun K hK => ?_) AllReadyH.nil)
  · have s0 := HS0.out _ hPq
    go_simp
    refine hK.out _ _ (HSn.out _ hPq) (fun hHeld => ?_)
    clear hK K s0
    refine rdH 6 (fun K hK => ?_)
    go_simp
    refine (HM.out _).mono ?_
    rintro e wa ⟨rfl, hba⟩
    have hPa := hPq.below hba
    have bwa : Below base w wa := bwq.trans (hba.mono hbq)
    have hbaz := Nat.le_trans hbq hba.size
    refine hK.out _ _ (HSn.out _ hPa) (fun hHeld => ?_)
    clear hK K
    refine rdH 7 (fun K hK => ?_)
    have alb : Below wa.heap.size wa (wa.alloc (.cells #[.string mt] 9)) := (Below.refl _ _).alloc (Nat.le_refl _) _
    have hPb := hPa.below alb
    go_simp
    refine hK.out _ _ (HSn.out _ hPb) (fun hHeld => ?_)
    clear hK K
    refine rdH 8 (fun K hK => ?_)
    have owa := hPa.ow
    rw [hpo.out] at owa
    refine step_append_lies _ rfl (.tmp 15) (.tmp 18) 30 rfl base 9 i9 (.string ⟨#[]⟩) 1 16 Tryz.underlying30 hi9 hz0 hz1 hz2 rfl (by decide) (.slice aw p cw) p (ws.map Value.string) rfl (owa.alloc _) ⟨wa.heap.size, 0, none⟩ 1 1 [.string mt] rfl rfl (World.news_of_block (heap_alloc_new wa _)) (by simp [Value.oneCell']) (by decide) (by unfold maxLen; omega) (by omega) (by simp; omega) (wa.heap.size + 1) (by simp) ?_
    intro g6 c6 w6 hown6 hgrow6 _ _
    have nA6 := (grown_at owa hgrow6 hPa.blk (by decide)).trans hPa.blk
    have on6 := ownG_kept hPa.on (fun g hv _ => by obtain ⟨_, _, cur, h4⟩ := ownG_cells hPa.on hv; exact grown_at owa hgrow6 h4 (by decide))
    have s1 : w6.cell? ⟨gp, 1, none⟩ = some (.slice an q cn) := by have := Lib.cell_of_heap nA6 1; rw [hqo.out] at this; exact this
    have s0 : w6.cell? ⟨gp, 0, none⟩ = some (.slice aw p cw) := by have := Lib.cell_of_heap nA6 0; rw [hpo.out] at this; exact this
    have ff : ∀ f, w6.frozen? ⟨gp, f, none⟩ = false := fun f => by rw [World.frozen?, nA6]; rfl
    refine hK.out _ _ s1 (fun hHeld => ?_)
    clear hK K
    refine tkI 9 ?_
    simp only [Act.put, zq]
    refine tkI 10 ?_
    simp only [Act.put, zq]
    refine rdH 11 (fun K hK => ?_)
    have n7 := heap_setCell_same _ gp 0 _ 55 (.slice (some ⟨g6, 0, none⟩) (p + 1) c6) nA6
    have s1' : (w6.setCell ⟨gp, 0, none⟩ (.slice (some ⟨g6, 0, none⟩) (p + 1) c6)).cell? ⟨gp, 1, none⟩ = some (.slice an q cn) := by have := Lib.cell_of_heap n7 1; rw [hqo.out] at this; exact this
    have hlq : (ws ++ [mt]).length = p + 1 := by rw [List.length_append, hpo.out]; rfl
    have hP7 : PtAt base gp (ws ++ [mt]) ns (some ⟨g6, 0, none⟩) c6 an cn (w6.setCell ⟨gp, 0, none⟩ (.slice (some ⟨g6, 0, none⟩) (p + 1) c6)) := by
      refine ⟨by rw [hlq]; exact n7, ?_, own_setc on6 nA6 (by decide)⟩
      rw [hlq, List.map_append]
      exact own_setc hown6 nA6 (by decide)
    have hb7 : Below base w (w6.setCell ⟨gp, 0, none⟩ (.slice (some ⟨g6, 0, none⟩) (p + 1) c6)) := (((bwa.alloc hbaz _).grown hgrow6 (by simp; omega) (fun q hq => (ownG_cells owa hq).1)).setCell (p := ⟨gp, 0, none⟩) hg _)
    go_simp
    refine hK.out _ _ s1' (fun hHeld => ?_)
    clear hK K
    refine wpAnyH_done (by kernel_rfl) ?_ _
    generalize w6.setCell ⟨gp, 0, none⟩ (.slice (some ⟨g6, 0, none⟩) (p + 1) c6) = w7 at hP7 hb7 ⊢
    go_wp2_with (first | (go_at_call 63; refine (HW.out _).mono ?_; rintro e w8 ⟨rfl, m8, hw8⟩))
    rw [← hRo.out]
    exact ⟨_, c6, an, cn, rfl, hP7.below (dN (Below.refl _ _) _), dN hb7 _⟩
  · go_simp
    refine (HM.out _).mono ?_
    rintro e wa ⟨rfl, hba⟩
    have hPa := hPq.below hba
    have bwa : Below base w wa := bwq.trans (hba.mono hbq)
    have hbaz := Nat.le_trans hbq hba.size
    refine hK.out _ _ (HSn.out _ hPa) (fun hHeld => ?_)
    clear hK K
    refine wpAnyH_ready (rs := [4, 7]) (by kernel_rfl) (by simp) ?_
    refine AllReadyH.cons rfl (fun K hK => ?_) (AllReadyH.cons rfl (fun K hK => ?_) AllReadyH.nil)
    · have s0 := HS0.out _ hPa
      go_simp
      refine hK.out _ _ (HSn.out _ hPa) (fun hHeld => ?_)
      clear hK K s0
      refine rdH 7 (fun K hK => ?_)
      have alb : Below wa.heap.size wa (wa.alloc (.cells #[.string mt] 9)) := (Below.refl _ _).alloc (Nat.le_refl _) _
      have hPb := hPa.below alb
      go_simp
      refine hK.out _ _ (HSn.out _ hPb) (fun hHeld => ?_)
      clear hK K
      refine rdH 8 (fun K hK => ?_)
      have owa := hPa.ow
      rw [hpo.out] at owa
      refine step_append_lies _ rfl (.tmp 15) (.tmp 18) 30 rfl base 9 i9 (.string ⟨#[]⟩) 1 16 Tryz.underlying30 hi9 hz0 hz1 hz2 rfl (by decide) (.slice aw p cw) p (ws.map Value.string) rfl (owa.alloc _) ⟨wa.heap.size, 0, none⟩ 1 1 [.string mt] rfl rfl (World.news_of_block (heap_alloc_new wa _)) (by simp [Value.oneCell']) (by decide) (by unfold maxLen; omega) (by omega) (by simp; omega) (wa.heap.size + 1) (by simp) ?_
      intro g6 c6 w6 hown6 hgrow6 _ _
      have nA6 := (grown_at owa hgrow6 hPa.blk (by decide)).trans hPa.blk
      have on6 := ownG_kept hPa.on (fun g hv _ => by obtain ⟨_, _, cur, h4⟩ := ownG_cells hPa.on hv; exact grown_at owa hgrow6 h4 (by decide))
      have s1 : w6.cell? ⟨gp, 1, none⟩ = some (.slice an q cn) := by have := Lib.cell_of_heap nA6 1; rw [hqo.out] at this; exact this
      have s0 : w6.cell? ⟨gp, 0, none⟩ = some (.slice aw p cw) := by have := Lib.cell_of_heap nA6 0; rw [hpo.out] at this; exact this
      have ff : ∀ f, w6.frozen? ⟨gp, f, none⟩ = false := fun f => by rw [World.frozen?, nA6]; rfl
      refine hK.out _ _ s1 (fun hHeld => ?_)
      clear hK K
      refine tkI 9 ?_
      simp only [Act.put, zq]
      refine tkI 10 ?_
      simp only [Act.put, zq]
      refine rdH 11 (fun K hK => ?_)
      have n7 := heap_setCell_same _ gp 0 _ 55 (.slice (some ⟨g6, 0, none⟩) (p + 1) c6) nA6
      have s1' : (w6.setCell ⟨gp, 0, none⟩ (.slice (some ⟨g6, 0, none⟩) (p + 1) c6)).cell? ⟨gp, 1, none⟩ = some (.slice an q cn) := by have := Lib.cell_of_heap n7 1; rw [hqo.out] at this; exact this
      have hlq : (ws ++ [mt]).length = p + 1 := by rw [List.length_append, hpo.out]; rfl
      have hP7 : PtAt base gp (ws ++ [mt]) ns (some ⟨g6, 0, none⟩) c6 an cn (w6.setCell ⟨gp, 0, none⟩ (.slice (some ⟨g6, 0, none⟩) (p + 1) c6)) := by
        refine ⟨by rw [hlq]; exact n7, ?_, own_setc on6 nA6 (by decide)⟩
        rw [hlq, List.map_append]
        exact own_setc hown6 nA6 (by decide)
      have hb7 : Below base w (w6.setCell ⟨gp, 0, none⟩ (.slice (some ⟨g6, 0, none⟩) (p + 1) c6)) := (((bwa.alloc hbaz _).grown hgrow6 (by simp; omega) (fun q hq => (ownG_cells owa hq).1)).setCell (p := ⟨gp, 0, none⟩) hg _)
      go_simp
      refine hK.out _ _ s1' (fun hHeld => ?_)
      clear hK K
      refine wpAnyH_done (by kernel_rfl) ?_ _
      generalize w6.setCell ⟨gp, 0, none⟩ (.slice (some ⟨g6, 0, none⟩) (p + 1) c6) = w7 at hP7 hb7 ⊢
      go_wp2_with (first | (go_at_call 63; refine (HW.out _).mono ?_; rintro e w8 ⟨rfl, m8, hw8⟩))
      rw [← hRo.out]
      exact ⟨_, c6, an, cn, rfl, hP7.below (dN (Below.refl _ _) _), dN hb7 _⟩
    · have alb : Below wa.heap.size wa (wa.alloc (.cells #[.string mt] 9)) := (Below.refl _ _).alloc (Nat.le_refl _) _
      have hPb := hPa.below alb
      go_simp
      refine hK.out _ _ (HSn.out _ hPb) (fun hHeld => ?_)
      clear hK K
      refine rdH 4 (fun K hK => ?_)
      have s0 := HS0.out _ hPb
      go_simp
      refine hK.out _ _ (HSn.out _ hPb) (fun hHeld => ?_)
      clear hK K s0
      refine rdH 8 (fun K hK => ?_)
      have owa := hPa.ow
      rw [hpo.out] at owa
      refine step_append_lies _ rfl (.tmp 15) (.tmp 18) 30 rfl base 9 i9 (.string ⟨#[]⟩) 1 16 Tryz.underlying30 hi9 hz0 hz1 hz2 rfl (by decide) (.slice aw p cw) p (ws.map Value.string) rfl (owa.alloc _) ⟨wa.heap.size, 0, none⟩ 1 1 [.string mt] rfl rfl (World.news_of_block (heap_alloc_new wa _)) (by simp [Value.oneCell']) (by decide) (by unfold maxLen; omega) (by omega) (by simp; omega) (wa.heap.size + 1) (by simp) ?_
      intro g6 c6 w6 hown6 hgrow6 _ _
      have nA6 := (grown_at owa hgrow6 hPa.blk (by decide)).trans hPa.blk
      have on6 := ownG_kept hPa.on (fun g hv _ => by obtain ⟨_, _, cur, h4⟩ := ownG_cells hPa.on hv; exact grown_at owa hgrow6 h4 (by decide))
      have s1 : w6.cell? ⟨gp, 1, none⟩ = some (.slice an q cn) := by have := Lib.cell_of_heap nA6 1; rw [hqo.out] at this; exact this
      have s0 : w6.cell? ⟨gp, 0, none⟩ = some (.slice aw p cw) := by have := Lib.cell_of_heap nA6 0; rw [hpo.out] at this; exact this
      have ff : ∀ f, w6.frozen? ⟨gp, f, none⟩ = false := fun f => by rw [World.frozen?, nA6]; rfl
      refine hK.out _ _ s1 (fun hHeld => ?_)
      clear hK K
      refine tkI 9 ?_
      simp only [Act.put, zq]
      refine tkI 10 ?_
      simp only [Act.put, zq]
      refine rdH 11 (fun K hK => ?_)
      have n7 := heap_setCell_same _ gp 0 _ 55 (.slice (some ⟨g6, 0, none⟩) (p + 1) c6) nA6
      have s1' : (w6.setCell ⟨gp, 0, none⟩ (.slice (some ⟨g6, 0, none⟩) (p + 1) c6)).cell? ⟨gp, 1, none⟩ = some (.slice an q cn) := by have := Lib.cell_of_heap n7 1; rw [hqo.out] at this; exact this
      have hlq : (ws ++ [mt]).length = p + 1 := by rw [List.length_append, hpo.out]; rfl
      have hP7 : PtAt base gp (ws ++ [mt]) ns (some ⟨g6, 0, none⟩) c6 an cn (w6.setCell ⟨gp, 0, none⟩ (.slice (some ⟨g6, 0, none⟩) (p + 1) c6)) := by
        refine ⟨by rw [hlq]; exact n7, ?_, own_setc on6 nA6 (by decide)⟩
        rw [hlq, List.map_append]
        exact own_setc hown6 nA6 (by decide)
      have hb7 : Below base w (w6.setCell ⟨gp, 0, none⟩ (.slice (some ⟨g6, 0, none⟩) (p + 1) c6)) := (((bwa.alloc hbaz _).grown hgrow6 (by simp; omega) (fun q hq => (ownG_cells owa hq).1)).setCell (p := ⟨gp, 0, none⟩) hg _)
      go_simp
      refine hK.out _ _ s1' (fun hHeld => ?_)
      clear hK K
      refine wpAnyH_done (by kernel_rfl) ?_ _
      generalize w6.setCell ⟨gp, 0, none⟩ (.slice (some ⟨g6, 0, none⟩) (p + 1) c6) = w7 at hP7 hb7 ⊢
      go_wp2_with (first | (go_at_call 63; refine (HW.out _).mono ?_; rintro e w8 ⟨rfl, m8, hw8⟩))
      rw [← hRo.out]
      exact ⟨_, c6, an, cn, rfl, hP7.below (dN (Below.refl _ _) _), dN hb7 _⟩
end Go.Proofs.YthklibioolnggaaGreatDoor
