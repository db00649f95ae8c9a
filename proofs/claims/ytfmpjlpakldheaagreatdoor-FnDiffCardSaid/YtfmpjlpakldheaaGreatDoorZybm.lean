import Derived.Test.YtfmpjlpakldheaaGreatDoorZybl
import Derived.Test.YtfmpjlpakldheaaGreatDoorZybh
namespace Go.Proofs.YtfmpjlpakldheaaGreatDoor
open Go.RowKit Go.Proofs.Sha

theorem HS.seti {fz : Nat → Option Obj} {ex : Option Nat} {w0 : World} {gp g wd : Nat} {ss ys roots : List ByteArray} {ap : Option Addr} {cp : Nat} {b co : Nat} {ar : Option Addr} {cr : Nat} {W : World} (h : HS fz ex w0 gp g wd ss ys roots ap cp (some ⟨b, 0, none⟩) co ar cr W) (y : Nat) (t : ByteArray) : HS fz ex w0 gp g wd ss (ys.set y t) roots ap cp (some ⟨b, 0, none⟩) co ar cr (W.setCell ⟨b, y, none⟩ (.string t)) := by
  have hl : (ys.set y t).length = ys.length := List.length_set ..
  obtain ⟨hb0, hb1, cur, hb2⟩ := ownG_cells h.oown.own (g := b) rfl
  have hne : ∀ q (cs : Array Value), W.heap[q]? = some (Obj.cells cs 37) → (W.setCell ⟨b, y, none⟩ (.string t)).heap[q]? = some (Obj.cells cs 37) := fun q cs hq => (Below.heap_setCell _ _ _ _ (by show q ≠ b; exact ne_of_type hq hb2 (by decide))).trans hq
  obtain ⟨k1, k2⟩ := h.oown.own.stored y (.string t)
  refine ⟨hne _ _ h.par, hne _ _ h.res, by rw [hl]; exact hne _ _ h.out, h.n0, h.n1, ⟨by rw [hl, List.map_set]; exact k1, h.oown.bel.setCell (p := ⟨b, y, none⟩) hb0 _, rfl⟩, ⟨ownG_kept h.rown.own (fun q hv _ => Below.heap_setCell _ _ _ _ (by show q ≠ b; intro e; subst e; exact h.dis q hv rfl)), h.rown.bel.setCell (p := ⟨b, y, none⟩) hb0 _, h.rown.len⟩, by rw [hl]; exact h.dis, fun q hq he => (Below.heap_setCell _ _ _ _ (by show q ≠ b; have := h.ob b rfl; omega)).trans (h.fr q hq he), h.rb, by rw [hl]; exact h.ob⟩
theorem HS.root {fz : Nat → Option Obj} {ex : Option Nat} {w0 : World} {gp g wd : Nat} {ss ys roots : List ByteArray} {ap : Option Addr} {cp : Nat} {ao : Option Addr} {co : Nat} {ar : Option Addr} {cr : Nat} {W : World} (h : HS fz ex w0 gp g wd ss ys roots ap cp ao co ar cr W) {w5 : World} {o : Obj} {g5 c5 : Nat} {v : ByteArray} (hown : w5.ownsRow w0.heap.size 9 1 (.slice (some ⟨g5, 0, none⟩) (roots.length + 1) c5) (roots.length + 1) (roots.map Value.string ++ [.string v])) (hgrow : (W.alloc o).grownBy w5 (Value.slice ar roots.length cr).ownBlock) (hat : (Value.slice ar roots.length cr).ownBlock = some g5 ∨ g5 = W.heap.size + 1) :
    HS fz ex w0 gp g wd ss ys (roots ++ [v]) ap cp ao co (some ⟨g5, 0, none⟩) c5 w5 := by
  have hlen : (roots ++ [v]).length = roots.length + 1 := by rw [List.length_append]; rfl
  have hblk : ∀ {q : Nat} {cs : Array Value}, W.heap[q]? = some (Obj.cells cs 37) → w5.heap[q]? = some (Obj.cells cs 37) := fun {q cs} hq => by
    have hl := (Array.getElem?_eq_some_iff.1 hq).1
    refine (hgrow.block q (by simp; omega) (fun e => ?_)).trans ((Below.heap_alloc W o q hl).trans hq)
    obtain ⟨_, _, cur, h9⟩ := ownG_cells h.rown.own e.symm
    rw [hq] at h9
    simp at h9
  have hT := h.rown.more hown hgrow rfl
  refine ⟨hblk h.par, hblk h.res, hblk h.out, h.n0, h.n1, ⟨ownG_kept h.oown.own (fun q hv hq => ?_), hT.bel, rfl⟩, by rw [hlen]; exact hT, fun b hb he => ?_, fun q hq he => ?_, fun b hb hlt => ?_, h.ob⟩
  · exact (hgrow.block q (by simp; omega) (fun e => h.dis q e.symm hv)).trans (Below.heap_alloc W o q hq)
  · have hq : g5 = b := Option.some.inj hb
    subst hq
    rcases hat with r | r
    · exact h.dis g5 r he
    · have := (ownG_cells h.oown.own he).2.1
      omega
  · have hql := (Array.getElem?_eq_some_iff.1 h.par).1
    exact (hgrow.block q (by simp; omega) (fun e => he (h.rb q e.symm hq))).trans ((Below.heap_alloc W o q (by omega)).trans (h.fr q hq he))
  · have hq : g5 = b := Option.some.inj hb
    subst hq
    rcases hat with r | r
    · exact h.rb g5 r hlt
    · have hql := (Array.getElem?_eq_some_iff.1 h.par).1
      omega
set_option maxRecDepth 100000 in
set_option maxHeartbeats 4000000 in
theorem hurt_spoil (a : Option Addr) (xs : List Nat) (cap p wd : Nat) (ss roots : List ByteArray) (x y : Nat) (_hX : Code8 xs) (_hp : p ≤ 60000) (hss : SmT ss 500 10000) (hr : SmT roots 4 32)
    (HT : ∀ w, BL a xs w → Calls Tryz.prog 41 #[.slice a xs.length cap, .int .i64 (p : Int), .int .i64 6] w fun e w' => e = .returned (.tuple #[.int .i64 (x : Int), .int .i64 ((p + 1 : Nat) : Int)]) ∧ Below w.heap.size w w') (HT2 : ∀ w, BL a xs w → Calls Tryz.prog 41 #[.slice a xs.length cap, .int .i64 ((p + 1 : Nat) : Int), .int .i64 (ss.length : Int)] w fun e w' => e = .returned (.tuple #[.int .i64 (y : Int), .int .i64 ((p + 1 + 1 : Nat) : Int)]) ∧ Below w.heap.size w w') (t : ByteArray) (ht : t.size ≤ 10001) (HSp : ∀ w, BL a xs w → Calls Tryz.prog 147 #[.slice a xs.length cap, .int .i64 ((p + 1 + 1 : Nat) : Int), .string (ss.getD y ⟨#[]⟩)] w fun e w' => e = .returned (.string t) ∧ Below w.heap.size w w') (hw1 : 1 ≤ wd) (hw2 : wd ≤ 32) (HDg : Hid DigSaid) (h0 : 0 < ss.length) (hy : y < ss.length) (hx2 : x = 2) :
    ∀ w0 w ap cp ar cr, BL a xs w0 → SArg ap ss w → OwnT w0 roots ar roots.length cr w → Calls Tryz.prog 114 #[.slice a xs.length cap, .int .i64 (p : Int), .agg #[.int .i64 (wd : Int), .slice ap ss.length cp], .slice ar roots.length cr] w (HGot (fun q => w.heap[q]?) (Value.slice ar roots.length cr).ownBlock w.heap.size wd (ss.set y t) (roots ++ [hashT wd t]) (p + 1 + 1) w0) := by
  intro w0 w ap cp ar cr hB hS hR
  obtain ⟨fz, hfz⟩ : ∃ fz : Nat → Option Obj, (fun q => w.heap[q]?) = fz := ⟨_, rfl⟩
  rw [hfz]
  have hfq : Hid (∀ q : Nat, w.heap[q]? = fz q) := fun q => congrFun hfz q
  clear hfz
  obtain ⟨ex, hex⟩ : ∃ ex, (Value.slice ar roots.length cr).ownBlock = ex := ⟨_, rfl⟩
  rw [hex]
  have hexh : Hid ((Value.slice ar roots.length cr).ownBlock = ex) := hex
  clear hex
  obtain ⟨gz, hgz⟩ : ∃ g, w.heap.size = g := ⟨_, rfl⟩
  rw [hgz]
  have hgzl : gz ≤ w.heap.size := Nat.le_of_eq hgz.symm
  clear hgz
  have HC : Hid (∀ w', Below w.heap.size w w' → Calls Tryz.prog 79 #[.agg #[.int .i64 (wd : Int), .slice ap ss.length cp]] w' fun e w'' => ∃ a' c', e = .returned (.agg #[.int .i64 (wd : Int), .slice a' ss.length c']) ∧ OwnT w' ss a' ss.length c' w'') := fun w' hb => copyPool_any (wd : Int) ap ss cp w' (hS.below hb)
  have hBw := hB.below hR.bel
  have HT' : Hid (∀ w', Below w.heap.size w w' → Calls Tryz.prog 41 #[.slice a xs.length cap, .int .i64 (p : Int), .int .i64 6] w' fun e w'' => e = .returned (.tuple #[.int .i64 (x : Int), .int .i64 ((p + 1 : Nat) : Int)]) ∧ Below w'.heap.size w' w'') := fun w' hb => HT w' (hBw.below hb)
  have HT2' : Hid (∀ w', Below w.heap.size w w' → Calls Tryz.prog 41 #[.slice a xs.length cap, .int .i64 ((p + 1 : Nat) : Int), .int .i64 (ss.length : Int)] w' fun e w'' => e = .returned (.tuple #[.int .i64 (y : Int), .int .i64 ((p + 1 + 1 : Nat) : Int)]) ∧ Below w'.heap.size w' w'') := fun w' hb => HT2 w' (hBw.below hb)
  clear HT HT2
  have HSp' : Hid (∀ w', Below w.heap.size w w' → Calls Tryz.prog 147 #[.slice a xs.length cap, .int .i64 ((p + 1 + 1 : Nat) : Int), .string (ss.getD y ⟨#[]⟩)] w' fun e w'' => e = .returned (.string t) ∧ Below w'.heap.size w' w'') := fun w' hb => HSp w' (hBw.below hb)
  clear HSp
  have hslen : ss.length ≤ 500 := hss.len
  have hrlen : roots.length ≤ 4 := hr.len
  obtain ⟨L, hLL⟩ : ∃ L, xs.length = L := ⟨_, rfl⟩
  rw [hLL] at HT' HT2' HSp' ⊢
  obtain ⟨q2, hq2⟩ : ∃ q, p + 1 + 1 = q := ⟨_, rfl⟩
  rw [hq2] at HT2' HSp' ⊢
  obtain ⟨q1, hq1⟩ : ∃ q, p + 1 = q := ⟨_, rfl⟩
  rw [hq1] at HT' HT2'
  have hqq : p ≠ q1 := by omega
  clear hq1 hLL
  obtain ⟨N, hN⟩ : ∃ N, ss.length = N := ⟨_, rfl⟩
  rw [hN] at HT2' HC hslen ⊢
  obtain ⟨R, hRn⟩ : ∃ R, roots.length = R := ⟨_, rfl⟩
  rw [hRn] at hrlen ⊢
  have hA : Below w.heap.size w ((w.alloc (.cells #[.int .i64 (wd : Int), .slice ap N cp] 37)).alloc (.cells #[.int .i64 0, .slice none 0 0] 37)) := ((Below.refl _ _).alloc (Nat.le_refl _) _).alloc (by simp) _
  have nA0 : ((w.alloc (.cells #[.int .i64 (wd : Int), .slice ap N cp] 37)).alloc (.cells #[.int .i64 0, .slice none 0 0] 37)).heap[w.heap.size]? = some (.cells #[.int .i64 (wd : Int), .slice ap N cp] 37) := (Below.heap_alloc _ _ _ (by simp)).trans (heap_alloc_new w _)
  have nA1 : ((w.alloc (.cells #[.int .i64 (wd : Int), .slice ap N cp] 37)).alloc (.cells #[.int .i64 0, .slice none 0 0] 37)).heap[w.heap.size + 1]? = some (.cells #[.int .i64 0, .slice none 0 0] 37) := by
    have := heap_alloc_new (w.alloc (.cells #[.int .i64 (wd : Int), .slice ap N cp] 37)) (.cells #[.int .i64 0, .slice none 0 0] 37)
    rw [World.size_alloc] at this
    exact this
  have hgw : w0.heap.size ≤ w.heap.size := hR.bel.size
  clear hBw hB hS
  go_enter Tryz.func114, Tryz.ntmps114
  go_upto_region 2 with fail
  generalize (w.alloc (.cells #[.int .i64 (wd : Int), .slice ap N cp] 37)).alloc (.cells #[.int .i64 0, .slice none 0 0] 37) = wA at hA nA0 nA1 ⊢
  obtain ⟨gp, hgp⟩ : ∃ g, w.heap.size = g := ⟨_, rfl⟩
  rw [hgp] at nA0 nA1 hgw
  try rw [hgp]
  have cA0 := Lib.cell_of_heap nA0 0
  have cA1 := Lib.cell_of_heap nA0 1
  go_upto_region 3 with (first | (go_at_call_of 41 (Value.int .i64 (p : Int)); refine (HT'.out _ hA).mono ?_; rintro e w1 ⟨rfl, hb1⟩; have hbw1 := hA.trans (hb1.mono hA.size)))
  have nB0 := pblk_below hb1 nA0
  have nB1 := pblk_below hb1 nA1
  clear cA0 cA1 nA0 nA1
  have cA0 := Lib.cell_of_heap nB0 0
  have cA1 := Lib.cell_of_heap nB0 1
  go_upto_region 4 with (first | (go_at_call_of 41 (Value.int .i64 (q1 : Int)); refine (HT2'.out _ hbw1).mono ?_; rintro e w2 ⟨rfl, hb2⟩; have hbw2 := hbw1.trans (hb2.mono hbw1.size)))
  have nC0 := pblk_below hb2 nB0
  have nC1 := pblk_below hb2 nB1
  clear cA0 cA1 nB0 nB1
  have cA0 := Lib.cell_of_heap nC0 0
  have cA1 := Lib.cell_of_heap nC0 1
  go_upto_region 5 with (first | (go_at_call 79; refine (HC.out _ hbw2).mono ?_; rintro e w3 ⟨ao, co, rfl, hT3⟩))
  have al3 : Below w3.heap.size w3 (w3.alloc (.cells #[.int .i64 (wd : Int), .slice ao N co] 37)) := (Below.refl _ _).alloc (Nat.le_refl _) _
  have hb23 : Below w2.heap.size w2 (w3.alloc (.cells #[.int .i64 (wd : Int), .slice ao N co] 37)) := hT3.bel.trans (al3.mono hT3.bel.size)
  have hbw4 := hbw2.trans (hb23.mono hbw2.size)
  have hH : HS fz ex w0 gp w3.heap.size wd ss ss roots ap cp ao co ar cr (w3.alloc (.cells #[.int .i64 (wd : Int), .slice ao N co] 37)) := by
    refine ⟨by rw [hN]; exact pblk_below hb23 nC0, pblk_below hb23 nC1, by rw [hN]; exact heap_alloc_new w3 _, hgw, ?_, ?_, hR.below (hgp ▸ hbw4), fun b hb he => ?_, fun q hq he => (hbw4.block q (by omega)).trans (hfq.out q), fun b hb _ => hexh.out.symm.trans hb, fun b hb => ?_⟩
    · have h1 := (Array.getElem?_eq_some_iff.1 nC1).1
      have := hT3.bel.size
      omega
    · have h1 := OwnT.up (w := w0) (hT3.below al3) (hR.bel.trans (hbw2.mono hR.bel.size))
      rw [hN]
      exact h1
    · have h1 := (ownG_cells hR.own hb).2.1
      rw [hN] at he
      have h2 := (ownG_cells hT3.own he).1
      have := hbw2.size
      omega
    · rw [hN] at hb
      have h2 := (ownG_cells hT3.own hb).1
      have := hbw2.size
      omega
  generalize w3.alloc (.cells #[.int .i64 (wd : Int), .slice ao N co] 37) = w4 at al3 hb23 hbw4 hH ⊢
  obtain ⟨g, hg⟩ : ∃ g, w3.heap.size = g := ⟨_, rfl⟩
  rw [hg] at hH
  try rw [hg]
  clear hg hT3 hb23 al3 nC0 nC1 cA0 cA1 hb1 hb2 hbw1 hbw2 HC HT' HT2' hA hqq
  have o0 := Lib.cell_of_heap hH.out 0
  have o1 := Lib.cell_of_heap hH.out 1
  rw [hN] at o1 o0
  have zN : ((N : Int) == 0) = false := by simp; omega
  have zx : decide ((x : Int) < 2) = false := by simp; omega
  have zx2 : ((x : Int) == 2) = true := by simp; omega
  have hy' : y < N := by omega
  have hx0 : (0 : Int) ≤ (y : Int) := Int.natCast_nonneg _
  have hx1 : (y : Int) < (N : Int) := by omega
  obtain ⟨b, c9, hao, hb0, hb1⟩ := hH.oown.own.form (by omega)
  simp only [Value.slice.injEq] at hao
  obtain ⟨rfl, _, rfl⟩ := hao
  have hcy : w4.cell? ⟨b, y, none⟩ = some (.string (ss.getD y ⟨#[]⟩)) := by
    rw [hH.oown.own.cellAt y (by omega), List.getElem?_map, List.getElem?_eq_getElem (by omega)]
    simp [List.getD_eq_getElem?_getD, List.getElem?_eq_getElem (show y < ss.length by omega)]
  generalize ss.getD y ⟨#[]⟩ = u at hcy HSp'
  go_upto_region 17 with fail
  have hbd : Below w4.heap.size w4 w4.drew := (Below.refl _ _).drew
  have HS17 : Hid (∀ W, Below w4.heap.size w4 W → W.cell? ⟨g, 1, none⟩ = some (.slice (some ⟨b, 0, none⟩) N co)) := fun W hW => by
    have := Lib.cell_of_heap (hH.below hW).out 1
    rw [hN] at this
    exact this
  have hcy2 : w4.drew.cell? ⟨b, y, none⟩ = some (.string u) := hcy
  clear hcy o0 o1
  refine wp_region_held_drew (S := fun W => W.cell? ⟨g, 1, none⟩ = some (.slice (some ⟨b, 0, none⟩) N co)) (by kernel_rfl) (HS17.out _ hbd) (fun hHeld => ?_)
  refine wpAnyH_take (i := 0) (v := ?_) rfl (by kernel_rfl) (by kernel_rfl) (by kernel_rfl) (fun _ _ _ h => h) (Or.inl ⟨by rfl, ?_⟩) (by assumption) ?_
  rotate_left
  · intro w hSw; have s1 := hSw; go_simp; rfl
  simp only [Act.put, List.setIfInBounds_toArray, List.set_cons_zero, List.set_cons_succ, List.getElem_toArray, List.getElem_cons_zero]
  refine wpAnyH_take (i := 1) (v := ?_) rfl (by kernel_rfl) (by kernel_rfl) (by kernel_rfl) (fun _ _ _ h => h) (Or.inl ⟨by rfl, ?_⟩) (by assumption) ?_
  rotate_left
  · intro w hSw; have s1 := hSw; go_simp; rfl
  simp only [Act.put, List.setIfInBounds_toArray, List.set_cons_zero, List.set_cons_succ, List.getElem_toArray, List.getElem_cons_zero, List.getElem_cons_succ]
  refine wpAnyH_take (i := 2) (v := ?_) rfl (by kernel_rfl) (by kernel_rfl) (by kernel_rfl) (fun _ _ _ h => h) (Or.inl ⟨by rfl, ?_⟩) (by assumption) ?_
  rotate_left
  · intro w hSw; have s1 := hSw; go_simp; rfl
  simp only [Act.put, List.setIfInBounds_toArray, List.set_cons_zero, List.set_cons_succ, List.getElem_toArray, List.getElem_cons_zero, List.getElem_cons_succ]
  refine wpAnyH_take (i := 3) (v := ?_) rfl (by kernel_rfl) (by kernel_rfl) (by kernel_rfl) (fun _ _ _ h => h) (Or.inl ⟨by rfl, ?_⟩) (by assumption) ?_
  rotate_left
  · intro w hSw; have s1 := hSw; go_simp; rfl
  simp only [Act.put, List.setIfInBounds_toArray, List.set_cons_zero, List.set_cons_succ, List.getElem_toArray, List.getElem_cons_zero, List.getElem_cons_succ]
  refine wpAnyH_take (i := 4) (v := ?_) rfl (by kernel_rfl) (by kernel_rfl) (by kernel_rfl) (fun _ _ _ h => h) (Or.inl ⟨by rfl, ?_⟩) (by assumption) ?_
  rotate_left
  · intro w hSw; have s1 := hSw; go_simp; rfl
  simp only [Act.put, List.setIfInBounds_toArray, List.set_cons_zero, List.set_cons_succ, List.getElem_toArray, List.getElem_cons_zero, List.getElem_cons_succ]
  refine wpAnyH_take (i := 5) (v := ?_) rfl (by kernel_rfl) (by kernel_rfl) (by kernel_rfl) (fun _ _ _ h => h) (Or.inl ⟨by rfl, ?_⟩) (by assumption) ?_
  rotate_left
  · intro w hSw; have s1 := hSw; go_simp; rfl
  simp only [Act.put, List.setIfInBounds_toArray, List.set_cons_zero, List.set_cons_succ, List.getElem_toArray, List.getElem_cons_zero, List.getElem_cons_succ]
  refine wpAnyH_take (i := 6) (v := ?_) rfl (by kernel_rfl) (by kernel_rfl) (by kernel_rfl) (fun _ _ _ h => h) (Or.inl ⟨by rfl, ?_⟩) (by assumption) ?_
  rotate_left
  · intro w hSw; have s1 := hSw; go_simp; rfl
  simp only [Act.put, List.setIfInBounds_toArray, List.set_cons_zero, List.set_cons_succ, List.getElem_toArray, List.getElem_cons_zero, List.getElem_cons_succ]
  refine wpAnyH_take (i := 7) (v := ?_) rfl (by kernel_rfl) (by kernel_rfl) (by kernel_rfl) (fun _ _ _ h => h) (Or.inl ⟨by rfl, ?_⟩) (by assumption) ?_
  rotate_left
  · intro w hSw; have s1 := hSw; go_simp; rfl
  simp only [Act.put, List.setIfInBounds_toArray, List.set_cons_zero, List.set_cons_succ, List.getElem_toArray, List.getElem_cons_zero, List.getElem_cons_succ]
  refine wpAnyH_take (i := 8) (v := ?_) rfl (by kernel_rfl) (by kernel_rfl) (by kernel_rfl) (fun _ _ _ h => h) (Or.inl ⟨by rfl, ?_⟩) (by assumption) ?_
  rotate_left
  · intro w hSw; have s1 := hSw; go_simp; rfl
  simp only [Act.put, List.setIfInBounds_toArray, List.set_cons_zero, List.set_cons_succ, List.getElem_toArray, List.getElem_cons_zero, List.getElem_cons_succ]
  refine wpAnyH_ready (rs := [9]) (by kernel_rfl) (by simp) ?_
  refine AllReadyH.cons rfl (fun K hK => ?_) AllReadyH.nil
  go_simp
  refine hK.out _ _ (HS17.out _ hbd) (fun hHeld => ?_)
  clear hK K
  refine wpAnyH_ready (rs := [10]) (by kernel_rfl) (by simp) ?_
  refine AllReadyH.cons rfl (fun K hK => ?_) AllReadyH.nil
  go_simp
  refine (HSp'.out _ (hbw4.trans (hbd.mono hbw4.size))).mono ?_
  rintro e w5 ⟨rfl, hb5⟩
  have hb5' := hbd.trans hb5
  refine hK.out _ _ (HS17.out _ hb5') (fun hHeld => ?_)
  clear hK K
  refine wpAnyH_take (i := 11) (v := ?_) rfl (by kernel_rfl) (by kernel_rfl) (by kernel_rfl) (fun _ _ _ h => h) (Or.inl ⟨by rfl, ?_⟩) (by assumption) ?_
  rotate_left
  · intro w hSw; have s1 := hSw; go_simp; rfl
  simp only [Act.put, List.setIfInBounds_toArray, List.set_cons_zero, List.set_cons_succ, List.getElem_toArray, List.getElem_cons_zero, List.getElem_cons_succ]
  have hH5 := hH.below hb5'
  have hH6 := hH5.seti y t
  have hcy5 : w5.cell? ⟨b, y, none⟩ = some (.string u) := (hb5.cell (p := ⟨b, y, none⟩) (by exact hb1)).trans hcy2
  have hfy5 : w5.frozen? ⟨b, y, none⟩ = false := hH5.oown.own.frozenAt y
  have s1 := HS17.out _ hb5'
  have hS6 : (w5.setCell ⟨b, y, none⟩ (.string t)).cell? ⟨g, 1, none⟩ = some (.slice (some ⟨b, 0, none⟩) N co) := by
    have := Lib.cell_of_heap hH6.out 1
    rw [List.length_set, hN] at this
    exact this
  refine wpAnyH_ready (rs := [12]) (by kernel_rfl) (by simp) ?_
  refine AllReadyH.cons rfl (fun K hK => ?_) AllReadyH.nil
  go_simp
  refine hK.out _ _ (hS6) (fun hHeld => ?_)
  clear hK K
  refine wpAnyH_done (by kernel_rfl) ?_ _
  generalize w5.setCell ⟨b, y, none⟩ (.string t) = w6 at hH6 hS6 ⊢
  have hyl : (ss.set y t).length = N := by rw [List.length_set, hN]
  have hysm : SmT (ss.set y t) 500 10001 := ⟨by rw [List.length_set]; exact hss.len, fun x hx => by
    rcases List.mem_or_eq_of_mem_set hx with q | q
    · have := hss.sz x q; omega
    · rw [q]; exact ht⟩
  have HS18 : Hid (∀ (W : World) (rs : List ByteArray) (ar : Option Addr) (cr : Nat), HS fz ex w0 gp g wd ss (ss.set y t) rs ap cp (some ⟨b, 0, none⟩) co ar cr W → W.cell? ⟨g, 0, none⟩ = some (.int .i64 (wd : Int)) ∧ W.cell? ⟨g, 1, none⟩ = some (.slice (some ⟨b, 0, none⟩) N co) ∧ W.cell? ⟨b, y, none⟩ = some (.string t) ∧ W.cell? ⟨gp, 0, none⟩ = some (.int .i64 (wd : Int))) := fun W rs ar cr hW => by
    have h1 := Lib.cell_of_heap hW.out 1
    rw [hyl] at h1
    refine ⟨Lib.cell_of_heap hW.out 0, h1, ?_, Lib.cell_of_heap hW.par 0⟩
    rw [hW.oown.own.cellAt y (by omega), List.map_set, List.getElem?_set_self (by rw [List.length_map]; omega)]
  have HTx : Hid (∀ w', Calls Tryz.prog 50 #[.string t] w' fun y w'' => y = .returned (.string (txt t)) ∧ w'' = w') := fun w' => ltxt_any t w' (by omega)
  have HD2 : Hid (∀ w', Calls Tryz.prog 14 #[.string (txt t), .int .i64 (wd : Int)] w' fun y w'' => y = .returned (.string (hashT wd t)) ∧ Below w'.heap.size w' w'') := fun w' => by
    have := HDg.out (txt t) wd w' (by rw [txt_size]; omega) hw1 hw2
    rw [txt_list] at this
    exact this
  have hhs : (hashT wd t).size ≤ 32 := by
    have : (hashT wd t).size ≤ wd := List.length_take_le _ _
    omega
  have hsl : Hid (ss.set y t = ss.set y t) := rfl
  clear hH hH5 hcy2 hcy5 hfy5 s1 hS6 hb5 hb5' HS17 HSp' hbd HDg
  obtain ⟨i0, hi0, hz0, hz1, hz2⟩ := info_parts2 info9
  have hbd6 : Below w6.heap.size w6 w6.drew := (Below.refl _ _).drew
  have hH7 := hH6.below hbd6
  clear hH6
  go_upto_region 18 with fail
  refine wp_region_held_drew (S := fun W => W.cell? ⟨g, 0, none⟩ = some (.int .i64 (wd : Int)) ∧ W.cell? ⟨g, 1, none⟩ = some (.slice (some ⟨b, 0, none⟩) N co) ∧ W.cell? ⟨b, y, none⟩ = some (.string t) ∧ W.cell? ⟨gp, 0, none⟩ = some (.int .i64 (wd : Int))) (by kernel_rfl) (HS18.out _ _ _ _ hH7) (fun hHeld => ?_)
  refine wpAnyH_take (i := 0) (v := ?_) rfl (by kernel_rfl) (by kernel_rfl) (by kernel_rfl) (fun _ _ _ h => h) (Or.inl ⟨by rfl, ?_⟩) (by assumption) ?_
  rotate_left
  · intro w hSw; obtain ⟨s0, s1, s2, s3⟩ := hSw; go_simp; rfl
  simp only [Act.put, List.setIfInBounds_toArray, List.set_cons_zero, List.set_cons_succ, List.getElem_toArray, List.getElem_cons_zero]
  refine wpAnyH_take (i := 1) (v := ?_) rfl (by kernel_rfl) (by kernel_rfl) (by kernel_rfl) (fun _ _ _ h => h) (Or.inl ⟨by rfl, ?_⟩) (by assumption) ?_
  rotate_left
  · intro w hSw; obtain ⟨s0, s1, s2, s3⟩ := hSw; go_simp; rfl
  simp only [Act.put, List.setIfInBounds_toArray, List.set_cons_zero, List.set_cons_succ, List.getElem_toArray, List.getElem_cons_zero, List.getElem_cons_succ]
  refine wpAnyH_take (i := 2) (v := ?_) rfl (by kernel_rfl) (by kernel_rfl) (by kernel_rfl) (fun _ _ _ h => h) (Or.inl ⟨by rfl, ?_⟩) (by assumption) ?_
  rotate_left
  · intro w hSw; obtain ⟨s0, s1, s2, s3⟩ := hSw; go_simp; rfl
  simp only [Act.put, List.setIfInBounds_toArray, List.set_cons_zero, List.set_cons_succ, List.getElem_toArray, List.getElem_cons_zero, List.getElem_cons_succ]
  refine wpAnyH_take (i := 3) (v := ?_) rfl (by kernel_rfl) (by kernel_rfl) (by kernel_rfl) (fun _ _ _ h => h) (Or.inl ⟨by rfl, ?_⟩) (by assumption) ?_
  rotate_left
  · intro w hSw; obtain ⟨s0, s1, s2, s3⟩ := hSw; go_simp; rfl
  simp only [Act.put, List.setIfInBounds_toArray, List.set_cons_zero, List.set_cons_succ, List.getElem_toArray, List.getElem_cons_zero, List.getElem_cons_succ]
  refine wpAnyH_take (i := 4) (v := ?_) rfl (by kernel_rfl) (by kernel_rfl) (by kernel_rfl) (fun _ _ _ h => h) (Or.inl ⟨by rfl, ?_⟩) (by assumption) ?_
  rotate_left
  · intro w hSw; obtain ⟨s0, s1, s2, s3⟩ := hSw; go_simp; rfl
  simp only [Act.put, List.setIfInBounds_toArray, List.set_cons_zero, List.set_cons_succ, List.getElem_toArray, List.getElem_cons_zero, List.getElem_cons_succ]
  refine wpAnyH_take (i := 5) (v := ?_) rfl (by kernel_rfl) (by kernel_rfl) (by kernel_rfl) (fun _ _ _ h => h) (Or.inl ⟨by rfl, ?_⟩) (by assumption) ?_
  rotate_left
  · intro w hSw; obtain ⟨s0, s1, s2, s3⟩ := hSw; go_simp; rfl
  simp only [Act.put, List.setIfInBounds_toArray, List.set_cons_zero, List.set_cons_succ, List.getElem_toArray, List.getElem_cons_zero, List.getElem_cons_succ]
  refine wpAnyH_take (i := 6) (v := ?_) rfl (by kernel_rfl) (by kernel_rfl) (by kernel_rfl) (fun _ _ _ h => h) (Or.inl ⟨by rfl, ?_⟩) (by assumption) ?_
  rotate_left
  · intro w hSw; obtain ⟨s0, s1, s2, s3⟩ := hSw; go_simp; rfl
  simp only [Act.put, List.setIfInBounds_toArray, List.set_cons_zero, List.set_cons_succ, List.getElem_toArray, List.getElem_cons_zero, List.getElem_cons_succ]
  refine wpAnyH_take (i := 8) (v := ?_) rfl (by kernel_rfl) (by kernel_rfl) (by kernel_rfl) (fun _ _ _ h => h) (Or.inl ⟨by rfl, ?_⟩) (by assumption) ?_
  rotate_left
  · intro w hSw; obtain ⟨s0, s1, s2, s3⟩ := hSw; go_simp; rfl
  simp only [Act.put, List.setIfInBounds_toArray, List.set_cons_zero, List.set_cons_succ, List.getElem_toArray, List.getElem_cons_zero, List.getElem_cons_succ]
  refine wpAnyH_take (i := 9) (v := ?_) rfl (by kernel_rfl) (by kernel_rfl) (by kernel_rfl) (fun _ _ _ h => h) (Or.inl ⟨by rfl, ?_⟩) (by assumption) ?_
  rotate_left
  · intro w hSw; obtain ⟨s0, s1, s2, s3⟩ := hSw; go_simp; rfl
  simp only [Act.put, List.setIfInBounds_toArray, List.set_cons_zero, List.set_cons_succ, List.getElem_toArray, List.getElem_cons_zero, List.getElem_cons_succ]
  refine wpAnyH_take (i := 13) (v := ?_) rfl (by kernel_rfl) (by kernel_rfl) (by kernel_rfl) (fun _ _ _ h => h) (Or.inl ⟨by rfl, ?_⟩) (by assumption) ?_
  rotate_left
  · intro w hSw; obtain ⟨s0, s1, s2, s3⟩ := hSw; go_simp; rfl
  simp only [Act.put, List.setIfInBounds_toArray, List.set_cons_zero, List.set_cons_succ, List.getElem_toArray, List.getElem_cons_zero, List.getElem_cons_succ]
  refine wpAnyH_ready (rs := [7]) (by kernel_rfl) (by simp) ?_
  refine AllReadyH.cons rfl (fun K hK => ?_) AllReadyH.nil
  go_simp
  refine (HTx.out _).mono ?_
  rintro e w7 ⟨rfl, rfl⟩
  refine hK.out _ _ (HS18.out _ _ _ _ hH7) (fun hHeld => ?_)
  clear hK K
  refine wpAnyH_ready (rs := [10]) (by kernel_rfl) (by simp) ?_
  refine AllReadyH.cons rfl (fun K hK => ?_) AllReadyH.nil
  go_simp
  refine (HD2.out _).mono ?_
  rintro e w8 ⟨rfl, hb8⟩
  have hH8 := hH7.below hb8
  refine hK.out _ _ (HS18.out _ _ _ _ hH8) (fun hHeld => ?_)
  clear hK K
  have al8 : Below w8.heap.size w8 (w8.alloc (.cells #[.string (hashT wd t)] 9)) := (Below.refl _ _).alloc (Nat.le_refl _) _
  have hH9 := hH8.below al8
  have own8 := hH8.rown.own
  rw [hRn] at own8
  have hbs8 := hH8.rown.bel.size
  refine wpAnyH_ready (rs := [11]) (by kernel_rfl) (by simp) ?_
  refine AllReadyH.cons rfl (fun K hK => ?_) AllReadyH.nil
  go_simp
  refine hK.out _ _ (HS18.out _ _ _ _ hH9) (fun hHeld => ?_)
  clear hK K
  refine wpAnyH_ready (rs := [12]) (by kernel_rfl) (by simp) ?_
  refine AllReadyH.cons rfl (fun K hK => ?_) AllReadyH.nil
  refine step_append_lies _ rfl (.tmp 85) (.tmp 95) 35 rfl w0.heap.size 9 i0 (.string ⟨#[]⟩) 1 16 Tryz.underlying35 hi0 hz0 hz1 hz2 rfl (by decide) (.slice ar R cr) R (roots.map Value.string) rfl (own8.alloc _) ⟨w8.heap.size, 0, none⟩ 1 1 [.string (hashT wd t)] rfl rfl (World.news_of_block (heap_alloc_new w8 _)) (by simp [Value.oneCell']) (by decide) (by unfold maxLen; omega) (by omega) (by simp; omega) (w8.heap.size + 1) (by simp) ?_
  intro g10 c10 w10 hown10 hgrow10 hat10 hlt10
  rw [← hRn] at hown10 hgrow10 hat10
  have hH10 := hH8.root hown10 hgrow10 hat10
  refine hK.out _ _ (HS18.out _ _ _ _ hH10) (fun hHeld => ?_)
  clear hK K hown10 hgrow10 hat10 hH8 hH9 own8
  have hfin : Hid (HGot fz ex gz wd (ss.set y t) (roots ++ [hashT wd t]) q2 w0 _ _) := hH10.fin (z := q2) hysm (hr.app (m := 1) ⟨Nat.le_refl _, fun x hx => by rw [List.mem_singleton.1 hx]; exact hhs⟩) (by omega) (by omega) (by omega) (by omega) (by omega)
  have hrl : (roots ++ [hashT wd t]).length = R + 1 := by rw [List.length_append, hRn]; rfl
  have m1 := hH10.m1
  rw [hyl] at hfin m1
  rw [hrl] at hfin
  have e0 := Lib.cell_of_heap hH10.res 0
  have e1 := Lib.cell_of_heap hH10.res 1
  have ef : ∀ j, w10.frozen? ⟨gp + 1, j, none⟩ = false := fun j => by rw [World.frozen?, hH10.res]; rfl
  have hSf : ((w10.setCell ⟨gp + 1, 0, none⟩ (.int .i64 (wd : Int))).setCell ⟨gp + 1, 1, none⟩ (.slice (some ⟨b, 0, none⟩) N co)).cell? ⟨g, 0, none⟩ = some (.int .i64 (wd : Int)) ∧ ((w10.setCell ⟨gp + 1, 0, none⟩ (.int .i64 (wd : Int))).setCell ⟨gp + 1, 1, none⟩ (.slice (some ⟨b, 0, none⟩) N co)).cell? ⟨g, 1, none⟩ = some (.slice (some ⟨b, 0, none⟩) N co) ∧ ((w10.setCell ⟨gp + 1, 0, none⟩ (.int .i64 (wd : Int))).setCell ⟨gp + 1, 1, none⟩ (.slice (some ⟨b, 0, none⟩) N co)).cell? ⟨b, y, none⟩ = some (.string t) ∧ ((w10.setCell ⟨gp + 1, 0, none⟩ (.int .i64 (wd : Int))).setCell ⟨gp + 1, 1, none⟩ (.slice (some ⟨b, 0, none⟩) N co)).cell? ⟨gp, 0, none⟩ = some (.int .i64 (wd : Int)) := by
    have n1 := hH10.n1
    obtain ⟨_, _, cur, hb9⟩ := ownG_cells hH10.oown.own (g := b) rfl
    have nb : gp + 1 ≠ b := ne_of_type hH10.res hb9 (by decide)
    obtain ⟨q0, q1, q2, q3⟩ := HS18.out _ _ _ _ hH10
    refine ⟨?_, ?_, ?_, ?_⟩ <;> rw [World.cell?_setCell_far _ _ _ _ (by first | (show gp + 1 ≠ g; omega) | (show gp + 1 ≠ b; exact nb) | (show gp + 1 ≠ gp; omega)), World.cell?_setCell_far _ _ _ _ (by first | (show gp + 1 ≠ g; omega) | (show gp + 1 ≠ b; exact nb) | (show gp + 1 ≠ gp; omega))] <;> assumption
  clear hH10
  refine wpAnyH_ready (rs := [14]) (by kernel_rfl) (by simp) ?_
  refine AllReadyH.cons rfl (fun K hK => ?_) AllReadyH.nil
  go_simp
  refine hK.out _ _ (hSf) (fun hHeld => ?_)
  clear hK K
  refine wpAnyH_ready (rs := [15]) (by kernel_rfl) (by simp) ?_
  refine AllReadyH.cons rfl (fun K hK => ?_) AllReadyH.nil
  go_simp
  refine hK.out _ _ (hSf) (fun hHeld => ?_)
  clear hK K
  refine wpAnyH_ready (rs := [16]) (by kernel_rfl) (by simp) ?_
  refine AllReadyH.cons rfl (fun K hK => ?_) AllReadyH.nil
  go_simp
  refine hK.out _ _ (hSf) (fun hHeld => ?_)
  clear hK K
  refine wpAnyH_done (by kernel_rfl) ?_ _
  go_wp2_with fail
  exact retPT Tryz.results114 rfl rfl rfl rfl m1 hfin.out
end Go.Proofs.YtfmpjlpakldheaaGreatDoor
