import Derived.Test.YtgicihmdcnelaaaGreatDoorZbi
namespace Go.Proofs.YtgicihmdcnelaaaGreatDoor
open Go.RowKit Go.Proofs.Sha

theorem encsT_size (wd : Nat) : ∀ (t : Tr PairT), ∀ e ∈ encsT wd t, e.size ≤ 10000
  | .nil, e, h => by cases h
  | .node l x r, e, h => by
    rw [encsT, List.mem_append, List.mem_append] at h
    rcases h with (h | h) | h
    · exact encsT_size wd l e h
    · exact encsT_size wd r e h
    · rw [List.mem_singleton] at h
      rw [h]
      exact (encS_size x.1 x.2 (rootT wd l) (rootT wd r) wd).1
theorem row_sarg {W : World} {base g n c : Nat} {xs : List ByteArray} (h : Row W base g n c (xs.map Value.string)) (hl : xs.length ≤ 1048576) (hs : ∀ j, (xs.getD j ⟨#[]⟩).size ≤ 1048576) : SArg (some ⟨g, 0, none⟩) xs W := by
  have hn : n = xs.length := by have := h.len; rw [List.length_map] at this; exact this.symm
  subst hn
  refine ⟨hl, hs, fun _ => ⟨g, 0, rfl, h.lt, fun j hj => ?_⟩⟩
  rw [Nat.zero_add, h.cell j hj, List.getElem?_map, List.getElem?_eq_getElem hj, List.getD_eq_getElem?_getD, List.getElem?_eq_getElem hj]
  rfl
theorem same_hit (wd : Nat) (X : List ByteArray) (H : ByteArray) : firstI (sameB (X.map (hashT wd)) H) X.length = firstI (hitB wd X H) X.length :=
  firstI_congr fun j hj => by
    unfold sameB hitB
    rw [← hashT_hit]
    congr 2
    rw [List.getD_eq_getElem?_getD, List.getD_eq_getElem?_getD, List.getElem?_map, List.getElem?_eq_getElem hj]
    rfl
/-- What the model's Save holds, between two encodings. -/
structure MS (w : World) (gp go ge wd : Nat) (a : Option Addr) (N c K ce : Nat) (es xs ys : List ByteArray) (gh ch : Nat) (ao : Option Addr) (co : Nat) (W : World) : Prop where
  par : W.heap[gp]? = some (.cells #[.int .i64 (wd : Int), .slice a N c] 28)
  res : SB (gp + 1) 0 0 none 0 0 ⟨#[]⟩ ⟨#[]⟩ ⟨#[]⟩ W
  out : W.heap[go]? = some (.cells #[.int .i64 (wd : Int), .slice ao xs.length co] 28)
  own : OwnT w xs ao xs.length co W
  hs : Row W w.heap.size gh ys.length ch ((ys.map (hashT wd)).map Value.string)
  enc : Row W w.heap.size ge K ce (es.map Value.string)
  n1 : gh ≠ gp ∧ gh ≠ gp + 1 ∧ gh ≠ go ∧ gh ≠ ge
  n2 : ge ≠ gp ∧ ge ≠ gp + 1 ∧ ge ≠ go
  n3 : ∀ g, (Value.slice ao xs.length co).ownBlock = some g → g ≠ gh ∧ g ≠ ge
  n4 : go ≠ gp ∧ w.heap.size ≤ go
section
variable {w : World} {gp go ge wd : Nat} {a : Option Addr} {N c K ce : Nat} {es xs ys : List ByteArray} {gh ch : Nat} {ao : Option Addr} {co : Nat} {W : World}
theorem MS.below (h : MS w gp go ge wd a N c K ce es xs ys gh ch ao co W) {W' : World} (hb : Below W.heap.size W W') : MS w gp go ge wd a N c K ce es xs ys gh ch ao co W' :=
  ⟨pblk_below hb h.par, pblk_below hb h.res, pblk_below hb h.out, h.own.below hb, h.hs.below hb, h.enc.below hb, h.n1, h.n2, h.n3, h.n4⟩
theorem MS.notOwn (h : MS w gp go ge wd a N c K ce es xs ys gh ch ao co W) {q : Nat} {cs : Array Value} {t : TypeId} (hq : W.heap[q]? = some (.cells cs t)) (ht : t ≠ 9) : some q ≠ (Value.slice ao xs.length co).ownBlock := fun e => by
  obtain ⟨_, _, cur, h9⟩ := ownG_cells h.own.own e.symm
  rw [hq] at h9
  simp at h9
  exact ht h9.2
theorem MS.addOut (h : MS w gp go ge wd a N c K ce es xs ys gh ch ao co W) {w4 : World} {o : Obj} {g4 c4 : Nat} {y : ByteArray} (hown : w4.ownsRow w.heap.size 9 1 (.slice (some ⟨g4, 0, none⟩) (xs.length + 1) c4) (xs.length + 1) (xs.map Value.string ++ [.string y])) (hgrow : (W.alloc o).grownBy w4 (Value.slice ao xs.length co).ownBlock) (hat : (Value.slice ao xs.length co).ownBlock = some g4 ∨ g4 = W.heap.size + 1) :
    MS w gp go ge wd a N c K ce es (xs ++ [y]) ys gh ch (some ⟨g4, 0, none⟩) c4 (w4.setCell ⟨go, 1, none⟩ (.slice (some ⟨g4, 0, none⟩) (xs.length + 1) c4)) := by
  have hlen : (xs ++ [y]).length = xs.length + 1 := by rw [List.length_append]; rfl
  have hblk : ∀ {q : Nat} {cs : Array Value} {t : TypeId}, W.heap[q]? = some (.cells cs t) → t ≠ 9 → w4.heap[q]? = some (.cells cs t) := fun {q cs t} hq ht => by
    have hl := (Array.getElem?_eq_some_iff.1 hq).1
    exact (hgrow.block q (by simp; omega) (h.notOwn hq ht)).trans ((Below.heap_alloc W o q hl).trans hq)
  have hrow : ∀ {g n' c' : Nat} {vs : List Value}, Row W w.heap.size g n' c' vs → some g ≠ (Value.slice ao xs.length co).ownBlock → g ≠ go → Row (w4.setCell ⟨go, 1, none⟩ (.slice (some ⟨g4, 0, none⟩) (xs.length + 1) c4)) w.heap.size g n' c' vs := fun {g n' c' vs} hr hn hg => ((hr.alloc o).kept hgrow hn).kept (grownBy_setCell w4 go 1 _) (fun e => hg (Option.some.inj e))
  have hT4 : OwnT w (xs ++ [y]) (some ⟨g4, 0, none⟩) (xs.length + 1) c4 w4 := h.own.more hown hgrow rfl
  have ho4 := hblk h.out (by decide)
  refine ⟨(Below.heap_setCell _ _ _ _ (by show gp ≠ go; exact fun e => h.n4.1 e.symm)).trans (hblk h.par (by decide)), ?_, by rw [hlen]; exact heap_setCell_same w4 go 1 _ 28 _ ho4, by rw [hlen]; exact hT4.set ho4 h.n4.2 _, hrow h.hs (fun e => (h.n3 _ e.symm).1 rfl) h.n1.2.2.1, hrow h.enc (fun e => (h.n3 _ e.symm).2 rfl) h.n2.2.2, h.n1, h.n2, ?_, h.n4⟩
  · have hne : gp + 1 ≠ go := fun e => by
      have h1 : W.heap[gp + 1]? = _ := h.res
      rw [e, h.out] at h1
      simp at h1
    exact (Below.heap_setCell _ _ _ _ (by show gp + 1 ≠ go; exact hne)).trans (hblk h.res (by decide))
  · intro g hg
    have hg' : g4 = g := Option.some.inj hg
    subst hg'
    rcases hat with q | q
    · exact h.n3 _ q
    · have l1 := h.hs.lt
      have l2 := h.enc.lt
      omega
theorem MS.addHash (h : MS w gp go ge wd a N c K ce es xs ys gh ch ao co W) {w6 : World} {o : Obj} {g6 c6 : Nat} {y : ByteArray} (hr : Row w6 w.heap.size g6 (ys.length + 1) c6 ((ys.map (hashT wd)).map Value.string ++ [.string (hashT wd y)])) (hgrow : (W.alloc o).grownBy w6 (some gh)) (hat : g6 = gh ∨ g6 = W.heap.size + 1) :
    MS w gp go ge wd a N c K ce es xs (ys ++ [y]) g6 c6 ao co w6 := by
  have hlen : (ys ++ [y]).length = ys.length + 1 := by rw [List.length_append]; rfl
  have hblk : ∀ {q : Nat} {cs : Array Value} {t : TypeId}, W.heap[q]? = some (.cells cs t) → q ≠ gh → w6.heap[q]? = some (.cells cs t) := fun {q cs t} hq hn => by
    have hl := (Array.getElem?_eq_some_iff.1 hq).1
    exact (hgrow.block q (by simp; omega) (fun e => hn (Option.some.inj e))).trans ((Below.heap_alloc W o q hl).trans hq)
  have hz := h.hs.ge
  have l2 := h.enc.lt
  have l3 := (Array.getElem?_eq_some_iff.1 h.par).1
  have l4 := (Array.getElem?_eq_some_iff.1 (show W.heap[gp + 1]? = _ from h.res)).1
  have l5 := (Array.getElem?_eq_some_iff.1 h.out).1
  have n1 := h.n1
  have n2 := h.n2
  refine ⟨hblk h.par (fun e => n1.1 e.symm), hblk h.res (fun e => n1.2.1 e.symm), hblk h.out (fun e => n1.2.2.1 e.symm), ⟨ownG_kept h.own.own (fun q hv hq => ?_), ?_, h.own.len⟩, by rw [hlen, List.map_append, List.map_append]; exact hr, (h.enc.alloc o).kept hgrow (fun e => n1.2.2.2 (Option.some.inj e).symm), ?_, n2, fun g hg => ⟨?_, (h.n3 g hg).2⟩, h.n4⟩
  · exact (hgrow.block q (by simp; omega) (fun e => (h.n3 q hv).1 (Option.some.inj e))).trans (Below.heap_alloc W o q hq)
  · have hbA : Below w.heap.size w (W.alloc o) := h.own.bel.alloc h.own.bel.size o
    exact hbA.trans (below_of_grown hgrow hz hbA.size)
  · rcases hat with q | q <;> omega
  · have l6 := (ownG_cells h.own.own hg).2.1
    have := (h.n3 g hg).1
    rcases hat with q | q <;> omega
end
end Go.Proofs.YtgicihmdcnelaaaGreatDoor
