import Derived.Test.YtfmpjlpakldheaaGreatDoorZyap
namespace Go.Proofs.YtfmpjlpakldheaaGreatDoor
open Go.RowKit Go.Proofs.Sha

section
variable {fnd : ByteArray → FN} {hg : ByteArray → ByteArray → Bool} {lo hi : ByteArray}
theorem goF_len : ∀ (f : Nat) (hash over under par : ByteArray) (cnt : Nat), (goF fnd hg lo hi f hash over under par cnt).1 = 0 → cnt + (goF fnd hg lo hi f hash over under par cnt).2.2.length ≤ (goF fnd hg lo hi f hash over under par cnt).2.1
  | 0, _, _, _, _, _, h => by rw [goF] at h; exact absurd h (by decide)
  | f + 1, hash, over, under, par, cnt, h => by
    cases h1 : (emp hash || !canW over under lo hi) with
    | true => rw [goF_skip h1]; exact Nat.le_refl _
    | false =>
      by_cases h2 : (fnd hash).2 = 2
      · rw [goF_missing h1 h2] at h; exact absurd h (by decide)
      · by_cases h20 : (fnd hash).2 = 0
        · cases h3 : (insW over under (fnd hash).1.1 && parW hg par (fnd hash).1.1) with
          | false => rw [goF_place h1 h20 h3] at h; exact absurd h (by decide)
          | true =>
            by_cases h4 : 500 < cnt + 1
            · rw [goF_many h1 h20 h3 h4] at h; exact absurd h (by decide)
            · have e : fnd hash = (((fnd hash).1.1, (fnd hash).1.2.1, (fnd hash).1.2.2.1, (fnd hash).1.2.2.2), 0) := by rw [← h20]
              rw [goF_node h1 e h3 (by omega) rfl rfl] at h ⊢
              have il := goF_len f (fnd hash).1.2.2.1 over (fnd hash).1.1 (fnd hash).1.1 (cnt + 1)
              split at h
              · rename_i q; exact absurd h q
              · rename_i q
                have il := il (by simpa using q)
                split at h
                · rename_i q2; exact absurd h q2
                · rename_i q2
                  have ir := goF_len f (fnd hash).1.2.2.2 (fnd hash).1.1 under (fnd hash).1.1 _ (by simpa using q2)
                  rw [if_neg q, if_neg q2]
                  simp only [List.length_append]
                  have : (if hasW lo hi (fnd hash).1.1 = true then [((fnd hash).1.1, (fnd hash).1.2.1)] else []).length ≤ 1 := by split <;> simp
                  omega
        · rw [goF, if_neg (by rw [h1]; decide), if_neg h2, if_pos h20] at h; exact absurd h (by decide)
end
/-- What stands while the pairs are put together. -/
structure OS (w : World) (g8 g12 g16 gz g17 : Nat) (wd : Nat) (a : Option Addr) (n c : Nat) (over under : ByteArray) (cnt : Nat) (gn gr : Nat) (k v l r : ByteArray) (a2 : Option Addr) (rn d2 Qn : Nat) (Qp : List PairT) (W : World) : Prop where
  gs : GS w g8 g12 g16 gz g17 wd a n c over under cnt W
  nn : W.heap[gn]? = some (.cells #[.string k, .string v, .string l, .string r] 128)
  rr : W.heap[gr]? = some (.cells #[.slice a2 rn d2, .int .i64 (Qn : Int), .int .i64 0] 102)
  ln : g17 < gn
  lr : g17 < gr
  row : W.ownsRow w.heap.size 34 2 (.slice a2 rn d2) rn (flatP Qp)
section
variable {w : World} {g8 g12 g16 gz g17 : Nat} {wd : Nat} {a : Option Addr} {n c : Nat} {over under : ByteArray} {cnt : Nat} {gn gr : Nat} {k v l r : ByteArray} {a2 : Option Addr} {rn d2 Qn : Nat} {Qp : List PairT} {W W' : World}
theorem OS.below (h : OS w g8 g12 g16 gz g17 wd a n c over under cnt gn gr k v l r a2 rn d2 Qn Qp W) (hb : Below W.heap.size W W') : OS w g8 g12 g16 gz g17 wd a n c over under cnt gn gr k v l r a2 rn d2 Qn Qp W' :=
  ⟨h.gs.below hb, (hb.block _ (Array.getElem?_eq_some_iff.1 h.nn).1).trans h.nn, (hb.block _ (Array.getElem?_eq_some_iff.1 h.rr).1).trans h.rr, h.ln, h.lr, own2_kept h.row (fun q _ hq => hb.block q hq)⟩
/-- A row that is not one of these. -/
def Far (g17 gn gr : Nat) (a2 : Option Addr) (rn d2 : Nat) (x : Value) : Prop := ∀ q, x.ownBlock = some q → g17 < q ∧ q ≠ gn ∧ q ≠ gr ∧ (Value.slice a2 rn d2).ownBlock ≠ some q
theorem OS.grown {x : Value} (h : OS w g8 g12 g16 gz g17 wd a n c over under cnt gn gr k v l r a2 rn d2 Qn Qp W) (hg : W.grownBy W' x.ownBlock) (hf : Far g17 gn gr a2 rn d2 x) : OS w g8 g12 g16 gz g17 wd a n c over under cnt gn gr k v l r a2 rn d2 Qn Qp W' := by
  have l := h.gs.lt
  have h1 := h.gs.o1
  have h2 := h.gs.o2
  have h3 := h.gs.o3
  have h4 := h.gs.o4
  have h5 := h.gs.sz
  have far : ∀ q, q ≤ g17 → q < W.heap.size → W'.heap[q]? = W.heap[q]? := fun q hq hl => hg.block q hl (fun e => by have := (hf q e.symm).1; omega)
  refine ⟨⟨h.gs.sz, h1, h2, h3, h4, ?_, (far _ (by omega) (by omega)).trans h.gs.n8, (far _ (by omega) (by omega)).trans h.gs.n12, (far _ (by omega) (by omega)).trans h.gs.n16, (far _ (by omega) (by omega)).trans h.gs.nz, (far _ (by omega) (by omega)).trans h.gs.n17⟩, ?_, ?_, h.ln, h.lr, ?_⟩
  · exact ⟨hg.os.trans h.gs.bl.os, hg.tape.trans h.gs.bl.tape, hg.output.trans h.gs.bl.output, Nat.le_trans h.gs.bl.size hg.size, fun q hq => (far q (by omega) (Nat.lt_of_lt_of_le hq h.gs.bl.size)).trans (h.gs.bl.block q hq)⟩
  · exact (hg.block gn (Array.getElem?_eq_some_iff.1 h.nn).1 (fun e => (hf gn e.symm).2.1 rfl)).trans h.nn
  · exact (hg.block gr (Array.getElem?_eq_some_iff.1 h.rr).1 (fun e => (hf gr e.symm).2.2.1 rfl)).trans h.rr
  · exact own2_kept h.row (fun q hv hq => hg.block q hq (fun e => (hf q e.symm).2.2.2 hv))
theorem OS.pair (h : OS w g8 g12 g16 gz g17 wd a n c over under cnt gn gr k v l r a2 rn d2 Qn Qp W) (hl : Qp.length = rn) (j : Nat) (hj : j < rn) : ∃ b, a2 = some ⟨b, 0, none⟩ ∧ W.cell? ⟨b, j * 2, none⟩ = some (.string (Qp.getD j noPair).1) ∧ W.cell? ⟨b, j * 2 + 1, none⟩ = some (.string (Qp.getD j noPair).2) := by
  rcases h.row.2 with ⟨e, h0⟩ | ⟨b, cap', cur, e, hb, hg, q1, q2, q3, q4⟩
  · omega
  · simp only [Value.slice.injEq] at e
    obtain ⟨rfl, _, _⟩ := e
    obtain ⟨e0, e1⟩ := flatP_get Qp j (by omega)
    rw [← q4] at e0 e1
    rw [List.getElem?_take, if_pos (by omega)] at e0 e1
    exact ⟨b, rfl, (Lib.cell_of_heap hg _).trans (by simpa using e0), (Lib.cell_of_heap hg _).trans (by simpa using e1)⟩
/-- The row that is put together. -/
structure OutAt (w : World) (g8 g12 g16 gz g17 : Nat) (wd : Nat) (a : Option Addr) (n c : Nat) (over under : ByteArray) (cnt : Nat) (gn gr : Nat) (k v l r : ByteArray) (a2 : Option Addr) (rn d2 Qn : Nat) (Qp : List PairT) (x : Value) (m : Nat) (xs : List PairT) (W : World) : Prop where
  os : OS w g8 g12 g16 gz g17 wd a n c over under cnt gn gr k v l r a2 rn d2 Qn Qp W
  own : W.ownsRow w.heap.size 34 2 x m (flatP xs)
  far : Far g17 gn gr a2 rn d2 x
  len : xs.length = m
theorem OutAt.below {x : Value} {m : Nat} {xs : List PairT} (h : OutAt w g8 g12 g16 gz g17 wd a n c over under cnt gn gr k v l r a2 rn d2 Qn Qp x m xs W) (hb : Below W.heap.size W W') : OutAt w g8 g12 g16 gz g17 wd a n c over under cnt gn gr k v l r a2 rn d2 Qn Qp x m xs W' :=
  ⟨h.os.below hb, own2_kept h.own (fun q _ hq => hb.block q hq), h.far, h.len⟩
/-- One more pair, behind what the row had. -/
theorem OutAt.more {x : Value} {m m' g cap : Nat} {xs : List PairT} {y : PairT} {o : Obj} (h : OutAt w g8 g12 g16 gz g17 wd a n c over under cnt gn gr k v l r a2 rn d2 Qn Qp x m xs W)
    (hown : W'.ownsRow w.heap.size 34 2 (.slice (some ⟨g, 0, none⟩) m' cap) m' (flatP xs ++ [.string y.1, .string y.2])) (hgrow : (W.alloc o).grownBy W' x.ownBlock) (hat : x.ownBlock = some g ∨ g = W.heap.size + 1) (hm : m' = m + 1) : OutAt w g8 g12 g16 gz g17 wd a n c over under cnt gn gr k v l r a2 rn d2 Qn Qp (.slice (some ⟨g, 0, none⟩) m' cap) m' (xs ++ [y]) W' := by
  have ha := h.below ((Below.refl W.heap.size W).alloc (Nat.le_refl _) o)
  refine ⟨ha.os.grown hgrow h.far, by rw [flatP_app]; exact hown, fun q hq => ?_, by rw [List.length_append, h.len, hm]; rfl⟩
  obtain rfl : g = q := Option.some.inj hq
  rcases hat with e | e
  · exact h.far g e
  · have l1 := h.os.gs.lt
    have l2 := (Array.getElem?_eq_some_iff.1 h.os.nn).1
    have l3 := (Array.getElem?_eq_some_iff.1 h.os.rr).1
    refine ⟨by omega, by omega, by omega, fun e2 => ?_⟩
    have := (own2_cells h.os.row e2).2.1
    omega
theorem OutAt.fin {a' : Option Addr} {m d' : Nat} {xs : List PairT} {R : Int × Nat × List PairT} {A : Act} (h : OutAt w g8 g12 g16 gz g17 wd a n c over under cnt gn gr k v l r a2 rn d2 Qn Qp (.slice a' m d') m xs W) (hR : R = (0, Qn, xs)) (hp : A.tmps.getD 16 undef = .pointer (some ⟨g16, 0, none⟩)) (hd : A.defers = []) :
    bodyPost Tryz.prog Tryz.f75 (GoPost R w) .ret A (((W.setCell ⟨g16, 0, none⟩ (.slice a' m d')).setCell ⟨g16, 1, none⟩ (.int .i64 (Qn : Int))).setCell ⟨g16, 2, none⟩ (.int .i64 0)) := by
  obtain ⟨h1, h2, h3⟩ := h.os.gs.fin (.slice a' m d') (.int .i64 (Qn : Int)) (.int .i64 0)
  subst hR
  have q4 := h.os.gs.o3
  have q5 := h.os.gs.o4
  refine retG hp hd h1 ⟨fun _ => ⟨a', d', by rw [h.len], ?_⟩, fun hne => absurd rfl hne, h2⟩
  rw [h.len]
  exact own2_kept h.own (fun q hv _ => h3 q (by have := (h.far q hv).1; omega))
end
end Go.Proofs.YtfmpjlpakldheaaGreatDoor
