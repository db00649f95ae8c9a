import Derived.Test.YtibjhkpgaaapaaaGreatDoorZgat
import Derived.Test.YtibjhkpgaaapaaaGreatDoorZgaa
import Derived.Deep.MidRow
import Derived.Deep.AppendLies
import Derived.Test.YtibjhkpgaaapaaaGreatDoorZgak
set_option maxRecDepth 100000
set_option maxHeartbeats 2000000
namespace Go.Proofs.YtibjhkpgaaapaaaGreatDoor
open Go.RowKit Go.Proofs.Sha

/-- A node's block. -/
def NBk (g : Nat) (k v l r : ByteArray) (w : World) : Prop := w.heap[g]? = some (.cells #[.string k, .string v, .string l, .string r] 73)
theorem NBk.below {g : Nat} {k v l r : ByteArray} {w w' : World} (h : NBk g k v l r w) (hb : Below w.heap.size w w') : NBk g k v l r w' := (hb.block g (Array.getElem?_eq_some_iff.1 h).1).trans h
theorem NBk.all {g : Nat} {k v l r : ByteArray} {w : World} (h : NBk g k v l r w) (x y z u : ByteArray) : NBk g x y z u ((((w.setCell ⟨g, 0, none⟩ (.string x)).setCell ⟨g, 1, none⟩ (.string y)).setCell ⟨g, 2, none⟩ (.string z)).setCell ⟨g, 3, none⟩ (.string u)) :=
  heap_setCell_same _ g 3 _ 73 _ (heap_setCell_same _ g 2 _ 73 _ (heap_setCell_same _ g 1 _ 73 _ (heap_setCell_same _ g 0 _ 73 _ h)))
theorem NBk.fr {g j : Nat} {k v l r : ByteArray} {w : World} (h : NBk g k v l r w) : w.frozen? ⟨g, j, none⟩ = false := by rw [World.frozen?, show w.heap[g]? = _ from h]; rfl
structure NBc (g : Nat) (k v l r : ByteArray) (w : World) : Prop where
  c0 : w.cell? ⟨g, 0, none⟩ = some (.string k)
  c1 : w.cell? ⟨g, 1, none⟩ = some (.string v)
  c2 : w.cell? ⟨g, 2, none⟩ = some (.string l)
  c3 : w.cell? ⟨g, 3, none⟩ = some (.string r)
  f0 : w.frozen? ⟨g, 0, none⟩ = false
  f1 : w.frozen? ⟨g, 1, none⟩ = false
  f2 : w.frozen? ⟨g, 2, none⟩ = false
  f3 : w.frozen? ⟨g, 3, none⟩ = false
theorem NBk.at {g : Nat} {k v l r : ByteArray} {w : World} (h : NBk g k v l r w) : NBc g k v l r w :=
  ⟨Lib.cell_of_heap h 0, Lib.cell_of_heap h 1, Lib.cell_of_heap h 2, Lib.cell_of_heap h 3, h.fr, h.fr, h.fr, h.fr⟩
theorem retN {fn : Func} {R : Ending → World → Prop} {A : Act} {p q : Tmp} {gb : Nat} {k v l r : ByteArray} {c : Int} {W : World} (hres : fn.results = #[.cell p 73, .tmp q]) (hp : A.tmps.getD p undef = .pointer (some ⟨gb, 0, none⟩)) (hq : A.tmps.getD q undef = .int .i64 c) (hd : A.defers = []) (n : NBk gb k v l r W)
    (h : R (.returned (nodeT ((k, v, l, r), c))) W) : bodyPost Tryz.prog fn R Exit.ret A W := by
  obtain ⟨c0, c1, c2, c3, _, _, _, _⟩ := n.at
  have hp' : A.tmps[p]?.getD undef = .pointer (some ⟨gb, 0, none⟩) := by simpa using hp
  have hq' : A.tmps[q]?.getD undef = .int .i64 c := by simpa using hq
  refine bodyPost_ret (v := nodeT ((k, v, l, r), c)) ?_ hd h
  unfold nodeT
  simp [results, hres, go_sem, asAddr, hp', hq', c0, c1, c2, c3]
/-- A call whose argument is a pool and which answers a node. -/
structure P2 (w : World) (ga gb : Nat) (n : Int) (a : Option Addr) (m c : Nat) (W : World) : Prop where
  sz : w.heap.size = ga
  nx : gb = ga + 1
  bl : Below ga w W
  na : W.heap[ga]? = some (.cells #[.int .i64 n, .slice a m c] 31)
  nb : NBk gb ⟨#[]⟩ ⟨#[]⟩ ⟨#[]⟩ ⟨#[]⟩ W
section
variable {w : World} {ga gb : Nat} {n : Int} {a : Option Addr} {m c : Nat} {W W' : World}
theorem P2.mk0 (w : World) (n : Int) (a : Option Addr) (m c : Nat) : P2 w w.heap.size (w.heap.size + 1) n a m c ((w.alloc (.cells #[.int .i64 n, .slice a m c] 31)).alloc (.cells #[.string ⟨#[]⟩, .string ⟨#[]⟩, .string ⟨#[]⟩, .string ⟨#[]⟩] 73)) := by
  refine ⟨rfl, rfl, ((Below.refl _ w).alloc (Nat.le_refl _) _).alloc (by simp) _, ?_, ?_⟩
  · exact (((Below.refl _ (w.alloc (.cells #[.int .i64 n, .slice a m c] 31))).alloc (Nat.le_refl _) _).block _ (by simp)).trans (heap_alloc_new w _)
  · have := heap_alloc_new (w.alloc (.cells #[.int .i64 n, .slice a m c] 31)) (.cells #[.string ⟨#[]⟩, .string ⟨#[]⟩, .string ⟨#[]⟩, .string ⟨#[]⟩] 73)
    rw [World.size_alloc] at this
    exact this
theorem P2.below (h : P2 w ga gb n a m c W) (hb : Below W.heap.size W W') : P2 w ga gb n a m c W' :=
  ⟨h.sz, h.nx, h.bl.trans (hb.mono (by have := h.bl.size; have := h.sz; omega)), (hb.block ga (Array.getElem?_eq_some_iff.1 h.na).1).trans h.na, h.nb.below hb⟩
theorem P2.fin (h : P2 w ga gb n a m c W) (x y z u : ByteArray) : Below w.heap.size w ((((W.setCell ⟨gb, 0, none⟩ (.string x)).setCell ⟨gb, 1, none⟩ (.string y)).setCell ⟨gb, 2, none⟩ (.string z)).setCell ⟨gb, 3, none⟩ (.string u)) := by
  have hge : ga ≤ gb := by have := h.nx; omega
  rw [h.sz]
  exact (((h.bl.setCell hge _).setCell hge _).setCell hge _).setCell hge _
theorem P2.set4 (h : P2 w ga gb n a m c W) {g : Nat} (hg : gb < g) (x y z u : Value) : P2 w ga gb n a m c ((((W.setCell ⟨g, 0, none⟩ x).setCell ⟨g, 1, none⟩ y).setCell ⟨g, 2, none⟩ z).setCell ⟨g, 3, none⟩ u) := by
  have hge : gb + 1 ≤ g := hg
  have hb : Below (gb + 1) W ((((W.setCell ⟨g, 0, none⟩ x).setCell ⟨g, 1, none⟩ y).setCell ⟨g, 2, none⟩ z).setCell ⟨g, 3, none⟩ u) := ((((Below.refl _ W).setCell hge _).setCell hge _).setCell hge _).setCell hge _
  have hx := h.nx
  exact ⟨h.sz, h.nx, h.bl.trans (hb.mono (by omega)), (hb.block ga (by omega)).trans h.na, (hb.block gb (by omega)).trans h.nb⟩
theorem P2.bw (h : P2 w ga gb n a m c W) : Below w.heap.size w W := by rw [h.sz]; exact h.bl
end

theorem rk_one (k : ByteArray) : ∀ v ∈ rkL k, v.oneCell' = true := by
  unfold rkL
  intro v hv
  rcases List.mem_append.1 hv with h | h
  · obtain ⟨x, _, rfl⟩ := List.mem_map.1 h; rfl
  · rw [List.mem_singleton] at h; subst h; rfl
theorem ne_of_type {w : World} {g b : Nat} {cs ds : Array Value} {t u : TypeId} (h : w.heap[g]? = some (.cells cs t)) (k : w.heap[b]? = some (.cells ds u)) (ht : t ≠ u) : g ≠ b := by
  intro e
  subst e
  rw [h] at k
  simp only [Option.some.injEq, Obj.cells.injEq] at k
  exact ht k.2.1
/-- What is said of a node that is looked up. -/
def codeF (fnd : ByteArray → FN) (hash over under pk : ByteArray) (cnt : Nat) : Int :=
  if (fnd hash).2 = 2 then 2 else if (fnd hash).2 ≠ 0 then 3 else if (insW over under (fnd hash).1.1 && parW hgW pk (fnd hash).1.1) = false then 3 else if 500 < cnt then 6 else 0
theorem Fr.below {B0 base : Nat} {N : Nat → Prop} {w w' : World} (h : Fr base N w w') (hb : B0 ≤ base) (hN : ∀ q, N q → B0 ≤ q) (hs : B0 ≤ w.heap.size) : Below B0 w w' :=
  ⟨h.os, h.tape, h.output, h.size, fun q hq => h.block q (by omega) (fun x => by have := hN q x; omega) (fun x => by omega)⟩
section
variable {wg : World} {B0 base lb c gb xl xa : Nat} {lo hi : ByteArray} {w w' : World} {N : Nat → Prop}
end
section
variable {fnd : ByteArray → FN} {hg : ByteArray → ByteArray → Bool} {lo hi : ByteArray}
theorem goF_len : ∀ (f : Nat) (hash over under par : ByteArray) (cnt : Nat), (goF fnd hg lo hi f hash over under par cnt).1 = 0 → cnt + (goF fnd hg lo hi f hash over under par cnt).2.2.length ≤ (goF fnd hg lo hi f hash over under par cnt).2.1
  | 0, _, _, _, _, _, h => by rw [goF] at h; exact absurd h (by decide)
  | f + 1, hash, over, under, par, cnt, h => by
    cases h1 : (emp hash || !canW over under lo hi) with
    | true => rw [goF_skip h1]; exact Nat.le_refl _
    | false =>
      by_cases h2 : (fnd hash).2 = 2
      · rw [goF_missing h1 h2] at h; exact absurd h (by decide)
      · by_cases h20 : (fnd hash).2 = 0
        · cases h3 : (insW over under (fnd hash).1.1 && parW hg par (fnd hash).1.1) with
          | false => rw [goF_place h1 h20 h3] at h; exact absurd h (by decide)
          | true =>
            by_cases h4 : 500 < cnt + 1
            · rw [goF_many h1 h20 h3 h4] at h; exact absurd h (by decide)
            · have e : fnd hash = (((fnd hash).1.1, (fnd hash).1.2.1, (fnd hash).1.2.2.1, (fnd hash).1.2.2.2), 0) := by rw [← h20]
              rw [goF_node h1 e h3 (by omega) rfl rfl] at h ⊢
              have il := goF_len f (fnd hash).1.2.2.1 over (fnd hash).1.1 (fnd hash).1.1 (cnt + 1)
              split at h
              · rename_i q; exact absurd h q
              · rename_i q
                have il := il (by simpa using q)
                split at h
                · rename_i q2; exact absurd h q2
                · rename_i q2
                  have ir := goF_len f (fnd hash).1.2.2.2 (fnd hash).1.1 under (fnd hash).1.1 _ (by simpa using q2)
                  rw [if_neg q, if_neg q2]
                  simp only [List.length_append]
                  have : (if hasW lo hi (fnd hash).1.1 = true then [((fnd hash).1.1, (fnd hash).1.2.1)] else []).length ≤ 1 := by split <;> simp
                  omega
        · rw [goF, if_neg (by rw [h1]; decide), if_neg h2, if_pos h20] at h; exact absurd h (by decide)
end
/-- What stands while the pairs are put together. -/
structure OS (w : World) (g8 g12 g16 gz g17 : Nat) (wd : Nat) (a : Option Addr) (n c : Nat) (over under : ByteArray) (cnt : Nat) (gn gr : Nat) (k v l r : ByteArray) (a2 : Option Addr) (rn d2 Qn : Nat) (Qp : List PairT) (W : World) : Prop where
  gs : GS w g8 g12 g16 gz g17 wd a n c over under cnt W
  nn : W.heap[gn]? = some (.cells #[.string k, .string v, .string l, .string r] 73)
  rr : W.heap[gr]? = some (.cells #[.slice a2 rn d2, .int .i64 (Qn : Int), .int .i64 0] 158)
  ln : g17 < gn
  lr : g17 < gr
  row : W.ownsRow w.heap.size 81 2 (.slice a2 rn d2) rn (flatP Qp)
section
variable {w : World} {g8 g12 g16 gz g17 : Nat} {wd : Nat} {a : Option Addr} {n c : Nat} {over under : ByteArray} {cnt : Nat} {gn gr : Nat} {k v l r : ByteArray} {a2 : Option Addr} {rn d2 Qn : Nat} {Qp : List PairT} {W W' : World}
theorem OS.below (h : OS w g8 g12 g16 gz g17 wd a n c over under cnt gn gr k v l r a2 rn d2 Qn Qp W) (hb : Below W.heap.size W W') : OS w g8 g12 g16 gz g17 wd a n c over under cnt gn gr k v l r a2 rn d2 Qn Qp W' :=
  ⟨h.gs.below hb, (hb.block _ (Array.getElem?_eq_some_iff.1 h.nn).1).trans h.nn, (hb.block _ (Array.getElem?_eq_some_iff.1 h.rr).1).trans h.rr, h.ln, h.lr, own2_kept h.row (fun q _ hq => hb.block q hq)⟩
/-- A row that is not one of these. -/
def Far (g17 gn gr : Nat) (a2 : Option Addr) (rn d2 : Nat) (x : Value) : Prop := ∀ q, x.ownBlock = some q → g17 < q ∧ q ≠ gn ∧ q ≠ gr ∧ (Value.slice a2 rn d2).ownBlock ≠ some q
theorem OS.grown {x : Value} (h : OS w g8 g12 g16 gz g17 wd a n c over under cnt gn gr k v l r a2 rn d2 Qn Qp W) (hg : W.grownBy W' x.ownBlock) (hf : Far g17 gn gr a2 rn d2 x) : OS w g8 g12 g16 gz g17 wd a n c over under cnt gn gr k v l r a2 rn d2 Qn Qp W' := by
  have l := h.gs.lt
  have h1 := h.gs.o1
  have h2 := h.gs.o2
  have h3 := h.gs.o3
  have h4 := h.gs.o4
  have h5 := h.gs.sz
  have far : ∀ q, q ≤ g17 → q < W.heap.size → W'.heap[q]? = W.heap[q]? := fun q hq hl => hg.block q hl (fun e => by have := (hf q e.symm).1; omega)
  refine ⟨⟨h.gs.sz, h1, h2, h3, h4, ?_, (far _ (by omega) (by omega)).trans h.gs.n8, (far _ (by omega) (by omega)).trans h.gs.n12, (far _ (by omega) (by omega)).trans h.gs.n16, (far _ (by omega) (by omega)).trans h.gs.nz, (far _ (by omega) (by omega)).trans h.gs.n17⟩, ?_, ?_, h.ln, h.lr, ?_⟩
  · exact ⟨hg.os.trans h.gs.bl.os, hg.tape.trans h.gs.bl.tape, hg.output.trans h.gs.bl.output, Nat.le_trans h.gs.bl.size hg.size, fun q hq => (far q (by omega) (Nat.lt_of_lt_of_le hq h.gs.bl.size)).trans (h.gs.bl.block q hq)⟩
  · exact (hg.block gn (Array.getElem?_eq_some_iff.1 h.nn).1 (fun e => (hf gn e.symm).2.1 rfl)).trans h.nn
  · exact (hg.block gr (Array.getElem?_eq_some_iff.1 h.rr).1 (fun e => (hf gr e.symm).2.2.1 rfl)).trans h.rr
  · exact own2_kept h.row (fun q hv hq => hg.block q hq (fun e => (hf q e.symm).2.2.2 hv))
theorem OS.pair (h : OS w g8 g12 g16 gz g17 wd a n c over under cnt gn gr k v l r a2 rn d2 Qn Qp W) (hl : Qp.length = rn) (j : Nat) (hj : j < rn) : ∃ b, a2 = some ⟨b, 0, none⟩ ∧ W.cell? ⟨b, j * 2, none⟩ = some (.string (Qp.getD j noPair).1) ∧ W.cell? ⟨b, j * 2 + 1, none⟩ = some (.string (Qp.getD j noPair).2) := by
  rcases h.row.2 with ⟨e, h0⟩ | ⟨b, cap', cur, e, hb, hg, q1, q2, q3, q4⟩
  · omega
  · simp only [Value.slice.injEq] at e
    obtain ⟨rfl, _, _⟩ := e
    obtain ⟨e0, e1⟩ := flatP_get Qp j (by omega)
    rw [← q4] at e0 e1
    rw [List.getElem?_take, if_pos (by omega)] at e0 e1
    exact ⟨b, rfl, (Lib.cell_of_heap hg _).trans (by simpa using e0), (Lib.cell_of_heap hg _).trans (by simpa using e1)⟩
/-- The row that is put together. -/
structure OutAt (w : World) (g8 g12 g16 gz g17 : Nat) (wd : Nat) (a : Option Addr) (n c : Nat) (over under : ByteArray) (cnt : Nat) (gn gr : Nat) (k v l r : ByteArray) (a2 : Option Addr) (rn d2 Qn : Nat) (Qp : List PairT) (x : Value) (m : Nat) (xs : List PairT) (W : World) : Prop where
  os : OS w g8 g12 g16 gz g17 wd a n c over under cnt gn gr k v l r a2 rn d2 Qn Qp W
  own : W.ownsRow w.heap.size 81 2 x m (flatP xs)
  far : Far g17 gn gr a2 rn d2 x
  len : xs.length = m
theorem OutAt.below {x : Value} {m : Nat} {xs : List PairT} (h : OutAt w g8 g12 g16 gz g17 wd a n c over under cnt gn gr k v l r a2 rn d2 Qn Qp x m xs W) (hb : Below W.heap.size W W') : OutAt w g8 g12 g16 gz g17 wd a n c over under cnt gn gr k v l r a2 rn d2 Qn Qp x m xs W' :=
  ⟨h.os.below hb, own2_kept h.own (fun q _ hq => hb.block q hq), h.far, h.len⟩
/-- One more pair, behind what the row had. -/
theorem OutAt.more {x : Value} {m m' g cap : Nat} {xs : List PairT} {y : PairT} {o : Obj} (h : OutAt w g8 g12 g16 gz g17 wd a n c over under cnt gn gr k v l r a2 rn d2 Qn Qp x m xs W)
    (hown : W'.ownsRow w.heap.size 81 2 (.slice (some ⟨g, 0, none⟩) m' cap) m' (flatP xs ++ [.string y.1, .string y.2])) (hgrow : (W.alloc o).grownBy W' x.ownBlock) (hat : x.ownBlock = some g ∨ g = W.heap.size + 1) (hm : m' = m + 1) : OutAt w g8 g12 g16 gz g17 wd a n c over under cnt gn gr k v l r a2 rn d2 Qn Qp (.slice (some ⟨g, 0, none⟩) m' cap) m' (xs ++ [y]) W' := by
  have ha := h.below ((Below.refl W.heap.size W).alloc (Nat.le_refl _) o)
  refine ⟨ha.os.grown hgrow h.far, by rw [flatP_app]; exact hown, fun q hq => ?_, by rw [List.length_append, h.len, hm]; rfl⟩
  obtain rfl : g = q := Option.some.inj hq
  rcases hat with e | e
  · exact h.far g e
  · have l1 := h.os.gs.lt
    have l2 := (Array.getElem?_eq_some_iff.1 h.os.nn).1
    have l3 := (Array.getElem?_eq_some_iff.1 h.os.rr).1
    refine ⟨by omega, by omega, by omega, fun e2 => ?_⟩
    have := (own2_cells h.os.row e2).2.1
    omega
theorem OutAt.fin {a' : Option Addr} {m d' : Nat} {xs : List PairT} {R : Int × Nat × List PairT} {A : Act} (h : OutAt w g8 g12 g16 gz g17 wd a n c over under cnt gn gr k v l r a2 rn d2 Qn Qp (.slice a' m d') m xs W) (hR : R = (0, Qn, xs)) (hp : A.tmps.getD 16 undef = .pointer (some ⟨g16, 0, none⟩)) (hd : A.defers = []) :
    bodyPost Tryz.prog Tryz.f105 (GoPost R w) .ret A (((W.setCell ⟨g16, 0, none⟩ (.slice a' m d')).setCell ⟨g16, 1, none⟩ (.int .i64 (Qn : Int))).setCell ⟨g16, 2, none⟩ (.int .i64 0)) := by
  obtain ⟨h1, h2, h3⟩ := h.os.gs.fin (.slice a' m d') (.int .i64 (Qn : Int)) (.int .i64 0)
  subst hR
  have q4 := h.os.gs.o3
  have q5 := h.os.gs.o4
  refine retG hp hd h1 ⟨fun _ => ⟨a', d', by rw [h.len], ?_⟩, fun hne => absurd rfl hne, h2⟩
  rw [h.len]
  exact own2_kept h.own (fun q hv _ => h3 q (by have := (h.far q hv).1; omega))
end
theorem codeF_zero {fnd : ByteArray → FN} {hash over under pk : ByteArray} {cnt : Nat} (h : codeF fnd hash over under pk cnt = 0) : (fnd hash).2 = 0 ∧ (insW over under (fnd hash).1.1 && parW hgW pk (fnd hash).1.1) = true ∧ cnt ≤ 500 := by
  unfold codeF at h
  split at h
  · exact absurd h (by decide)
  · split at h
    · exact absurd h (by decide)
    · rename_i h2
      split at h
      · exact absurd h (by decide)
      · rename_i h3
        split at h
        · exact absurd h (by decide)
        · rename_i h4
          exact ⟨by simpa using h2, by simpa using h3, by omega⟩
theorem goF_code {fnd : ByteArray → FN} {lo hi : ByteArray} {f : Nat} {hash over under pk : ByteArray} {cnt : Nat} (h : (emp hash || !canW over under lo hi) = false) (hc : codeF fnd hash over under pk (cnt + 1) ≠ 0) : goF fnd hgW lo hi (f + 1) hash over under pk cnt = (codeF fnd hash over under pk (cnt + 1), 0, []) := by
  rw [goF, if_neg (by rw [h]; decide)]
  unfold codeF at hc ⊢
  split
  · rfl
  · rename_i h1
    rw [if_neg h1] at hc
    split
    · rfl
    · rename_i h2
      rw [if_neg h2] at hc
      split
      · rfl
      · rename_i h3
        rw [if_neg h3] at hc
        split
        · rfl
        · rename_i h4
          rw [if_neg h4] at hc
          exact absurd rfl hc
/-- The two function values of a walk. -/
abbrev intoV (lo hi : ByteArray) : Value := .func (.func 109) #[.agg #[.string lo, .string hi]] #[]
abbrev atV (xl xa : Nat) : Value := .func (.func 149) #[] #[.pointer (some ⟨xl, 0, none⟩), .pointer (some ⟨xa, 0, none⟩)]
section
variable {wg : World} {B0 base lb sb c gb xl xa : Nat} {lo hi : ByteArray} {b : Nat} {w0 w w' : World} {cnt : Nat} {ps : List PairT} {hash over under : ByteArray} {par : Option Addr} {k v l r : ByteArray} {pl pr : Option Addr} {gl gr : Nat}
end
/-- What the specification's Digest says, by itself. -/
def DigSaid : Prop := ∀ (t : ByteArray) (k : Nat) (w : World), t.size ≤ 1048576 → 1 ≤ k → k ≤ 32 → Calls Tryz.prog 23 #[.string t, .int .i64 (k : Int)] w fun e w' => e = .returned (.string ⟨((sha t.data.toList).take k).toArray⟩) ∧ Below w.heap.size w w'
/-- A node's hash, at a width. -/
def hashT (wd : Nat) (s : ByteArray) : ByteArray := ⟨((sha (78 :: s.data.toList)).take wd).toArray⟩
theorem info9 : (Tryz.prog.info? 9).map (fun i => (i.zero, i.size, i.bytes)) = some (some (.string ⟨#[]⟩), 1, 16) := by kernel_rfl
theorem ltext_any (e : ByteArray) (w : World) (he : e.size ≤ 1048575) :
    Calls Tryz.prog 39 #[.string e] w fun x w' => ∃ t : ByteArray, x = .returned (.string t) ∧ t.size ≤ 1048576 ∧ Hid (t.data.toList = 78 :: e.data.toList) ∧ w = w' := by
  have z : ¬ (9223372036854775807 < (⟨#[78]⟩ : ByteArray).size + e.size) := by show ¬ _ < 1 + e.size; omega
  have z' : ¬ (9223372036854775807 < 1 + e.size) := by omega
  go_enter Tryz.func39, Tryz.ntmps39
  go_wp2
  go_ret
  refine ⟨_, rfl, ?_, ?_, rfl⟩
  · rw [ByteArray.size_append]; show 1 + e.size ≤ _; omega
  · show (_ : List UInt8) = _
    rw [ByteArray.data_append]
    simp

/-- A call whose argument is a pool. -/
structure P1 (w : World) (ga : Nat) (n : Int) (a : Option Addr) (m c : Nat) (W : World) : Prop where
  sz : w.heap.size = ga
  bl : Below ga w W
  na : W.heap[ga]? = some (.cells #[.int .i64 n, .slice a m c] 31)
section
variable {w : World} {ga : Nat} {n : Int} {a : Option Addr} {m c : Nat} {W W' : World}
theorem P1.mk0 (w : World) (n : Int) (a : Option Addr) (m c : Nat) : P1 w w.heap.size n a m c (w.alloc (.cells #[.int .i64 n, .slice a m c] 31)) :=
  ⟨rfl, (Below.refl _ w).alloc (Nat.le_refl _) _, heap_alloc_new w _⟩
theorem P1.belowAt (h : P1 w ga n a m c W) {k : Nat} (hk : ga < k) (hb : Below k W W') : P1 w ga n a m c W' :=
  ⟨h.sz, h.bl.trans (hb.mono (by omega)), (hb.block ga hk).trans h.na⟩
theorem P1.lt (h : P1 w ga n a m c W) : ga < W.heap.size := (Array.getElem?_eq_some_iff.1 h.na).1
theorem P1.below (h : P1 w ga n a m c W) (hb : Below W.heap.size W W') : P1 w ga n a m c W' := h.belowAt h.lt hb
theorem P1.grown (h : P1 w ga n a m c W) {g : Nat} (hg : W.grownBy W' (some g)) (hl : ga < g) : P1 w ga n a m c W' := h.belowAt (Nat.lt_succ_self ga) (below_of_grown hg hl h.lt)
theorem P1.bw (h : P1 w ga n a m c W) : Below w.heap.size w W := by rw [h.sz]; exact h.bl
end

theorem hashes_any (HD : Hid DigSaid) (wd : Nat) (a : Option Addr) (ss : List ByteArray) (c : Nat) (w : World) (h : SArg a ss w) (hq : Hid (∀ j, (ss.getD j ⟨#[]⟩).size ≤ 1048575)) (h1 : 1 ≤ wd) (h2 : wd ≤ 32) :
    Calls Tryz.prog 50 #[.agg #[.int .i64 (wd : Int), .slice a ss.length c]] w fun e w' => ∃ g c', e = .returned (.slice (some ⟨g, 0, none⟩) ss.length c') ∧ Row w' (w.heap.size + 1) g ss.length c' ((ss.map (hashT wd)).map Value.string) ∧ Below w.heap.size w w' := by
  have hn := h.le
  obtain ⟨i0, hi0, hz0, hz1, hz2⟩ := info_parts info9
  obtain ⟨N, hN⟩ : ∃ N, ss.length = N := ⟨_, rfl⟩
  rw [hN] at hn
  rw [hN]
  have hrow0 : Row ((w.alloc (.cells #[.int .i64 (wd : Int), .slice a N c] 31)).alloc (.cells #[] 9)) (w.heap.size + 1) (w.heap.size + 1) 0 0 [] := by
    have := Row.of_block (base := w.heap.size + 1) (g := w.heap.size + 1) (Nat.le_refl _) (by have := heap_alloc_new (w.alloc (.cells #[.int .i64 (wd : Int), .slice a N c] 31)) (.cells #[] 9); rw [World.size_alloc] at this; exact this) 0 (Nat.zero_le _) (.inl rfl)
    simpa using this
  have hS0 := (P1.mk0 w (wd : Int) a N c).below ((Below.refl _ _).alloc (Nat.le_refl _) (.cells #[] 9))
  go_enter Tryz.func50, Tryz.ntmps50
  go_wp2_with fail
  obtain ⟨ga, hga⟩ : ∃ ga, w.heap.size = ga := ⟨_, rfl⟩
  generalize (w.alloc (.cells #[.int .i64 (wd : Int), .slice a N c] 31)).alloc (.cells #[] 9) = W0 at hrow0 hS0 ⊢
  rw [hga] at hrow0 hS0 ⊢
  go_loopw [3, 4] (fun t3 t4 wr => ∃ k g c' : Nat, k ≤ N ∧ t4 = .int .i64 (k : Int) ∧ t3 = .slice (some ⟨g, 0, none⟩) k c' ∧ Row wr (ga + 1) g k c' (((ss.take k).map (hashT wd)).map Value.string) ∧ P1 w ga (wd : Int) a N c wr) (fun _ t4 _ => N - (intOf t4).toNat)
  case atStart => exact ⟨0, ga + 1, 0, Nat.zero_le _, rfl, rfl, hrow0, hS0⟩
  case round =>
    clear hrow0 hS0
    obtain ⟨k, g, c', hk, rfl, rfl, hrow, hS⟩ := hrel
    have d0 := Lib.cell_of_heap hS.na 0
    have d1 := Lib.cell_of_heap hS.na 1
    by_cases hlt : k < N
    · have z1 : decide ((k : Int) < (N : Int)) = true := by simp; omega
      obtain ⟨b, off, rfl, hbl, hcs⟩ := h.at_ (by omega)
      obtain ⟨s, hs⟩ : ∃ s, ss.getD k ⟨#[]⟩ = s := ⟨_, rfl⟩
      have hsz : s.size ≤ 1048575 := by rw [← hs]; exact hq.out k
      have hc0 := hcs k (by omega)
      rw [hs] at hc0
      have hC : Hid (∀ W, P1 w ga (wd : Int) (some ⟨b, off, none⟩) N c W → W.cell? ⟨ga, 1, none⟩ = some (.slice (some ⟨b, off, none⟩) N c) ∧ W.cell? ⟨b, off + k, none⟩ = some (.string s) ∧ W.cell? ⟨ga, 0, none⟩ = some (.int .i64 (wd : Int))) := fun W hW => ⟨Lib.cell_of_heap hW.na 1, (hW.bw.cell hbl).trans hc0, Lib.cell_of_heap hW.na 0⟩
      have hcx := (hS.bw.cell hbl).trans hc0
      obtain ⟨X, hX⟩ : ∃ X, hashT wd s = X := ⟨_, rfl⟩
      have HX : Hid (∀ (t : ByteArray) w', t.size ≤ 1048576 → Hid (t.data.toList = 78 :: s.data.toList) → Calls Tryz.prog 23 #[.string t, .int .i64 (wd : Int)] w' fun e w'' => e = .returned (.string X) ∧ Below w'.heap.size w' w'') := fun t w' ht HT => by
        have := HD.out t wd w' ht h1 h2
        rw [HT.out] at this
        rw [← hX]
        exact this
      have hstep : Hid (((ss.take (k + 1)).map (hashT wd)).map Value.string = ((ss.take k).map (hashT wd)).map Value.string ++ [.string X]) := by
        have hkl : k < ss.length := by omega
        have hge : ss[k] = s := by rw [← hs, List.getD_eq_getElem?_getD, List.getElem?_eq_getElem hkl]; rfl
        show _ = _
        rw [List.take_succ_eq_append_getElem hkl, List.map_append, List.map_append, hge, ← hX]
        rfl
      have hgl := hrow.ge
      have hsl := hS.lt
      have hx0 : (0 : Int) ≤ (k : Int) := Int.natCast_nonneg _
      have hx1 : (k : Int) < (N : Int) := by omega
      clear hcs hs hc0 hX
      generalize ((ss.take k).map (hashT wd)).map Value.string = L at hrow hstep
      go_wp2_with fail
      go_region_held3 (fun w' => w'.cell? ⟨ga, 1, none⟩ = some (.slice (some ⟨b, off, none⟩) N c) ∧ w'.cell? ⟨b, off + k, none⟩ = some (.string s) ∧ w'.cell? ⟨ga, 0, none⟩ = some (.int .i64 (wd : Int))) (first | exact ⟨d1, hcx, d0⟩ | exact hC.out _ hS4 | exact hC.out _ hS3 | exact hC.out _ hS2) (first | (go_at_call 39; refine (ltext_any s _ hsz).mono ?_; rintro e w1 ⟨t, rfl, ht, HT, rfl⟩) | (go_at_call 23; refine (HX.out t _ ht HT).mono ?_; rintro e w2 ⟨rfl, hb2⟩; have hbx : Below wr.heap.size wr w2 := (Below.refl wr.heap.size wr).drew.trans hb2; have hS2 := hS.below hbx; have hrow2 := hrow.below hbx; have hS3 := hS2.below ((Below.refl _ w2).alloc (Nat.le_refl _) (.cells #[.string X] 9)); have hsz2 := hbx.size; clear hb2) | (refine step_append_row _ (by rfl) (.tmp 13) (.tmp 23) 25 (by rfl) 9 i0 (.string ⟨#[]⟩) 16 Tryz.underlying25 hi0 hz0 hz1 hz2 (by rfl) (ga + 1) g k c' _ (by rfl) (hrow2.alloc _) ⟨w2.heap.size, 0, none⟩ 1 1 [.string X] (by rfl) rfl (World.news_of_block (heap_alloc_new w2 _)) (by simp [Value.oneCell']) (by unfold maxLen; omega) (by omega) (by simp; omega) (w2.heap.size + 1) (by simp) ?_; intro g4 c4 w4 hrow4 hgrow4 hg4 hkeep4; have hS4 := hS3.grown hgrow4 hgl))
      go_wp2_with fail
      go_roundw
      case rel => exact ⟨k + 1, g4, c4, hlt, by go_num, rfl, by rw [hstep.out]; exact hrow4, hS4⟩
      case measure => simp [intOf]; omega
    · obtain rfl : k = N := by omega
      have z1 : decide ((k : Int) < (k : Int)) = false := by simp
      have htk : ss.take k = ss := List.take_of_length_le (by omega)
      rw [htk] at hrow
      go_wp2_with fail
      go_ret
      exact ⟨g, c', rfl, by rw [hga]; exact hrow, hS.bw⟩
end Go.Proofs.YtibjhkpgaaapaaaGreatDoor
