import Derived.Test.YtibjhkpgaaapaaaGreatDoorZgbm
import Derived.Test.YtibjhkpgaaapaaaGreatDoorZgax
import Derived.Test.YtibjhkpgaaapaaaGreatDoorZgao
import Derived.Deep.RegionLaw
import Derived.Test.YtibjhkpgaaapaaaGreatDoorZgaa
import Derived.Test.YtibjhkpgaaapaaaGreatDoorZgam
set_option maxRecDepth 100000
namespace Go.Proofs.YtibjhkpgaaapaaaGreatDoor
open Go.RowKit Go.Proofs.Sha

def SvR.isGo : SvR → Bool
  | .go _ => true
  | _ => false
theorem svStep_some {wd : Nat} {ss ad : List ByteArray} {e u : ByteArray} (h : fst2 wd ss ad (hashT wd e) = some u) : svStep wd ss (.go ad) e = if u = e then .go ad else .clash u e := by
  unfold fst2 at h
  unfold svStep
  cases hf : firstI (hitB wd (ss ++ ad) (hashT wd e)) (ss.length + ad.length) with
  | none => rw [hf] at h; cases h
  | some i =>
    rw [hf] at h
    simp only [Option.map_some, Option.some.injEq] at h
    simp only [hf, h]
theorem svStep_none {wd : Nat} {ss ad : List ByteArray} {e : ByteArray} (h : fst2 wd ss ad (hashT wd e) = none) : svStep wd ss (.go ad) e = if 20000 ≤ ss.length + ad.length then .full else .go (ad ++ [e]) := by
  unfold fst2 at h
  unfold svStep
  cases hf : firstI (hitB wd (ss ++ ad) (hashT wd e)) (ss.length + ad.length) with
  | none => simp only [hf]
  | some i => rw [hf] at h; cases h
theorem sv_stuck (wd : Nat) (ss : List ByteArray) : ∀ (es : List ByteArray) (r : SvR), r.isGo = false → es.foldl (svStep wd ss) r = r
  | [], _, _ => rfl
  | e :: es, r, h => by
    rw [List.foldl_cons]
    have : svStep wd ss r e = r := by
      cases r with
      | go ad => cases h
      | full => rfl
      | clash u x => rfl
    rw [this]
    exact sv_stuck wd ss es r h
theorem OwnT.set {w W : World} {xs : List ByteArray} {a : Option Addr} {m c g o : Nat} {cs : Array Value} (h : OwnT w xs a m c W) (hg : W.heap[g]? = some (.cells cs 31)) (hge : w.heap.size ≤ g) (u : Value) : OwnT w xs a m c (W.setCell ⟨g, o, none⟩ u) :=
  ⟨ownG_kept h.own (fun q hv _ => Below.heap_setCell _ _ _ _ (by show q ≠ g; intro e; subst e; obtain ⟨_, _, cur, h9⟩ := ownG_cells h.own hv; rw [hg] at h9; simp at h9)), h.bel.setCell (p := ⟨g, o, none⟩) hge _, h.len⟩
/-- What Save, Put and Del answer. -/
structure SvO where
  cd : Int
  n : Int
  xs : List ByteArray
  root : ByteArray
  x : ByteArray
  y : ByteArray
/-- A code alone. -/
def codeO (c : Int) : SvO := ⟨c, 0, [], ⟨#[]⟩, ⟨#[]⟩, ⟨#[]⟩⟩
def svOut (wd : Nat) (ss : List ByteArray) (root : ByteArray) : SvR → SvO
  | .go ad => ⟨0, (wd : Int), ss ++ ad, root, ⟨#[]⟩, ⟨#[]⟩⟩
  | .full => codeO 1
  | .clash u e => ⟨4, (wd : Int), ss, ⟨#[]⟩, txt u, txt e⟩
def SavedIs (o : SvO) (we : World) (e : Ending) (w' : World) : Prop := ∃ a c, e = .returned (svV o.cd o.n a o.xs.length c o.root o.x o.y) ∧ OwnT we o.xs a o.xs.length c w'
theorem OwnT.nil {w W : World} (h : Below w.heap.size w W) : OwnT w [] none 0 0 W := ⟨World.ownsRow_nil _ _ _ _, h, rfl⟩
theorem retS {fn : Func} {R : Ending → World → Prop} {A : Act} {p : Tmp} {gb : Nat} {cd n : Int} {a : Option Addr} {m c : Nat} {root x y : ByteArray} {W : World} (hres : fn.results = #[.cell p 56]) (hp : A.tmps.getD p undef = .pointer (some ⟨gb, 0, none⟩)) (hd : A.defers = []) (hn : W.heap[gb]? = some (.cells #[.int .i64 cd, .int .i64 n, .slice a m c, .string root, .string x, .string y] 56))
    (h : R (.returned (svV cd n a m c root x y)) W) : bodyPost Tryz.prog fn R Exit.ret A W := by
  have c0 := Lib.cell_of_heap hn 0
  have c1 := Lib.cell_of_heap hn 1
  have c2 := Lib.cell_of_heap hn 2
  have c3 := Lib.cell_of_heap hn 3
  have c4 := Lib.cell_of_heap hn 4
  have c5 := Lib.cell_of_heap hn 5
  have hp' : A.tmps[p]?.getD undef = .pointer (some ⟨gb, 0, none⟩) := by simpa using hp
  refine bodyPost_ret (v := svV cd n a m c root x y) ?_ hd h
  simp [results, hres, go_sem, asAddr, hp', c0, c1, c2, c3, c4, c5]
/-- The block of a Saved. -/
def SB (g : Nat) (cd n : Int) (a : Option Addr) (m c : Nat) (root x y : ByteArray) (W : World) : Prop := W.heap[g]? = some (.cells #[.int .i64 cd, .int .i64 n, .slice a m c, .string root, .string x, .string y] 56)
/-- Six stores into it. -/
def set6 (W : World) (g : Nat) (cd n : Int) (a : Option Addr) (m c : Nat) (root x y : ByteArray) : World := (((((W.setCell ⟨g, 0, none⟩ (.int .i64 cd)).setCell ⟨g, 1, none⟩ (.int .i64 n)).setCell ⟨g, 2, none⟩ (.slice a m c)).setCell ⟨g, 3, none⟩ (.string root)).setCell ⟨g, 4, none⟩ (.string x)).setCell ⟨g, 5, none⟩ (.string y)
theorem SB.all {g : Nat} {cd n : Int} {a : Option Addr} {m c : Nat} {root x y : ByteArray} {W : World} (h : SB g cd n a m c root x y W) (cd' n' : Int) (a' : Option Addr) (m' c' : Nat) (root' x' y' : ByteArray) : SB g cd' n' a' m' c' root' x' y' (set6 W g cd' n' a' m' c' root' x' y') :=
  heap_setCell_same _ g 5 _ 56 (.string y') (heap_setCell_same _ g 4 _ 56 (.string x') (heap_setCell_same _ g 3 _ 56 (.string root') (heap_setCell_same _ g 2 _ 56 (.slice a' m' c') (heap_setCell_same _ g 1 _ 56 (.int .i64 n') (heap_setCell_same _ g 0 _ 56 (.int .i64 cd') h)))))
theorem SB.at {g : Nat} {cd n : Int} {a : Option Addr} {m c : Nat} {root x y : ByteArray} {W : World} (h : SB g cd n a m c root x y W) : W.cell? ⟨g, 0, none⟩ = some (.int .i64 cd) ∧ W.cell? ⟨g, 1, none⟩ = some (.int .i64 n) ∧ W.cell? ⟨g, 2, none⟩ = some (.slice a m c) ∧ W.cell? ⟨g, 3, none⟩ = some (.string root) ∧ W.cell? ⟨g, 4, none⟩ = some (.string x) ∧ W.cell? ⟨g, 5, none⟩ = some (.string y) ∧ ∀ j, W.frozen? ⟨g, j, none⟩ = false :=
  ⟨Lib.cell_of_heap h 0, Lib.cell_of_heap h 1, Lib.cell_of_heap h 2, Lib.cell_of_heap h 3, Lib.cell_of_heap h 4, Lib.cell_of_heap h 5, fun j => by rw [World.frozen?, show W.heap[g]? = _ from h]; rfl⟩
theorem OwnT.set6 {w W : World} {xs : List ByteArray} {a0 : Option Addr} {m0 c0 : Nat} {g : Nat} {cs : Array Value} (h : OwnT w xs a0 m0 c0 W) (hg : W.heap[g]? = some (.cells cs 56)) (hge : w.heap.size ≤ g) (cd n : Int) (a : Option Addr) (m c : Nat) (root x y : ByteArray) : OwnT w xs a0 m0 c0 (set6 W g cd n a m c root x y) := by
  refine ⟨ownG_kept h.own (fun q hv hq => ?_), (((((h.bel.setCell (p := ⟨g, 0, none⟩) hge _).setCell (p := ⟨g, 1, none⟩) hge _).setCell (p := ⟨g, 2, none⟩) hge _).setCell (p := ⟨g, 3, none⟩) hge _).setCell (p := ⟨g, 4, none⟩) hge _).setCell (p := ⟨g, 5, none⟩) hge _, h.len⟩
  have hne : q ≠ g := by
    intro e; subst e; obtain ⟨_, _, cur, h9⟩ := ownG_cells h.own hv; rw [hg] at h9; simp at h9
  unfold Proofs.YtibjhkpgaaapaaaGreatDoor.set6
  rw [Below.heap_setCell _ _ _ _ (by show q ≠ g; exact hne), Below.heap_setCell _ _ _ _ (by show q ≠ g; exact hne), Below.heap_setCell _ _ _ _ (by show q ≠ g; exact hne), Below.heap_setCell _ _ _ _ (by show q ≠ g; exact hne), Below.heap_setCell _ _ _ _ (by show q ≠ g; exact hne), Below.heap_setCell _ _ _ _ (by show q ≠ g; exact hne)]
/-- What Save of a map into a pool that is one answers. -/
def savO (wd : Nat) (ss : List ByteArray) (t : Tr PairT) : SvO := svOut wd ss (rootT wd t) (svAll wd ss (encsT wd t))
def saveO (n : Int) (ss : List ByteArray) (ps : List PairT) : SvO := if (poolOk n ss.length && isMapT ps) = true then savO n.toNat ss (cutTree ps) else codeO 1
theorem SavedIs.code {c : Int} {w : World} {g : Nat} {W : World} (hb : Below w.heap.size w W) (hg : SB g 0 0 none 0 0 ⟨#[]⟩ ⟨#[]⟩ ⟨#[]⟩ W) (hge : w.heap.size ≤ g) : SavedIs (codeO c) w (.returned (svV c 0 none 0 0 ⟨#[]⟩ ⟨#[]⟩ ⟨#[]⟩)) (set6 W g c 0 none 0 0 ⟨#[]⟩ ⟨#[]⟩ ⟨#[]⟩) :=
  ⟨none, 0, rfl, (OwnT.nil hb).set6 hg hge c 0 none 0 0 ⟨#[]⟩ ⟨#[]⟩ ⟨#[]⟩⟩
theorem encsT_size (wd : Nat) : ∀ (t : Tr PairT), ∀ e ∈ encsT wd t, e.size ≤ 10000
  | .nil, e, h => by cases h
  | .node l x r, e, h => by
    rw [encsT, List.mem_append, List.mem_append] at h
    rcases h with (h | h) | h
    · exact encsT_size wd l e h
    · exact encsT_size wd r e h
    · rw [List.mem_singleton] at h
      rw [h]
      exact (encS_size x.1 x.2 (rootT wd l) (rootT wd r) wd).1
theorem row_sarg {W : World} {base g n c : Nat} {xs : List ByteArray} (h : Row W base g n c (xs.map Value.string)) (hl : xs.length ≤ 1048576) (hs : ∀ j, (xs.getD j ⟨#[]⟩).size ≤ 1048576) : SArg (some ⟨g, 0, none⟩) xs W := by
  have hn : n = xs.length := by have := h.len; rw [List.length_map] at this; exact this.symm
  subst hn
  refine ⟨hl, hs, fun _ => ⟨g, 0, rfl, h.lt, fun j hj => ?_⟩⟩
  rw [Nat.zero_add, h.cell j hj, List.getElem?_map, List.getElem?_eq_getElem hj, List.getD_eq_getElem?_getD, List.getElem?_eq_getElem hj]
  rfl
theorem same_hit (wd : Nat) (X : List ByteArray) (H : ByteArray) : firstI (sameB (X.map (hashT wd)) H) X.length = firstI (hitB wd X H) X.length :=
  firstI_congr fun j hj => by
    unfold sameB hitB
    rw [← hashT_hit]
    congr 2
    rw [List.getD_eq_getElem?_getD, List.getD_eq_getElem?_getD, List.getElem?_map, List.getElem?_eq_getElem hj]
    rfl
/-- What the model's Save holds, between two encodings. -/
structure MS (w : World) (gp go ge wd : Nat) (a : Option Addr) (N c K ce : Nat) (es xs ys : List ByteArray) (gh ch : Nat) (ao : Option Addr) (co : Nat) (W : World) : Prop where
  par : W.heap[gp]? = some (.cells #[.int .i64 (wd : Int), .slice a N c] 31)
  res : SB (gp + 1) 0 0 none 0 0 ⟨#[]⟩ ⟨#[]⟩ ⟨#[]⟩ W
  out : W.heap[go]? = some (.cells #[.int .i64 (wd : Int), .slice ao xs.length co] 31)
  own : OwnT w xs ao xs.length co W
  hs : Row W w.heap.size gh ys.length ch ((ys.map (hashT wd)).map Value.string)
  enc : Row W w.heap.size ge K ce (es.map Value.string)
  n1 : gh ≠ gp ∧ gh ≠ gp + 1 ∧ gh ≠ go ∧ gh ≠ ge
  n2 : ge ≠ gp ∧ ge ≠ gp + 1 ∧ ge ≠ go
  n3 : ∀ g, (Value.slice ao xs.length co).ownBlock = some g → g ≠ gh ∧ g ≠ ge
  n4 : go ≠ gp ∧ w.heap.size ≤ go
section
variable {w : World} {gp go ge wd : Nat} {a : Option Addr} {N c K ce : Nat} {es xs ys : List ByteArray} {gh ch : Nat} {ao : Option Addr} {co : Nat} {W : World}
theorem MS.below (h : MS w gp go ge wd a N c K ce es xs ys gh ch ao co W) {W' : World} (hb : Below W.heap.size W W') : MS w gp go ge wd a N c K ce es xs ys gh ch ao co W' :=
  ⟨pblk_below hb h.par, pblk_below hb h.res, pblk_below hb h.out, h.own.below hb, h.hs.below hb, h.enc.below hb, h.n1, h.n2, h.n3, h.n4⟩
theorem MS.notOwn (h : MS w gp go ge wd a N c K ce es xs ys gh ch ao co W) {q : Nat} {cs : Array Value} {t : TypeId} (hq : W.heap[q]? = some (.cells cs t)) (ht : t ≠ 9) : some q ≠ (Value.slice ao xs.length co).ownBlock := fun e => by
  obtain ⟨_, _, cur, h9⟩ := ownG_cells h.own.own e.symm
  rw [hq] at h9
  simp at h9
  exact ht h9.2
theorem MS.addOut (h : MS w gp go ge wd a N c K ce es xs ys gh ch ao co W) {w4 : World} {o : Obj} {g4 c4 : Nat} {y : ByteArray} (hown : w4.ownsRow w.heap.size 9 1 (.slice (some ⟨g4, 0, none⟩) (xs.length + 1) c4) (xs.length + 1) (xs.map Value.string ++ [.string y])) (hgrow : (W.alloc o).grownBy w4 (Value.slice ao xs.length co).ownBlock) (hat : (Value.slice ao xs.length co).ownBlock = some g4 ∨ g4 = W.heap.size + 1) :
    MS w gp go ge wd a N c K ce es (xs ++ [y]) ys gh ch (some ⟨g4, 0, none⟩) c4 (w4.setCell ⟨go, 1, none⟩ (.slice (some ⟨g4, 0, none⟩) (xs.length + 1) c4)) := by
  have hlen : (xs ++ [y]).length = xs.length + 1 := by rw [List.length_append]; rfl
  have hblk : ∀ {q : Nat} {cs : Array Value} {t : TypeId}, W.heap[q]? = some (.cells cs t) → t ≠ 9 → w4.heap[q]? = some (.cells cs t) := fun {q cs t} hq ht => by
    have hl := (Array.getElem?_eq_some_iff.1 hq).1
    exact (hgrow.block q (by simp; omega) (h.notOwn hq ht)).trans ((Below.heap_alloc W o q hl).trans hq)
  have hrow : ∀ {g n' c' : Nat} {vs : List Value}, Row W w.heap.size g n' c' vs → some g ≠ (Value.slice ao xs.length co).ownBlock → g ≠ go → Row (w4.setCell ⟨go, 1, none⟩ (.slice (some ⟨g4, 0, none⟩) (xs.length + 1) c4)) w.heap.size g n' c' vs := fun {g n' c' vs} hr hn hg => ((hr.alloc o).kept hgrow hn).kept (grownBy_setCell w4 go 1 _) (fun e => hg (Option.some.inj e))
  have hT4 : OwnT w (xs ++ [y]) (some ⟨g4, 0, none⟩) (xs.length + 1) c4 w4 := h.own.more hown hgrow rfl
  have ho4 := hblk h.out (by decide)
  refine ⟨(Below.heap_setCell _ _ _ _ (by show gp ≠ go; exact fun e => h.n4.1 e.symm)).trans (hblk h.par (by decide)), ?_, by rw [hlen]; exact heap_setCell_same w4 go 1 _ 31 _ ho4, by rw [hlen]; exact hT4.set ho4 h.n4.2 _, hrow h.hs (fun e => (h.n3 _ e.symm).1 rfl) h.n1.2.2.1, hrow h.enc (fun e => (h.n3 _ e.symm).2 rfl) h.n2.2.2, h.n1, h.n2, ?_, h.n4⟩
  · have hne : gp + 1 ≠ go := fun e => by
      have h1 : W.heap[gp + 1]? = _ := h.res
      rw [e, h.out] at h1
      simp at h1
    exact (Below.heap_setCell _ _ _ _ (by show gp + 1 ≠ go; exact hne)).trans (hblk h.res (by decide))
  · intro g hg
    have hg' : g4 = g := Option.some.inj hg
    subst hg'
    rcases hat with q | q
    · exact h.n3 _ q
    · have l1 := h.hs.lt
      have l2 := h.enc.lt
      omega
theorem MS.addHash (h : MS w gp go ge wd a N c K ce es xs ys gh ch ao co W) {w6 : World} {o : Obj} {g6 c6 : Nat} {y : ByteArray} (hr : Row w6 w.heap.size g6 (ys.length + 1) c6 ((ys.map (hashT wd)).map Value.string ++ [.string (hashT wd y)])) (hgrow : (W.alloc o).grownBy w6 (some gh)) (hat : g6 = gh ∨ g6 = W.heap.size + 1) :
    MS w gp go ge wd a N c K ce es xs (ys ++ [y]) g6 c6 ao co w6 := by
  have hlen : (ys ++ [y]).length = ys.length + 1 := by rw [List.length_append]; rfl
  have hblk : ∀ {q : Nat} {cs : Array Value} {t : TypeId}, W.heap[q]? = some (.cells cs t) → q ≠ gh → w6.heap[q]? = some (.cells cs t) := fun {q cs t} hq hn => by
    have hl := (Array.getElem?_eq_some_iff.1 hq).1
    exact (hgrow.block q (by simp; omega) (fun e => hn (Option.some.inj e))).trans ((Below.heap_alloc W o q hl).trans hq)
  have hz := h.hs.ge
  have l2 := h.enc.lt
  have l3 := (Array.getElem?_eq_some_iff.1 h.par).1
  have l4 := (Array.getElem?_eq_some_iff.1 (show W.heap[gp + 1]? = _ from h.res)).1
  have l5 := (Array.getElem?_eq_some_iff.1 h.out).1
  have n1 := h.n1
  have n2 := h.n2
  refine ⟨hblk h.par (fun e => n1.1 e.symm), hblk h.res (fun e => n1.2.1 e.symm), hblk h.out (fun e => n1.2.2.1 e.symm), ⟨ownG_kept h.own.own (fun q hv hq => ?_), ?_, h.own.len⟩, by rw [hlen, List.map_append, List.map_append]; exact hr, (h.enc.alloc o).kept hgrow (fun e => n1.2.2.2 (Option.some.inj e).symm), ?_, n2, fun g hg => ⟨?_, (h.n3 g hg).2⟩, h.n4⟩
  · exact (hgrow.block q (by simp; omega) (fun e => (h.n3 q hv).1 (Option.some.inj e))).trans (Below.heap_alloc W o q hq)
  · have hbA : Below w.heap.size w (W.alloc o) := h.own.bel.alloc h.own.bel.size o
    exact hbA.trans (below_of_grown hgrow hz hbA.size)
  · rcases hat with q | q <;> omega
  · have l6 := (ownG_cells h.own.own hg).2.1
    have := (h.n3 g hg).1
    rcases hat with q | q <;> omega
end
end Go.Proofs.YtibjhkpgaaapaaaGreatDoor
