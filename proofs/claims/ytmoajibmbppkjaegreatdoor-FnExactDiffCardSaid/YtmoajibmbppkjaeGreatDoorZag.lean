import Derived.Test.YtmoajibmbppkjaeGreatDoorZaf
namespace Go.Proofs.YtmoajibmbppkjaeGreatDoor
open Go.RowKit Go.Proofs.Sha

/-- A slice of texts. -/
structure SArg (a : Option Addr) (ss : List ByteArray) (w : World) : Prop where
  le : ss.length ≤ 1048576
  sz : ∀ j, (ss.getD j ⟨#[]⟩).size ≤ 1048576
  at_ : 0 < ss.length → ∃ b off : Nat, a = some ⟨b, off, none⟩ ∧ b < w.heap.size ∧ ∀ j, j < ss.length → w.cell? ⟨b, off + j, none⟩ = some (.string (ss.getD j ⟨#[]⟩))
theorem SArg.below {a : Option Addr} {ss : List ByteArray} {w w' : World} (h : SArg a ss w) (hb : Below w.heap.size w w') : SArg a ss w' := by
  refine ⟨h.le, h.sz, fun hn => ?_⟩
  obtain ⟨b, off, ha, hlt, hc⟩ := h.at_ hn
  exact ⟨b, off, ha, Nat.lt_of_lt_of_le hlt hb.size, fun j hj => (hb.cell hlt).trans (hc j hj)⟩
/-- The hash of an encoding, cut to a width. -/
def keyW (wd : Nat) (s : ByteArray) : List UInt8 := cutW wd (sha (78 :: s.data.toList))
/-- The places of the first k encodings. -/
def placesF (wd : Nat) (ss : List ByteArray) : Nat → List UInt8 → Option Int
  | 0 => fun _ => none
  | k + 1 => addF (placesF wd ss k) (keyW wd (ss.getD k ⟨#[]⟩)) (k : Int)

end Go.Proofs.YtmoajibmbppkjaeGreatDoor
namespace Go.Proofs.YtmoajibmbppkjaeGreatDoor
open Go.RowKit Go.Proofs.Sha

/-- The first place at which p holds. -/
def firstI (p : Nat → Bool) : Nat → Option Nat
  | 0 => none
  | k + 1 => match firstI p k with
    | some i => some i
    | none => if p k then some k else none
theorem firstI_lt {p : Nat → Bool} {k i : Nat} (h : firstI p k = some i) : i < k := by
  induction k with
  | zero => cases h
  | succ k ih =>
    rw [firstI] at h
    cases hk : firstI p k with
    | some j => rw [hk] at h; simp only [Option.some.injEq] at h; subst h; have := ih hk; omega
    | none =>
      rw [hk] at h
      simp only at h
      split at h
      · simp only [Option.some.injEq] at h; omega
      · cases h
theorem placesF_first (wd : Nat) (ss : List ByteArray) (X : List UInt8) (k : Nat) : placesF wd ss k X = (firstI (fun i => decide (keyW wd (ss.getD i ⟨#[]⟩) = X)) k).map fun i => (i : Int) := by
  induction k with
  | zero => rfl
  | succ k ih =>
    rw [placesF, addF, firstI]
    obtain ⟨Y, hY⟩ : ∃ Y, keyW wd (ss.getD k ⟨#[]⟩) = Y := ⟨_, rfl⟩
    rw [hY]
    by_cases hn : placesF wd ss k Y = none
    · rw [if_pos hn]
      by_cases hXY : X = Y
      · subst hXY
        rw [if_pos rfl]
        rw [ih] at hn
        cases hf : firstI (fun i => decide (keyW wd (ss.getD i ⟨#[]⟩) = X)) k with
        | some j => rw [hf] at hn; cases hn
        | none => simp
      · rw [if_neg hXY, ih]
        cases hf : firstI (fun i => decide (keyW wd (ss.getD i ⟨#[]⟩) = X)) k with
        | some j => rfl
        | none => simp [Ne.symm hXY]
    · rw [if_neg hn, ih]
      cases hf : firstI (fun i => decide (keyW wd (ss.getD i ⟨#[]⟩) = X)) k with
      | some j => rfl
      | none =>
        simp only
        by_cases hXY : Y = X
        · subst hXY
          rw [ih, hf] at hn
          exact absurd rfl hn
        · simp [hXY]
def poolOk (n : Int) (m : Nat) : Bool := decide (1 ≤ n ∧ n ≤ 32 ∧ m ≤ 20000)
set_option maxRecDepth 100000 in
theorem validPool_any (n : Int) (a : Option Addr) (m c : Nat) (w : World) (_hm : m ≤ 1048576) :
    Calls Tryz.prog 51 #[.agg #[.int .i64 n, .slice a m c]] w fun e w' => e = .returned (.bool (poolOk n m)) ∧ Below w.heap.size w w' := by
  have hfin : Below w.heap.size w (w.alloc (.cells #[.int .i64 n, .slice a m c] 29)) := (Below.refl _ _).alloc (Nat.le_refl _) _
  by_cases c1 : 1 ≤ n
  · by_cases c2 : n ≤ 32
    · have hr : poolOk n m = decide ((m : Int) ≤ 20000) := by
        unfold poolOk
        by_cases c3 : m ≤ 20000
        · rw [decide_eq_true (by omega), decide_eq_true (by omega)]
        · rw [decide_eq_false (by omega), decide_eq_false (by omega)]
      rw [hr]
      clear hr
      go_enter Tryz.func51, Tryz.ntmps51
      go_wp2_with (first | go_in)
      go_ret
      exact ⟨rfl, hfin⟩
    · have hr : poolOk n m = false := by unfold poolOk; rw [decide_eq_false (by omega)]
      rw [hr]
      clear hr
      go_enter Tryz.func51, Tryz.ntmps51
      go_wp2_with (first | go_in)
      go_ret
      exact ⟨rfl, hfin⟩
  · have hr : poolOk n m = false := by unfold poolOk; rw [decide_eq_false (by omega)]
    rw [hr]
    clear hr
    go_enter Tryz.func51, Tryz.ntmps51
    go_wp2_with (first | go_in)
    go_ret
    exact ⟨rfl, hfin⟩
set_option maxRecDepth 100000 in
theorem poolOk_any (n : Int) (a : Option Addr) (m c : Nat) (w : World) (_hm : m ≤ 1048576) :
    Calls Tryz.prog 100 #[.agg #[.int .i64 n, .slice a m c]] w fun e w' => e = .returned (.bool (poolOk n m)) ∧ Below w.heap.size w w' := by
  have hfin : Below w.heap.size w (w.alloc (.cells #[.int .i64 n, .slice a m c] 29)) := (Below.refl _ _).alloc (Nat.le_refl _) _
  by_cases c1 : 1 ≤ n
  · by_cases c2 : n ≤ 32
    · have hr : poolOk n m = decide ((m : Int) ≤ 20000) := by
        unfold poolOk
        by_cases c3 : m ≤ 20000
        · rw [decide_eq_true (by omega), decide_eq_true (by omega)]
        · rw [decide_eq_false (by omega), decide_eq_false (by omega)]
      rw [hr]
      clear hr
      go_enter Tryz.func100, Tryz.ntmps100
      go_wp2_with (first | go_in)
      go_ret
      exact ⟨rfl, hfin⟩
    · have hr : poolOk n m = false := by unfold poolOk; rw [decide_eq_false (by omega)]
      rw [hr]
      clear hr
      go_enter Tryz.func100, Tryz.ntmps100
      go_wp2_with (first | go_in)
      go_ret
      exact ⟨rfl, hfin⟩
  · have hr : poolOk n m = false := by unfold poolOk; rw [decide_eq_false (by omega)]
    rw [hr]
    clear hr
    go_enter Tryz.func100, Tryz.ntmps100
    go_wp2_with (first | go_in)
    go_ret
    exact ⟨rfl, hfin⟩

/-- What DecodeNode answers, at one width. -/
structure Dec where
  k : ByteArray → ByteArray
  v : ByteArray → ByteArray
  l : ByteArray → ByteArray
  r : ByteArray → ByteArray
  ok : ByteArray → Bool
def DecSaid (f : FuncId) (wd : Nat) (D : Dec) : Prop := ∀ (s : ByteArray) (w : World), s.size ≤ 1048576 → Calls Tryz.prog f #[.string s, .int .i64 (wd : Int)] w fun e w' => e = .returned (.tuple #[.agg #[.string (D.k s), .string (D.v s), .string (D.l s), .string (D.r s)], .bool (D.ok s)]) ∧ Below w.heap.size w w'
/-- What PoolFind answers. -/
def foundR (D : Dec) (ss : List ByteArray) : Option Nat → (ByteArray × ByteArray × ByteArray × ByteArray) × Int
  | none => ((⟨#[]⟩, ⟨#[]⟩, ⟨#[]⟩, ⟨#[]⟩), 2)
  | some i => if D.ok (ss.getD i ⟨#[]⟩) then ((D.k (ss.getD i ⟨#[]⟩), D.v (ss.getD i ⟨#[]⟩), D.l (ss.getD i ⟨#[]⟩), D.r (ss.getD i ⟨#[]⟩)), 0) else ((⟨#[]⟩, ⟨#[]⟩, ⟨#[]⟩, ⟨#[]⟩), 3)
def nodeT (x : (ByteArray × ByteArray × ByteArray × ByteArray) × Int) : Value := .tuple #[.agg #[.string x.1.1, .string x.1.2.1, .string x.1.2.2.1, .string x.1.2.2.2], .int .i64 x.2]
/-- The hashes in the pool that are this one. -/
def hitB (wd : Nat) (ss : List ByteArray) (hash : ByteArray) (i : Nat) : Bool := decide ((sha (78 :: (ss.getD i ⟨#[]⟩).data.toList)).take wd = hash.data.toList)
theorem key_hit (wd : Nat) (ss : List ByteArray) (hash : ByteArray) (_h1 : wd ≤ 32) (h2 : hash.size = wd) (i : Nat) : decide (keyW wd (ss.getD i ⟨#[]⟩) = cutW wd hash.data.toList) = hitB wd ss hash i := by
  unfold keyW cutW hitB
  have hl : hash.data.toList.length = wd := h2
  rw [List.take_of_length_le (l := hash.data.toList) (by omega)]
  congr 1
  rw [List.append_cancel_right_eq]
end Go.Proofs.YtmoajibmbppkjaeGreatDoor
namespace Go.Proofs.YtmoajibmbppkjaeGreatDoor
open Go.RowKit Go.Proofs.Sha

def pfR (D : Dec) (n : Int) (ss : List ByteArray) (hash : ByteArray) : (ByteArray × ByteArray × ByteArray × ByteArray) × Int :=
  if poolOk n ss.length = true ∧ (hash.size : Int) = n then foundR D ss (firstI (hitB n.toNat ss hash) ss.length) else ((⟨#[]⟩, ⟨#[]⟩, ⟨#[]⟩, ⟨#[]⟩), 1)

/-- A node's block. -/
def NBk (g : Nat) (k v l r : ByteArray) (w : World) : Prop := w.heap[g]? = some (.cells #[.string k, .string v, .string l, .string r] 159)
theorem NBk.below {g : Nat} {k v l r : ByteArray} {w w' : World} (h : NBk g k v l r w) (hb : Below w.heap.size w w') : NBk g k v l r w' := (hb.block g (Array.getElem?_eq_some_iff.1 h).1).trans h
theorem NBk.all {g : Nat} {k v l r : ByteArray} {w : World} (h : NBk g k v l r w) (x y z u : ByteArray) : NBk g x y z u ((((w.setCell ⟨g, 0, none⟩ (.string x)).setCell ⟨g, 1, none⟩ (.string y)).setCell ⟨g, 2, none⟩ (.string z)).setCell ⟨g, 3, none⟩ (.string u)) :=
  heap_setCell_same _ g 3 _ 159 _ (heap_setCell_same _ g 2 _ 159 _ (heap_setCell_same _ g 1 _ 159 _ (heap_setCell_same _ g 0 _ 159 _ h)))
theorem NBk.fr {g j : Nat} {k v l r : ByteArray} {w : World} (h : NBk g k v l r w) : w.frozen? ⟨g, j, none⟩ = false := by rw [World.frozen?, show w.heap[g]? = _ from h]; rfl
structure NBc (g : Nat) (k v l r : ByteArray) (w : World) : Prop where
  c0 : w.cell? ⟨g, 0, none⟩ = some (.string k)
  c1 : w.cell? ⟨g, 1, none⟩ = some (.string v)
  c2 : w.cell? ⟨g, 2, none⟩ = some (.string l)
  c3 : w.cell? ⟨g, 3, none⟩ = some (.string r)
  f0 : w.frozen? ⟨g, 0, none⟩ = false
  f1 : w.frozen? ⟨g, 1, none⟩ = false
  f2 : w.frozen? ⟨g, 2, none⟩ = false
  f3 : w.frozen? ⟨g, 3, none⟩ = false
theorem NBk.at {g : Nat} {k v l r : ByteArray} {w : World} (h : NBk g k v l r w) : NBc g k v l r w :=
  ⟨Lib.cell_of_heap h 0, Lib.cell_of_heap h 1, Lib.cell_of_heap h 2, Lib.cell_of_heap h 3, h.fr, h.fr, h.fr, h.fr⟩
set_option maxRecDepth 100000 in
theorem retN {fn : Func} {R : Ending → World → Prop} {A : Act} {p q : Tmp} {gb : Nat} {k v l r : ByteArray} {c : Int} {W : World} (hres : fn.results = #[.cell p 159, .tmp q]) (hp : A.tmps.getD p undef = .pointer (some ⟨gb, 0, none⟩)) (hq : A.tmps.getD q undef = .int .i64 c) (hd : A.defers = []) (n : NBk gb k v l r W)
    (h : R (.returned (nodeT ((k, v, l, r), c))) W) : bodyPost Tryz.prog fn R Exit.ret A W := by
  obtain ⟨c0, c1, c2, c3, _, _, _, _⟩ := n.at
  have hp' : A.tmps[p]?.getD undef = .pointer (some ⟨gb, 0, none⟩) := by simpa using hp
  have hq' : A.tmps[q]?.getD undef = .int .i64 c := by simpa using hq
  refine bodyPost_ret (v := nodeT ((k, v, l, r), c)) ?_ hd h
  unfold nodeT
  simp [results, hres, go_sem, asAddr, hp', hq', c0, c1, c2, c3]
/-- A call whose argument is a pool and which answers a node. -/
structure P2 (w : World) (ga gb : Nat) (n : Int) (a : Option Addr) (m c : Nat) (W : World) : Prop where
  sz : w.heap.size = ga
  nx : gb = ga + 1
  bl : Below ga w W
  na : W.heap[ga]? = some (.cells #[.int .i64 n, .slice a m c] 29)
  nb : NBk gb ⟨#[]⟩ ⟨#[]⟩ ⟨#[]⟩ ⟨#[]⟩ W
section
variable {w : World} {ga gb : Nat} {n : Int} {a : Option Addr} {m c : Nat} {W W' : World}
theorem P2.mk0 (w : World) (n : Int) (a : Option Addr) (m c : Nat) : P2 w w.heap.size (w.heap.size + 1) n a m c ((w.alloc (.cells #[.int .i64 n, .slice a m c] 29)).alloc (.cells #[.string ⟨#[]⟩, .string ⟨#[]⟩, .string ⟨#[]⟩, .string ⟨#[]⟩] 159)) := by
  refine ⟨rfl, rfl, ((Below.refl _ w).alloc (Nat.le_refl _) _).alloc (by simp) _, ?_, ?_⟩
  · exact (((Below.refl _ (w.alloc (.cells #[.int .i64 n, .slice a m c] 29))).alloc (Nat.le_refl _) _).block _ (by simp)).trans (heap_alloc_new w _)
  · have := heap_alloc_new (w.alloc (.cells #[.int .i64 n, .slice a m c] 29)) (.cells #[.string ⟨#[]⟩, .string ⟨#[]⟩, .string ⟨#[]⟩, .string ⟨#[]⟩] 159)
    rw [World.size_alloc] at this
    exact this
theorem P2.below (h : P2 w ga gb n a m c W) (hb : Below W.heap.size W W') : P2 w ga gb n a m c W' :=
  ⟨h.sz, h.nx, h.bl.trans (hb.mono (by have := h.bl.size; have := h.sz; omega)), (hb.block ga (Array.getElem?_eq_some_iff.1 h.na).1).trans h.na, h.nb.below hb⟩
theorem P2.fin (h : P2 w ga gb n a m c W) (x y z u : ByteArray) : Below w.heap.size w ((((W.setCell ⟨gb, 0, none⟩ (.string x)).setCell ⟨gb, 1, none⟩ (.string y)).setCell ⟨gb, 2, none⟩ (.string z)).setCell ⟨gb, 3, none⟩ (.string u)) := by
  have hge : ga ≤ gb := by have := h.nx; omega
  rw [h.sz]
  exact (((h.bl.setCell hge _).setCell hge _).setCell hge _).setCell hge _
theorem P2.set4 (h : P2 w ga gb n a m c W) {g : Nat} (hg : gb < g) (x y z u : Value) : P2 w ga gb n a m c ((((W.setCell ⟨g, 0, none⟩ x).setCell ⟨g, 1, none⟩ y).setCell ⟨g, 2, none⟩ z).setCell ⟨g, 3, none⟩ u) := by
  have hge : gb + 1 ≤ g := hg
  have hb : Below (gb + 1) W ((((W.setCell ⟨g, 0, none⟩ x).setCell ⟨g, 1, none⟩ y).setCell ⟨g, 2, none⟩ z).setCell ⟨g, 3, none⟩ u) := ((((Below.refl _ W).setCell hge _).setCell hge _).setCell hge _).setCell hge _
  have hx := h.nx
  exact ⟨h.sz, h.nx, h.bl.trans (hb.mono (by omega)), (hb.block ga (by omega)).trans h.na, (hb.block gb (by omega)).trans h.nb⟩
theorem P2.bw (h : P2 w ga gb n a m c W) : Below w.heap.size w W := by rw [h.sz]; exact h.bl
end

end Go.Proofs.YtmoajibmbppkjaeGreatDoor
