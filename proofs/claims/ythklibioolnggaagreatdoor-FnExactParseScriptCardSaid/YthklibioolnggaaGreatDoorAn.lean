import Derived.Test.YthklibioolnggaaGreatDoorAm
namespace Go.Proofs.YthklibioolnggaaGreatDoor
open Go.RowKit Go.Proofs.Sha

/-- An operation in memory: itself, and where its picks lie. -/
abbrev OE := OpT × Option Addr × Nat
def opL (e : OE) : List Value := [.int .i64 (e.1.kind : Int), .string e.1.key, .string e.1.val, .int .i64 e.1.n, .int .i64 e.1.m, .slice e.2.1 e.1.picks.length e.2.2]
def flatE : List OE → List Value
  | [] => []
  | e :: r => opL e ++ flatE r
theorem flatE_app (xs ys : List OE) : flatE (xs ++ ys) = flatE xs ++ flatE ys := by
  induction xs with
  | nil => rfl
  | cons x r ih => rw [List.cons_append, flatE, flatE, ih, List.append_assoc]
theorem flatE_len (xs : List OE) : (flatE xs).length = xs.length * 6 := by
  induction xs with
  | nil => rfl
  | cons x r ih => rw [flatE, List.length_append, ih]; simp [opL]; omega
theorem flatE_get (xs : List OE) : ∀ (j f : Nat) (h : j < xs.length), f < 6 → (flatE xs)[6 * j + f]? = (opL xs[j])[f]? := by
  induction xs with
  | nil => intro j f h; simp at h
  | cons x r ih =>
    intro j f h hf
    cases j with
    | zero => rw [flatE, List.getElem?_append_left (by simp [opL]; omega)]; simp
    | succ j =>
      rw [flatE, List.getElem?_append_right (by simp [opL]; omega)]
      rw [show 6 * (j + 1) + f - (opL x).length = 6 * j + f by simp [opL]; omega]
      exact ih j f (by simpa using h) hf
def blk (e : OE) : Option Nat := e.2.1.map (·.block)
/-- Operations of the call's own: the row, and the rows of their picks, all apart. -/
structure OpsAt (base : Nat) (es : List OE) (a : Option Addr) (c : Nat) (W : World) : Prop where
  row : W.ownsRow base 37 6 (.slice a es.length c) es.length (flatE es)
  pk : ∀ e ∈ es, W.ownsRow base 3 1 (.slice e.2.1 e.1.picks.length e.2.2) e.1.picks.length (e.1.picks.map I)
  nd : (es.filterMap blk).Nodup
theorem OpsAt.kept {base : Nat} {es : List OE} {a : Option Addr} {c : Nat} {W W' : World} (h : OpsAt base es a c W) (hk : ∀ (q : Nat) (cs : Array Value) (T : TypeId), (T = 37 ∨ T = 3) → W.heap[q]? = some (.cells cs T (0, 0)) → W'.heap[q]? = W.heap[q]?) : OpsAt base es a c W' :=
  ⟨ownG_kept h.row (fun q hv _ => by obtain ⟨_, _, cur, h4⟩ := ownG_cells h.row hv; exact hk q cur 37 (.inl rfl) h4), fun e he => ownG_kept (h.pk e he) (fun q hv _ => by obtain ⟨_, _, cur, h4⟩ := ownG_cells (h.pk e he) hv; exact hk q cur 3 (.inr rfl) h4), h.nd⟩
theorem OpsAt.below {base : Nat} {es : List OE} {a : Option Addr} {c : Nat} {W W' : World} (h : OpsAt base es a c W) (hb : Below W.heap.size W W') : OpsAt base es a c W' :=
  h.kept (fun q _ _ _ hq => hb.block q (Array.getElem?_eq_some_iff.1 hq).1)
theorem OpsAt.mono {base base' : Nat} {es : List OE} {a : Option Addr} {c : Nat} {W : World} (h : OpsAt base es a c W) (hb : base' ≤ base) : OpsAt base' es a c W :=
  ⟨ownG_mono h.row hb, fun e he => ownG_mono (h.pk e he) hb, h.nd⟩
theorem ops_nil (base : Nat) (W : World) : OpsAt base [] none 0 W := ⟨World.ownsRow_nil _ _ _ _, fun e he => absurd he (by simp), List.nodup_nil⟩
/-- One operation more: it was laid behind all that were there. -/
theorem OpsAt.more {base mid : Nat} {es : List OE} {a : Option Addr} {c g c' : Nat} {W1 W' : World} {e : OE} {o : Obj} (h : OpsAt base es a c W1) (hmid : ∀ x ∈ es, ∀ q, blk x = some q → q < mid)
    (he : W1.ownsRow mid 3 1 (.slice e.2.1 e.1.picks.length e.2.2) e.1.picks.length (e.1.picks.map I)) (hbm : base ≤ mid)
    (hown : W'.ownsRow base 37 6 (.slice (some ⟨g, 0, none⟩) (es.length + 1) c') (es.length + 1) (flatE es ++ opL e)) (hgrow : (W1.alloc o).grownBy W' (Value.slice a es.length c).ownBlock) : OpsAt base (es ++ [e]) (some ⟨g, 0, none⟩) c' W' := by
  refine ⟨?_, ?_, ?_⟩
  · rw [flatE_app, List.length_append]
    show W'.ownsRow base 37 6 (.slice (some ⟨g, 0, none⟩) (es.length + 1) c') (es.length + 1) (flatE es ++ flatE [e])
    rw [show flatE [e] = opL e by simp [flatE]]
    exact hown
  · intro x hx
    rcases List.mem_append.1 hx with hx | hx
    · exact ownG_kept (h.pk x hx) (fun q hv _ => by
        obtain ⟨_, _, cur, h4⟩ := ownG_cells (h.pk x hx) hv
        exact grown_at h.row hgrow h4 (by decide))
    · obtain rfl : x = e := by simpa using hx
      exact ownG_mono (ownG_kept he (fun q hv _ => by
        obtain ⟨_, _, cur, h4⟩ := ownG_cells he hv
        exact grown_at h.row hgrow h4 (by decide))) hbm
  · rw [List.filterMap_append, List.nodup_append]
    refine ⟨h.nd, by cases hb : blk e <;> simp [hb], ?_⟩
    intro q hq q' hq' hne
    subst hne
    obtain ⟨x, hx, hxq⟩ := List.mem_filterMap.1 hq
    obtain ⟨y, hy, hyq⟩ := List.mem_filterMap.1 hq'
    obtain rfl : y = e := by simpa using hy
    have h1 := hmid x hx q hxq
    have h2 : (Value.slice y.2.1 y.1.picks.length y.2.2).ownBlock = some q := by
      unfold blk at hyq
      cases hy2 : y.2.1 with
      | none => rw [hy2] at hyq; cases hyq
      | some ad => rw [hy2] at hyq; exact hyq
    have := (ownG_cells he h2).1
    omega
theorem OpsAt.blk_lt {base : Nat} {es : List OE} {a : Option Addr} {c : Nat} {W : World} (h : OpsAt base es a c W) : ∀ x ∈ es, ∀ q, blk x = some q → q < W.heap.size := by
  intro x hx q hq
  have h2 : (Value.slice x.2.1 x.1.picks.length x.2.2).ownBlock = some q := by
    unfold blk at hq
    cases hy2 : x.2.1 with
    | none => rw [hy2] at hq; cases hq
    | some ad => rw [hy2] at hq; exact hq
  exact (ownG_cells (h.pk x hx) h2).2.1
def ScPost (r : ScT) (w : World) (e : Ending) (w' : World) : Prop := ∃ (es : List OE) (a : Option Addr) (c : Nat), es.map (·.1) = r.ops ∧ e = .returned (.tuple #[.agg #[.int .i64 r.wd, .int .i64 r.cap, .slice a es.length c], .int .i64 r.code]) ∧ OpsAt w.heap.size es a c w' ∧ Below w.heap.size w w'
def set3 (W : World) (g : Nat) (v0 v1 v2 : Value) : World := ((W.setCell ⟨g, 0, none⟩ v0).setCell ⟨g, 1, none⟩ v1).setCell ⟨g, 2, none⟩ v2
theorem set3_heap {W : World} {g : Nat} {u0 u1 u2 : Value} (h : W.heap[g]? = some (.cells #[u0, u1, u2] 24)) (v0 v1 v2 : Value) : (set3 W g v0 v1 v2).heap[g]? = some (.cells #[v0, v1, v2] 24) :=
  heap_setCell_same _ g 2 _ 24 v2 (heap_setCell_same _ g 1 _ 24 v1 (heap_setCell_same _ g 0 _ 24 v0 h))
theorem set3_below {w W : World} {g : Nat} (h : Below w.heap.size w W) (hg : w.heap.size ≤ g) (v0 v1 v2 : Value) : Below w.heap.size w (set3 W g v0 v1 v2) :=
  ((h.setCell (p := ⟨g, 0, none⟩) hg _).setCell (p := ⟨g, 1, none⟩) hg _).setCell (p := ⟨g, 2, none⟩) hg _
theorem ops_setc {base g o : Nat} {es : List OE} {a : Option Addr} {c : Nat} {W : World} {cs : Array Value} {u : Value} (h : OpsAt base es a c W) (hg : W.heap[g]? = some (.cells cs 24)) : OpsAt base es a c (W.setCell ⟨g, o, none⟩ u) :=
  h.kept (fun q cs' T hT hq => Below.heap_setCell _ _ _ _ (ne_of_type hq hg (by rcases hT with rfl | rfl <;> decide)))
theorem ops_set3 {base g : Nat} {es : List OE} {a : Option Addr} {c : Nat} {W : World} {u0 u1 u2 : Value} (h : OpsAt base es a c W) (hg : W.heap[g]? = some (.cells #[u0, u1, u2] 24)) (v0 v1 v2 : Value) : OpsAt base es a c (set3 W g v0 v1 v2) :=
  h.kept (fun q cs' T hT hq => by
    have hne := ne_of_type hq hg (by rcases hT with rfl | rfl <;> decide)
    unfold set3
    rw [Below.heap_setCell _ _ _ _ (by exact hne), Below.heap_setCell _ _ _ _ (by exact hne), Below.heap_setCell _ _ _ _ (by exact hne)])
set_option maxRecDepth 100000 in
theorem retSc {fn : Func} {R : Ending → World → Prop} {A : Act} {g2 : Nat} {b : Int} {x0 x1 x2 : Value} {W : World} (hres : fn.results = #[.cell 2 24, .tmp 3]) (h2 : A.tmps.getD 2 undef = .pointer (some ⟨g2, 0, none⟩)) (h3 : A.tmps.getD 3 undef = .int .i64 b) (hd : A.defers = [])
    (hn : W.heap[g2]? = some (.cells #[x0, x1, x2] 24)) (h : R (.returned (.tuple #[.agg #[x0, x1, x2], .int .i64 b])) W) : bodyPost Tryz.prog fn R Exit.ret A W := by
  have c0 := Lib.cell_of_heap hn 0
  have c1 := Lib.cell_of_heap hn 1
  have c2 := Lib.cell_of_heap hn 2
  have h2' : A.tmps[2]?.getD undef = .pointer (some ⟨g2, 0, none⟩) := by simpa using h2
  have h3' : A.tmps[3]?.getD undef = .int .i64 b := by simpa using h3
  refine bodyPost_ret (v := .tuple #[.agg #[x0, x1, x2], .int .i64 b]) ?_ hd h
  simp [results, hres, go_sem, asAddr, h2', h3', c0, c1, c2]
theorem head_eq (word : List UInt8) (c : UInt8) (hc : c ≠ 119) (l : Option ByteArray) : headV word c l = if (headS word l).2 = true ∧ fitV c (headS word l).1 = true then some (headS word l).1 else none := by
  cases l with
  | none => simp [headV, headS]
  | some l =>
    have hn := num_both ((cutB 32 l).getD 1 ⟨#[]⟩).data.toList
    obtain ⟨hs, hhs⟩ : ∃ hs, headS word (some l) = hs := ⟨_, rfl⟩
    rw [hhs]
    simp only [headV]
    by_cases h1 : (cutB 32 l).length = 2 ∧ ((cutB 32 l).getD 0 ⟨#[]⟩).data.toList = word
    · have e : hs = numS ((cutB 32 l).getD 1 ⟨#[]⟩).data.toList := by rw [← hhs]; exact if_pos h1
      rw [← e] at hn
      rw [okT_num c _ hc]
      cases h2 : (numI ((cutB 32 l).getD 1 ⟨#[]⟩).data.toList).2 with
      | true =>
        have e1 := hn.1; rw [h2] at e1
        have e2 := hn.2 h2
        by_cases h3 : fitV c hs.1 = true
        · rw [if_pos ⟨h1.1, h1.2, by rw [e2, h3]; rfl⟩, if_pos ⟨e1.symm, h3⟩, e2]
        · rw [if_neg (fun h => h3 (by have := h.2.2; rw [e2] at this; simpa using this)), if_neg (fun h => h3 h.2)]
      | false =>
        have e1 := hn.1; rw [h2] at e1
        rw [← e1]; simp
    · have e : hs = (0, false) := by rw [← hhs]; exact if_neg h1
      rw [e, if_neg (fun h => h1 ⟨h.1, h.2.1⟩)]; simp
theorem info37 : (Tryz.prog.info? 37).map (fun i => (i.zero, i.size, i.bytes)) = some (some (.agg #[.int .i64 0, .string ⟨#[]⟩, .string ⟨#[]⟩, .int .i64 0, .int .i64 0, .slice none 0 0]), 6, 80) := by kernel_rfl
end Go.Proofs.YthklibioolnggaaGreatDoor
