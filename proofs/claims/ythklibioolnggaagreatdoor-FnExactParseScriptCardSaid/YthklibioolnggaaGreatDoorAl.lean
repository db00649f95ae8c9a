import Derived.Test.YthklibioolnggaaGreatDoorAk
namespace Go.Proofs.YthklibioolnggaaGreatDoor
open Go.RowKit Go.Proofs.Sha

theorem ne_of_type {W : World} {q p : Nat} {cs ds : Array Value} {T T' : TypeId} {f f' : Nat × Nat} (h : W.heap[q]? = some (.cells cs T f)) (h' : W.heap[p]? = some (.cells ds T' f')) (hT : T ≠ T') : q ≠ p := by
  rintro rfl
  rw [h] at h'
  simp only [Option.some.injEq, Obj.cells.injEq] at h'
  exact hT h'.2.1
theorem grown_at {W W' : World} {o : Obj} {base T' z' n' : Nat} {v' : Value} {ys : List Value} (own' : W.ownsRow base T' z' v' n' ys) (hg : (W.alloc o).grownBy W' v'.ownBlock) {q : Nat} {cs : Array Value} {T : TypeId} {f : Nat × Nat} (h : W.heap[q]? = some (.cells cs T f)) (hT : T ≠ T') : W'.heap[q]? = W.heap[q]? := by
  have hq := (Array.getElem?_eq_some_iff.1 h).1
  refine (hg.block q (by simp; omega) (fun e => ?_)).trans (Below.heap_alloc W o q hq)
  obtain ⟨_, _, cur, h4⟩ := ownG_cells own' e.symm
  exact ne_of_type h h4 hT rfl
theorem OwnV.keep {T z T' z' n' m c : Nat} {w W W' : World} {xs ys : List Value} {a : Option Addr} {v' : Value} {o : Obj} (h : OwnV T z w xs a m c W) (own' : W.ownsRow w.heap.size T' z' v' n' ys) (hT : T ≠ T') (hg : (W.alloc o).grownBy W' v'.ownBlock) : OwnV T z w xs a m c W' := by
  refine ⟨ownG_kept h.own (fun q hv hq => ?_), ((h.bel.alloc h.bel.size o).grown hg (by simp; exact Nat.le_succ_of_le h.bel.size) (fun q hq => (ownG_cells own' hq).1))⟩
  obtain ⟨_, _, cur, h4⟩ := ownG_cells h.own hv
  exact grown_at own' hg h4 hT
/-- Numbers that can be read. -/
structure IArg (a : Option Addr) (xs : List Int) (W : World) : Prop where
  at_ : 0 < xs.length → ∃ b off, a = some ⟨b, off, none⟩ ∧ b < W.heap.size ∧ ∀ j, j < xs.length → W.cell? ⟨b, off + j, none⟩ = some (.int .i64 (xs.getD j 0))
theorem IArg.below {a : Option Addr} {xs : List Int} {W W' : World} (h : IArg a xs W) (hb : Below W.heap.size W W') : IArg a xs W' := by
  refine ⟨fun h0 => ?_⟩
  obtain ⟨b, off, rfl, hlt, hc⟩ := h.at_ h0
  exact ⟨b, off, rfl, Nat.lt_of_lt_of_le hlt hb.size, fun j hj => (hb.cell (by exact hlt)).trans (hc j hj)⟩
def I (x : Int) : Value := .int .i64 x
theorem info3 : (Tryz.prog.info? 3).map (fun i => (i.zero, i.size, i.bytes)) = some (some (.int .i64 0), 1, 8) := by kernel_rfl
theorem OwnV.iarg {w W : World} {xs : List Int} {a : Option Addr} {m c : Nat} (h : OwnV 3 1 w (xs.map I) a m c W) : IArg a xs W := by
  refine ⟨fun h0 => ?_⟩
  have hl := h.len
  rw [List.length_map] at hl
  rcases h.own.2 with ⟨h1, h2⟩ | ⟨g, cap, cur, hv, hb, hg, h3, h4, h5, h6⟩
  · omega
  · injection hv with e1 e2 e3
    refine ⟨g, 0, e1, (Array.getElem?_eq_some_iff.1 hg).1, fun j hj => ?_⟩
    rw [Nat.zero_add, Lib.cell_of_heap hg j]
    have e : cur.toList[j]? = (xs.map I)[j]? := by rw [← h6, List.getElem?_take_of_lt (by omega)]
    rw [← Array.getElem?_toList, e, List.getElem?_map, List.getElem?_eq_getElem hj, List.getD_eq_getElem?_getD, List.getElem?_eq_getElem hj]; rfl
theorem iarg_nil (W : World) (a : Option Addr) : IArg a [] W := ⟨fun h => absurd h (by simp)⟩
theorem TArg.tail {b off : Nat} {ss : List ByteArray} {W : World} (h : TArg (some ⟨b, off, none⟩) ss W) : TArg (some ⟨b, off + 1, none⟩) ss.tail W := by
  refine ⟨fun h0 => ?_⟩
  rw [List.length_tail] at h0
  obtain ⟨b', off', e, hlt, hc⟩ := h.at_ (by omega)
  injection e with e; injection e with e1 e2; subst e1 e2
  refine ⟨b, off + 1, rfl, hlt, fun j hj => ?_⟩
  rw [List.length_tail] at hj
  rw [show off + 1 + j = off + (j + 1) by omega, hc (j + 1) (by omega)]
  congr 2
  cases ss with
  | nil => rfl
  | cons x r => rfl

/-- One part more. -/
theorem all_drop {sh : List UInt8} {ts : List ByteArray} {i : Nat} (h1 : i < sh.length) (h2 : i < ts.length) : allT (sh.drop i) (ts.drop i) = (okT (sh.getD i 0) (ts.getD i ⟨#[]⟩) && allT (sh.drop (i + 1)) (ts.drop (i + 1))) := by
  rw [List.drop_eq_getElem_cons h1, List.drop_eq_getElem_cons h2, allT, List.getD_eq_getElem?_getD, List.getD_eq_getElem?_getD, List.getElem?_eq_getElem h1, List.getElem?_eq_getElem h2]; rfl
theorem words_drop {sh : List UInt8} {ts : List ByteArray} {i : Nat} (h1 : i < sh.length) (h2 : i < ts.length) : wordsT (sh.drop i) (ts.drop i) = if sh.getD i 0 = 119 then meanW (ts.getD i ⟨#[]⟩) :: wordsT (sh.drop (i + 1)) (ts.drop (i + 1)) else wordsT (sh.drop (i + 1)) (ts.drop (i + 1)) := by
  rw [List.drop_eq_getElem_cons h1, List.drop_eq_getElem_cons h2, wordsT, List.getD_eq_getElem?_getD, List.getD_eq_getElem?_getD, List.getElem?_eq_getElem h1, List.getElem?_eq_getElem h2]; rfl
theorem nums_drop {sh : List UInt8} {ts : List ByteArray} {i : Nat} (h1 : i < sh.length) (h2 : i < ts.length) : numsT (sh.drop i) (ts.drop i) = if sh.getD i 0 = 119 then numsT (sh.drop (i + 1)) (ts.drop (i + 1)) else (numI (ts.getD i ⟨#[]⟩).data.toList).1 :: numsT (sh.drop (i + 1)) (ts.drop (i + 1)) := by
  rw [List.drop_eq_getElem_cons h1, List.drop_eq_getElem_cons h2, numsT, List.getD_eq_getElem?_getD, List.getD_eq_getElem?_getD, List.getElem?_eq_getElem h1, List.getElem?_eq_getElem h2]; rfl
theorem all_len {sh : List UInt8} {ts : List ByteArray} (h : allT sh ts = true) : sh.length = ts.length := by
  induction sh generalizing ts with
  | nil => cases ts with | nil => rfl | cons => cases h
  | cons c r ih => cases ts with
    | nil => cases h
    | cons t u => rw [allT, Bool.and_eq_true] at h; simp [ih h.2]
theorem lens_le {sh : List UInt8} {ts : List ByteArray} : (wordsT sh ts).length ≤ ts.length ∧ (numsT sh ts).length ≤ ts.length := by
  induction sh generalizing ts with
  | nil => simp [wordsT, numsT]
  | cons c r ih => cases ts with
    | nil => simp [wordsT, numsT]
    | cons t u =>
      have := @ih u
      rw [wordsT, numsT]
      split <;> simp <;> omega
end Go.Proofs.YthklibioolnggaaGreatDoor
