import Derived.Test.YthopecgcpfhceadR
import Derived.Lib.AppendStr
namespace Go.Proofs.Sha
open Go Go.RowKit

theorem strCells_B (s : ByteArray) : Lib.strCells s = s.data.toList.map B := rfl
section
variable {P : Program} (w : World)

/-- 'append(b, s...)' of a string's bytes onto a row that the call owns. -/
theorem run_append_str_row (t u ty e : TypeId) (i : TypeInfo) (z : Value) (bytes : Nat) (ht : P.underlying t = some (.slice e)) (hu : P.underlying u = some .string) (hi : P.info? e = some i) (hz : i.zero = some z)
    (hsize : i.size = 1) (hby : i.bytes = bytes) (hzs : z.cells.size = 1)
    (base g n cap : Nat) (xs : List Value) (hr : Row w base g n cap xs) (s : ByteArray)
    (h63 : n + s.size ≤ maxLen) (hbytes : (n + s.size) * bytes ≤ 140737488355328) (hbase : base ≤ w.heap.size) (H : Nat) (hH : w.heap.size = H) :
    ∃ g' cap' w', (Builtin.append_ #[t, u] ty #[.slice (some ⟨g, 0, none⟩) n cap, .string s]).run P w = .ok (.slice (some ⟨g', 0, none⟩) (n + s.size) cap') w' ∧
      Row w' base g' (n + s.size) cap' (xs ++ s.data.toList.map B) ∧ w.grownBy w' (some g) ∧ (g' = g ∨ g' = H) ∧ (∀ j, j < n → w'.cell? ⟨g, j, none⟩ = w.cell? ⟨g, j, none⟩) := by
  obtain ⟨news, hnd⟩ : ∃ news, s.data.toList.map B = news := ⟨_, rfl⟩
  have hl : news.length = s.size := by rw [← hnd, List.length_map]; rfl
  have h1 : ∀ u ∈ news, u.oneCell' = true := by rw [← hnd, ← strCells_B]; exact Lib.strCells_oneCell s
  have hsc : Lib.strCells s = news := hnd
  rw [hnd]
  by_cases hroom : n + s.size ≤ cap
  · have hrun : (Builtin.append_ #[t, u] ty #[.slice (some ⟨g, 0, none⟩) n cap, .string s]).run P w = .ok (.slice (some ⟨g, 0, none⟩) (n + s.size) cap) (w.setCells g n news) := by
      have hf := Lib.run_firstCells_string (P := P) w 1 s
      rw [hsc] at hf
      have hst := run_storeCells_cells (P := P) g n news 0 w (fun j hj => by have := hr.room (n + j) (by omega); simpa using this) (fun j hj => by have := hr.free (n + j) (by omega); simpa using this) h1
      simp only [Nat.add_zero] at hst
      simp [Builtin.append_, run_underlying ht, run_underlying hu, sizeOf, typeInfo, hi, hsize, Builtin.lenOf, hroom, hf, Addr.add_lit, hst]
    have hin : ∀ j (hj : j < news.length), (w.setCells g n news).cell? ⟨g, n + j, none⟩ = some news[j] := World.cell?_setCells_in g news n w (fun j hj => hr.room (n + j) (by omega))
    have hout : ∀ j, j < n ∨ n + news.length ≤ j → (w.setCells g n news).cell? ⟨g, j, none⟩ = w.cell? ⟨g, j, none⟩ := fun j hj => World.cell?_setCells_out g news n w ⟨g, j, none⟩ (fun _ _ => hj)
    have hgr := grownBy_setCells g news n w
    refine ⟨g, cap, w.setCells g n news, hrun, ⟨hr.ge, Nat.lt_of_lt_of_le hr.lt hgr.size, by rw [List.length_append, hr.len, hl], hroom, ?_, ?_, ?_⟩, hgr, .inl rfl, fun j hj => hout j (.inl hj)⟩
    · intro j hj
      rcases Nat.lt_or_ge j n with h | h
      · rw [hout j (.inl h), hr.cell j h, List.getElem?_append_left (by rw [hr.len]; exact h)]
      · obtain ⟨q, rfl⟩ := Nat.exists_eq_add_of_le h
        rw [hin q (by omega), List.getElem?_append_right (by rw [hr.len]; omega), hr.len, Nat.add_sub_cancel_left, List.getElem?_eq_getElem (by omega)]
    · intro j hj
      rcases Nat.lt_or_ge j n with h | h
      · rw [hout j (.inl h)]; exact hr.room j hj
      · rcases Nat.lt_or_ge j (n + news.length) with h' | h'
        · obtain ⟨q, rfl⟩ := Nat.exists_eq_add_of_le h
          rw [hin q (by omega)]; rfl
        · rw [hout j (.inr h')]; exact hr.room j hj
    · intro j hj
      rw [World.frozen?_setCells]; exact hr.free j hj
  · have holds : ∀ j u, xs[j]? = some u → w.cell? ((⟨g, 0, none⟩ : Addr).add j) = some u := fun j u hu => by
      have hj : j < n := by have := (List.getElem?_eq_some_iff.1 hu).1; have := hr.len; omega
      have hadd : (⟨g, 0, none⟩ : Addr).add j = ⟨g, j, none⟩ := by unfold Addr.add; split <;> simp_all
      rw [hadd, hr.cell j hj, hu]
    have hrun := Lib.run_append_grow_string (P := P) w t u ty e i z ht hu hi hz ⟨g, 0, none⟩ n cap xs (by rw [hr.len, hsize, Nat.mul_one]) holds s (by omega) (by simp only [maxLen] at h63; omega) (growslice_fits (by omega) (by rw [hby]; exact hbytes))
    rw [hsc] at hrun
    have hge := grownCap_ge w (n + s.size) cap e
    have hnew : (w.drew.alloc (.cells (xs.toArray ++ news.toArray ++ Builtin.zeroCells z.cells (grownCap w (n + s.size) cap e - (n + s.size))) e)).heap[w.heap.size]? = _ := heap_alloc_new w.drew _
    have hgr : w.grownBy (w.drew.alloc (.cells (xs.toArray ++ news.toArray ++ Builtin.zeroCells z.cells (grownCap w (n + s.size) cap e - (n + s.size))) e)) (some g) := grownBy_allocR (grownBy_drew w _) _
    have hsz : (xs.toArray ++ news.toArray ++ Builtin.zeroCells z.cells (grownCap w (n + s.size) cap e - (n + s.size))).size = grownCap w (n + s.size) cap e := by
      simp only [Array.size_append, List.size_toArray, size_zeroCells, hzs, hr.len, hl]; omega
    refine ⟨w.heap.size, _, _, hrun, ?_, hgr, .inr hH, fun j hj => World.cell?_of_block (w := w) (heap_alloc_old w.drew _ hr.lt)⟩
    have hrow := Row.of_block hbase hnew (n + s.size) (by rw [hsz]; exact hge) (.inl rfl)
    rw [hsz] at hrow
    have htk : List.take (n + s.size) (xs.toArray ++ news.toArray ++ Builtin.zeroCells z.cells (grownCap w (n + s.size) cap e - (n + s.size))).toList = xs ++ news := by
      simp only [Array.toList_append, List.append_assoc]
      rw [← List.append_assoc]
      exact List.take_left' (by rw [List.length_append, hr.len, hl])
    rw [htk] at hrow
    exact hrow

theorem wpList_append_str {ops : Array Oper} {rest : List Oper} {o : Oper} {a : Act} {Q : Exit → Act → World → Prop} (hgd : o.guard = none) (sl x : Operand) (t u : TypeId)
    (ho : o.op = .call { callee := .builtin .append, args := #[sl, x], argTypes := #[t, u] })
    (e : TypeId) (i : TypeInfo) (z : Value) (bytes : Nat) (ht : P.underlying t = some (.slice e)) (hu : P.underlying u = some .string) (hi : P.info? e = some i) (hz : i.zero = some z)
    (hsize : i.size = 1) (hby : i.bytes = bytes) (hzs : z.cells.size = 1)
    (base g n cap : Nat) (xs : List Value) (hs : a.eval sl = .slice (some ⟨g, 0, none⟩) n cap) (hr : Row w base g n cap xs)
    (s : ByteArray) (hx : a.eval x = .string s)
    (h63 : n + s.size ≤ maxLen) (hbytes : (n + s.size) * bytes ≤ 140737488355328) (hbase : base ≤ w.heap.size) (H : Nat) (hH : w.heap.size = H)
    (h : ∀ g' cap' w', Row w' base g' (n + s.size) cap' (xs ++ s.data.toList.map B) → w.grownBy w' (some g) → (g' = g ∨ g' = H) →
      (∀ j, j < n → w'.cell? ⟨g, j, none⟩ = w.cell? ⟨g, j, none⟩) → wpList P ops Q rest (a.put o.dst (.slice (some ⟨g', 0, none⟩) (n + s.size) cap')) w') : wpList P ops Q (o :: rest) a w :=
  wpList_plain hgd fun _ hK => by
    obtain ⟨g', cap', w', hrun, h2, h3, h4, h5⟩ := run_append_str_row (P := P) w t u o.type e i z bytes ht hu hi hz hsize hby hzs base g n cap xs hr s h63 hbytes hbase H hH
    unfold Oper.wp execOp
    simp only [ho, resolve, invoke, builtin, Sem.run_bind, Sem.run_pure, Result.andThen_ok, List.map_toArray, List.map_cons, List.map_nil, hs, hx, hrun]
    exact hK _ _ (h g' cap' w' h2 h3 h4 h5)
end
end Go.Proofs.Sha
